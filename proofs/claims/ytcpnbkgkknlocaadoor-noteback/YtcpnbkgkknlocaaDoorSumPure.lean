/-
  Chapter 1 in plain functions on lists: what Check answers, what a sum is. Nothing of any program.
-/
import Derived.Test.YtcpnbkgkknlocaaDoorGen
namespace Go.Proofs.YtcpnbkgkknlocaaDoor
set_option linter.unusedVariables false
set_option linter.unusedSimpArgs false

/-- a block in memory: where it begins, its capacity, its bytes -/
structure Blk where
  a : Option Addr
  cap : Nat
  l : List UInt8

def Blk.val (b : Blk) : Value := .slice b.a b.l.length b.cap

/-- each lies there, none too long for a slice -/
def AllIn (w : World) (bl : List Blk) : Prop := ∀ b ∈ bl, Lies w b.a (bs b.l) ∧ b.l.length ≤ maxLen

def lens (bl : List Blk) : List Nat := bl.map fun b => b.l.length

/-- chapter 1's Check, f: the first one's length -/
def chkFrom (f : Nat) : List Nat → Int
  | [] => 0
  | n :: r => if n < 1 ∨ 16 < n then 2 else if n ≠ f then 4 else chkFrom f r

def chk (l : List Nat) : Int := chkFrom (l.headD 0) l

/-- the same, each held against the one ahead -/
def chkPrev : Option Nat → List Nat → Int
  | _, [] => 0
  | none, n :: r => if n < 1 ∨ 16 < n then 2 else chkPrev (some n) r
  | some p, n :: r => if n < 1 ∨ 16 < n then 2 else if n ≠ p then 4 else chkPrev (some n) r

theorem chkPrev_some (p : Nat) (l : List Nat) : chkPrev (some p) l = chkFrom p l := by
  induction l with
  | nil => rfl
  | cons n r ih =>
    simp only [chkPrev, chkFrom]
    by_cases h : n < 1 ∨ 16 < n
    · rw [if_pos h, if_pos h]
    · rw [if_neg h, if_neg h]
      by_cases e : n = p
      · subst e; rw [if_neg (by simp), if_neg (by simp), ih]
      · rw [if_pos e, if_pos e]

theorem chkPrev_none (l : List Nat) : chkPrev none l = chk l := by
  cases l with
  | nil => rfl
  | cons n r => simp [chkPrev, chk, chkFrom, chkPrev_some]

/-- as far as k nothing was wrong -/
def okTo (f : Nat) (l : List Nat) (k : Nat) : Prop := ∀ i (h : i < l.length), i < k → 1 ≤ l[i] ∧ l[i] ≤ 16 ∧ l[i] = f

theorem okTo_zero (f : Nat) (l : List Nat) : okTo f l 0 := fun i h hk => by omega

theorem okTo_succ {f : Nat} {l : List Nat} {k : Nat} (h : okTo f l k) (hk : k < l.length) (h1 : 1 ≤ l[k]) (h2 : l[k] ≤ 16) (h3 : l[k] = f) : okTo f l (k + 1) := by
  intro i hi hik
  by_cases e : i = k
  · subst e; exact ⟨h1, h2, h3⟩
  · exact h i hi (by omega)

theorem chkFrom_all {f : Nat} {l : List Nat} (h : okTo f l l.length) : chkFrom f l = 0 := by
  induction l with
  | nil => rfl
  | cons n r ih =>
    have h0 := h 0 (by simp) (by simp)
    simp only [List.getElem_cons_zero] at h0
    have hr : okTo f r r.length := fun i hi _ => by
      have := h (i + 1) (by simp; omega) (by simp; omega)
      simpa using this
    simp only [chkFrom]
    rw [if_neg (by omega), if_neg (by omega), ih hr]

theorem chkFrom_at {f : Nat} {l : List Nat} {k : Nat} (h : okTo f l k) (hk : k < l.length) :
    (l[k] < 1 ∨ 16 < l[k] → chkFrom f l = 2) ∧ (¬ (l[k] < 1 ∨ 16 < l[k]) → l[k] ≠ f → chkFrom f l = 4) := by
  induction l generalizing k with
  | nil => simp at hk
  | cons n r ih =>
    cases k with
    | zero =>
      simp only [List.getElem_cons_zero]
      exact ⟨fun hb => by rw [chkFrom, if_pos hb], fun hb hf => by rw [chkFrom, if_neg hb, if_pos hf]⟩
    | succ k =>
      have h0 := h 0 (by simp) (by omega)
      simp only [List.getElem_cons_zero] at h0
      have hr : okTo f r k := fun i hi hik => by
        have := h (i + 1) (by simp; omega) (by omega)
        simpa using this
      have := ih hr (by simpa using hk)
      simp only [List.getElem_cons_succ]
      simp only [chkFrom]
      rw [if_neg (by omega), if_neg (by omega)]
      exact this

theorem chk_zero {l : List Nat} (h : chk l = 0) : ∀ i (hi : i < l.length), 1 ≤ l[i] ∧ l[i] ≤ 16 ∧ l[i] = l.headD 0 := by
  have : ∀ (f : Nat) (l : List Nat), chkFrom f l = 0 → ∀ i (hi : i < l.length), 1 ≤ l[i] ∧ l[i] ≤ 16 ∧ l[i] = f := by
    intro f l
    induction l with
    | nil => intro _ i hi; simp at hi
    | cons n r ih =>
      intro h i hi
      simp only [chkFrom] at h
      by_cases hb : n < 1 ∨ 16 < n
      · rw [if_pos hb] at h; omega
      · rw [if_neg hb] at h
        by_cases e : n = f
        · rw [if_neg (by simp [e])] at h
          cases i with
          | zero => simp only [List.getElem_cons_zero]; omega
          | succ i => simpa using ih h i (by simpa using hi)
        · rw [if_pos e] at h; omega
  exact this _ _ h

theorem chk_range (l : List Nat) : chk l = 0 ∨ chk l = 2 ∨ chk l = 4 := by
  have : ∀ (f : Nat) (l : List Nat), chkFrom f l = 0 ∨ chkFrom f l = 2 ∨ chkFrom f l = 4 := by
    intro f l
    induction l with
    | nil => exact .inl rfl
    | cons n r ih =>
      simp only [chkFrom]
      split
      · exact .inr (.inl rfl)
      · split
        · exact .inr (.inr rfl)
        · exact ih
  exact this _ _

/-- two blocks, added -/
def xorl (a b : List UInt8) : List UInt8 := List.zipWith (fun x y => x ^^^ y) a b

theorem xorl_length (a b : List UInt8) (h : b.length = a.length) : (xorl a b).length = a.length := by simp [xorl, h]

def zeros (n : Nat) : List UInt8 := List.replicate n 0

/-- all of them, added to what is there -/
def sumTo (acc : List UInt8) : List (List UInt8) → List UInt8
  | [] => acc
  | b :: r => sumTo (xorl acc b) r

theorem sumTo_append (acc : List UInt8) (l m : List (List UInt8)) : sumTo acc (l ++ m) = sumTo (sumTo acc l) m := by
  induction l generalizing acc with
  | nil => rfl
  | cons b r ih => simp [sumTo, ih]

theorem sumTo_length {n : Nat} (acc : List UInt8) (l : List (List UInt8)) (ha : acc.length = n) (hl : ∀ b ∈ l, b.length = n) : (sumTo acc l).length = n := by
  induction l generalizing acc with
  | nil => exact ha
  | cons b r ih =>
    simp only [sumTo]
    refine ih _ ?_ fun c hc => hl c (by simp [hc])
    rw [xorl_length _ _ (by rw [ha]; exact hl b (by simp)), ha]

/-- chapter 1's Add, of right blocks -/
def sumOf (ls : List (List UInt8)) : List UInt8 := sumTo (zeros (ls.headD []).length) ls

end Go.Proofs.YtcpnbkgkknlocaaDoor
