import Derived.WalkKit
import Derived.WalkSpells
import Derived.WalkSmall
import Derived.Deep.OwnRows
import Derived.BigQuiet
import Derived.Deep.QuietTactic
import Derived.Deep.Draws
import Derived.ProofKit
import Derived.OpenShut
import Derived.ShutString
import Derived.ChangeOld
import Derived.Below
import Derived.Carry
import Derived.SizedLaws
import Derived.Deep.Slices
import Derived.Lib.SmallJoins
import Derived.Test.YthhhlampphlmgaaRows
/-
  What a slice's cells hold, said once, without any program: 'Lies w a xs'. And how that carries over worlds in which nothing old has turned.
-/
namespace Go.Proofs.Ythhhlampphlmgaa
open Go.RowKit
set_option linter.unusedVariables false
set_option linter.unusedSimpArgs false

/-- The cells that begin at 'a' hold xs, one cell an element. -/
def Lies (w : World) (a : Option Addr) (xs : List Value) : Prop :=
  ∀ k u, xs[k]? = some u → ∃ b off, a = some ⟨b, off, none⟩ ∧ w.cell? ⟨b, off + k, none⟩ = some u

theorem Lies.nil (w : World) (a : Option Addr) : Lies w a [] := by
  intro k u h
  simp at h

theorem Lies.lt {w : World} {a : Option Addr} {xs : List Value} (h : Lies w a xs) {b off : Nat} (e : a = some ⟨b, off, none⟩) (k : Nat) (hk : k < xs.length) :
    w.cell? ⟨b, off + k, none⟩ = some xs[k] := by
  obtain ⟨b', off', e', hc⟩ := h k xs[k] (by simp [hk])
  rw [e] at e'
  simp at e'
  obtain ⟨rfl, rfl⟩ := e'
  exact hc

theorem Lies.some {w : World} {a : Option Addr} {xs : List Value} (h : Lies w a xs) {k : Nat} (hk : k < xs.length) : ∃ b off, a = .some ⟨b, off, none⟩ := by
  obtain ⟨b, off, e, _⟩ := h k xs[k] (by simp [hk])
  exact ⟨b, off, e⟩

theorem Lies.at {w : World} {b off : Nat} {xs : List Value} (h : Lies w (.some ⟨b, off, none⟩) xs) {k : Nat} {u : Value} (hu : xs[k]? = .some u) : w.cell? ⟨b, off + k, none⟩ = .some u := by
  obtain ⟨b', off', e', hc⟩ := h k u hu
  simp at e'
  obtain ⟨rfl, rfl⟩ := e'
  exact hc

theorem Lies.mk {w : World} {b off : Nat} {xs : List Value} (h : ∀ k (hk : k < xs.length), w.cell? ⟨b, off + k, none⟩ = .some xs[k]) : Lies w (.some ⟨b, off, none⟩) xs := by
  intro k u hu
  obtain ⟨hk, rfl⟩ := List.getElem?_eq_some_iff.1 hu
  exact ⟨b, off, rfl, h k hk⟩

/-- All that lies is old: whatever keeps the old blocks keeps it. -/
theorem Lies.below {w w' : World} {B : Nat} (hb : Below B w w') {a : Option Addr} {xs : List Value} (h : Lies w a xs) (hB : w.heap.size ≤ B) : Lies w' a xs := by
  intro k u hu
  obtain ⟨b, off, e, hc⟩ := h k u hu
  refine ⟨b, off, e, ?_⟩
  have := World.block_lt_of_cell? w _ hc
  rw [hb.cell (p := ⟨b, off + k, none⟩) (by simp at this ⊢; omega)]
  exact hc

theorem Lies.drewN {w : World} {a : Option Addr} {xs : List Value} (h : Lies w a xs) (n : Nat) : Lies (w.drewN n) a xs := by
  intro k u hu
  obtain ⟨b, off, e, hc⟩ := h k u hu
  exact ⟨b, off, e, by simpa using hc⟩

theorem bdn (w : World) (n B : Nat) : Below B w (w.drewN n) := by
  induction n with
  | zero => exact Below.refl _ _
  | succ n ih => exact ih.trans (by first | exact (Below.refl _ _).drew | simpa using (Below.refl _ _).drew)

/-- A block that is laid anew lies there. -/
theorem Lies.alloc_new (w : World) (c : Array Value) (t : TypeId) : Lies (w.alloc (.cells c t)) (.some ⟨w.heap.size, 0, none⟩) c.toList := by
  refine Lies.mk fun k hk => ?_
  have e : (w.alloc (.cells c t)).heap[w.heap.size]? = .some (.cells c t) := by show (w.heap.push _)[w.heap.size]? = _; simp
  simp only [World.cell?, e]
  simp at hk ⊢

theorem Lies.alloc {w : World} {a : Option Addr} {xs : List Value} (h : Lies w a xs) (o : Obj) : Lies (w.alloc o) a xs :=
  h.below ((Below.refl w.heap.size w).alloc (Nat.le_refl _) o) (Nat.le_refl _)

theorem Lies.of_block {w : World} {b : Nat} {c : Array Value} {t : TypeId} {f : Nat × Nat} (e : w.heap[b]? = .some (.cells c t f)) : Lies w (.some ⟨b, 0, none⟩) c.toList := by
  refine Lies.mk fun k hk => ?_
  simp only [World.cell?, e]
  simp at hk ⊢

/-- The blocks that are laid, one behind the other. -/
theorem heap_alloc_eq (w : World) (o : Obj) (b : Nat) : (w.alloc o).heap[b]? = if b = w.heap.size then some o else w.heap[b]? := by
  show (w.heap.push o)[b]? = _
  rw [Array.getElem?_push]

theorem size_alloc_eq (w : World) (o : Obj) : (w.alloc o).heap.size = w.heap.size + 1 := by simp

theorem grown_drewN {w w' : World} (h : Grown w w') (n : Nat) : Grown w (w'.drewN n) := h

/-- What a slice owns lies at its head. -/
theorem own_lies {w : World} {B : Nat} {e : TypeId} {v : Value} {n : Nat} {xs : List Value} (h : w.ownsRow B e 1 v n xs) : ∃ a cap, v = .slice a n cap ∧ Lies w a xs ∧ n = xs.length := by
  have hn : n = xs.length := by simpa using h.1.symm
  rcases h.2 with ⟨rfl, h0⟩ | ⟨g, cap, cur, rfl, hb, hg, hnc, hcm, hcs, htake⟩
  · subst h0
    have : xs = [] := List.eq_nil_of_length_eq_zero hn.symm
    subst this
    exact ⟨none, 0, rfl, Lies.nil _ _, rfl⟩
  · refine ⟨_, cap, rfl, Lies.mk fun k hk => ?_, hn⟩
    simp only [World.cell?, hg]
    have h2 : xs[k]? = cur.toList[k]? := by
      rw [← htake, List.getElem?_take, if_pos (by omega)]
    simp at h2
    simp [← h2]

theorem grown_trans {a b c : World} {row : Option Nat} (h : a.grownBy b row) (k : b.grownBy c row) : a.grownBy c row :=
  ⟨k.os.trans h.os, k.tape.trans h.tape, k.output.trans h.output, Nat.le_trans h.size k.size, fun i hi hr => (k.block i (by have := h.size; omega) hr).trans (h.block i hi hr)⟩

theorem grown_refl (a : World) (row : Option Nat) : a.grownBy a row := ⟨rfl, rfl, rfl, Nat.le_refl _, fun _ _ _ => rfl⟩

theorem grown_setCell (w : World) (g o : Nat) (v : Value) : w.grownBy (w.setCell ⟨g, o, none⟩ v) (some g) :=
  ⟨rfl, rfl, rfl, by simp [World.setCell], fun k hk hr => Below.heap_setCell _ _ _ _ (fun e => hr (by simp [e]))⟩

theorem lies_grown {w w' : World} {g : Nat} (h : w.grownBy w' (some g)) {a : Option Addr} {xs : List Value} (hl : Lies w a xs) (hne : ∀ b off, a = some ⟨b, off, none⟩ → b ≠ g) : Lies w' a xs := by
  intro k u hu
  obtain ⟨b, off, e, hc⟩ := hl k u hu
  exact ⟨b, off, e, h.cell hc (by have := hne b off e; simp; exact this)⟩

/-- bytes as cells -/
def bs (l : List UInt8) : List Value := l.map fun x => Value.int .u8 (x.toNat : Int)

theorem bs_length (l : List UInt8) : (bs l).length = l.length := by simp [bs]

theorem u8_lt (x : UInt8) : (x.toNat : Int) < 256 := by have := x.toNat_lt; omega

theorem bs_get (l : List UInt8) (k : Nat) (h : k < l.length) : (bs l)[k]? = some (.int .u8 (l[k].toNat : Int)) := by simp [bs, h]

end Go.Proofs.Ythhhlampphlmgaa

/-
  Small lemmas of no program, used by all layers.
-/
namespace Go.Proofs.Ythhhlampphlmgaa
open Go.RowKit
set_option linter.unusedVariables false
set_option linter.unusedSimpArgs false

/-- an int of Go's -/
def I64 (x : Int) : Prop := -9223372036854775808 ≤ x ∧ x ≤ 9223372036854775807

/-- a fact kept from the walk: unlike Hid no unification looks into it -/
structure Shut (p : Prop) : Prop where
  out : p

theorem ret_bool {a b : Bool} (h : a = b) : Ending.returned (.bool a) = .returned (.bool b) := by rw [h]
theorem ret_int {k : IntKind} {a b : Int} (h : a = b) : Ending.returned (.int k a) = .returned (.int k b) := by rw [h]

theorem retB {a b : Bool} (h : a = b) : Ending.returned (.bool a) = .returned (.bool b) := by rw [h]

theorem ret2 {x y x' y' : Value} (h : x = x') (k : y = y') : Ending.returned (.tuple #[x, y]) = .returned (.tuple #[x', y']) := by rw [h, k]

theorem bcell {W w1 : World} (hb : Below W.heap.size W w1) : (∀ b o, b < W.heap.size → w1.cell? ⟨b, o, none⟩ = W.cell? ⟨b, o, none⟩) ∧ (∀ b o, b < W.heap.size → w1.frozen? ⟨b, o, none⟩ = W.frozen? ⟨b, o, none⟩) :=
  ⟨fun b o h => hb.cell (p := ⟨b, o, none⟩) h, fun b o h => hb.frozen (p := ⟨b, o, none⟩) h⟩

theorem Hid.mk' {p : Prop} (h : p) : Hid p := h

theorem boxBelow {w w1 : World} {o : Obj} (h : Below (w.alloc o).heap.size (w.alloc o) w1) : Below w.heap.size w w1 :=
  ((Below.refl _ _).alloc (Nat.le_refl _) o).trans (h.mono (by simp))

theorem rowIs_lies {w : World} {g n : Nat} {t : TypeId} {f : Nat → Value} (h : w.rowIs g t n f) : Lies w (some ⟨g, 0, none⟩) ((List.range n).map f) := by
  refine Lies.mk fun k hk => ?_
  have hk' : k < n := by simpa using hk
  rw [Nat.zero_add, h.cell hk']
  simp

theorem own_slice {w : World} {B : Nat} {e : TypeId} {v : Value} {n : Nat} {xs : List Value} (h : w.ownsRow B e 1 v n xs) : ∃ p q, v = .slice p n q ∧ n ≤ q := by
  rcases h.2 with ⟨rfl, h0⟩ | ⟨g, cap, cur, rfl, hb, hg, hnc, hcm, hcs, htake⟩
  · subst h0
    exact ⟨none, 0, rfl, Nat.le_refl _⟩
  · exact ⟨_, _, rfl, hnc⟩

theorem own_below {w w' : World} {B : Nat} {e : TypeId} {v : Value} {n : Nat} {xs : List Value} (h : w.ownsRow B e 1 v n xs) (hb : Below w.heap.size w w') : w'.ownsRow B e 1 v n xs := by
  refine ⟨h.1, ?_⟩
  rcases h.2 with h0 | ⟨g, cap, cur, rfl, hbg, hg, hnc, hcm, hcs, htake⟩
  · exact .inl h0
  · have hlt : g < w.heap.size := (Array.getElem?_eq_some_iff.1 hg).1
    exact .inr ⟨g, cap, cur, rfl, hbg, by rw [hb.block g hlt]; exact hg, hnc, hcm, hcs, htake⟩

theorem own_mono {w : World} {B B' : Nat} {e : TypeId} {v : Value} {n : Nat} {xs : List Value} (h : w.ownsRow B e 1 v n xs) (hB : B' ≤ B) : w.ownsRow B' e 1 v n xs := by
  refine ⟨h.1, ?_⟩
  rcases h.2 with h0 | ⟨g, cap, cur, rfl, hbg, hg, hnc, hcm, hcs, htake⟩
  · exact .inl h0
  · exact .inr ⟨g, cap, cur, rfl, by omega, hg, hnc, hcm, hcs, htake⟩

theorem own_row {w : World} {B : Nat} {e : TypeId} {v : Value} {n : Nat} {xs : List Value} (h : w.ownsRow B e 1 v n xs) (hn : 0 < n) :
    ∃ g cap f, v = .slice (some ⟨g, 0, none⟩) n cap ∧ B ≤ g ∧ w.rowIs g e cap f ∧ n ≤ cap ∧ cap ≤ maxLen ∧ ∀ i (hi : i < xs.length), f i = xs[i] := by
  rcases h.2 with ⟨rfl, h0⟩ | ⟨g, cap, cur, rfl, hb, hg, hnc, hcm, hcs, htake⟩
  · omega
  · refine ⟨g, cap, fun i => cur[i]?.getD undef, rfl, hb, ⟨cur, hg, by omega, fun i hi => by simp [show i < cur.size by omega]⟩, hnc, hcm, fun i hi => ?_⟩
    have h2 : xs[i]? = cur.toList[i]? := by
      rw [← htake, List.getElem?_take, if_pos (by have := h.1; omega)]
    simp at h2
    show cur[i]?.getD undef = xs[i]
    rw [← h2]
    simp [hi]

theorem row_lies' {w : World} {g cap : Nat} {e : TypeId} {f : Nat → Value} (h : w.rowIs g e cap f) (xs : List Value) (hn : xs.length ≤ cap) (hx : ∀ i (hi : i < xs.length), f i = xs[i]) : Lies w (some ⟨g, 0, none⟩) xs := by
  refine Lies.mk fun k hk => ?_
  rw [Nat.zero_add, h.cell (by omega), hx k hk]

end Go.Proofs.Ythhhlampphlmgaa

/-
  Chapter 1 in plain functions on lists: what Check answers, what a sum is. Nothing of any program.
-/
namespace Go.Proofs.Ythhhlampphlmgaa
set_option linter.unusedVariables false
set_option linter.unusedSimpArgs false

/-- a block in memory: where it begins, its capacity, its bytes -/
structure Blk where
  a : Option Addr
  cap : Nat
  l : List UInt8

def Blk.val (b : Blk) : Value := .slice b.a b.l.length b.cap

/-- each lies there, none too long for a slice -/
def AllIn (w : World) (bl : List Blk) : Prop := ∀ b ∈ bl, Lies w b.a (bs b.l) ∧ b.l.length ≤ maxLen

def lens (bl : List Blk) : List Nat := bl.map fun b => b.l.length

/-- chapter 1's Check, f: the first one's length -/
def chkFrom (f : Nat) : List Nat → Int
  | [] => 0
  | n :: r => if n < 1 ∨ 16 < n then 2 else if n ≠ f then 4 else chkFrom f r

def chk (l : List Nat) : Int := chkFrom (l.headD 0) l

/-- the same, each held against the one ahead -/
def chkPrev : Option Nat → List Nat → Int
  | _, [] => 0
  | none, n :: r => if n < 1 ∨ 16 < n then 2 else chkPrev (some n) r
  | some p, n :: r => if n < 1 ∨ 16 < n then 2 else if n ≠ p then 4 else chkPrev (some n) r

theorem chkPrev_some (p : Nat) (l : List Nat) : chkPrev (some p) l = chkFrom p l := by
  induction l with
  | nil => rfl
  | cons n r ih =>
    simp only [chkPrev, chkFrom]
    by_cases h : n < 1 ∨ 16 < n
    · rw [if_pos h, if_pos h]
    · rw [if_neg h, if_neg h]
      by_cases e : n = p
      · subst e; rw [if_neg (by simp), if_neg (by simp), ih]
      · rw [if_pos e, if_pos e]

theorem chkPrev_none (l : List Nat) : chkPrev none l = chk l := by
  cases l with
  | nil => rfl
  | cons n r => simp [chkPrev, chk, chkFrom, chkPrev_some]

/-- as far as k nothing was wrong -/
def okTo (f : Nat) (l : List Nat) (k : Nat) : Prop := ∀ i (h : i < l.length), i < k → 1 ≤ l[i] ∧ l[i] ≤ 16 ∧ l[i] = f

theorem okTo_zero (f : Nat) (l : List Nat) : okTo f l 0 := fun i h hk => by omega

theorem okTo_succ {f : Nat} {l : List Nat} {k : Nat} (h : okTo f l k) (hk : k < l.length) (h1 : 1 ≤ l[k]) (h2 : l[k] ≤ 16) (h3 : l[k] = f) : okTo f l (k + 1) := by
  intro i hi hik
  by_cases e : i = k
  · subst e; exact ⟨h1, h2, h3⟩
  · exact h i hi (by omega)

theorem chkFrom_all {f : Nat} {l : List Nat} (h : okTo f l l.length) : chkFrom f l = 0 := by
  induction l with
  | nil => rfl
  | cons n r ih =>
    have h0 := h 0 (by simp) (by simp)
    simp only [List.getElem_cons_zero] at h0
    have hr : okTo f r r.length := fun i hi _ => by
      have := h (i + 1) (by simp; omega) (by simp; omega)
      simpa using this
    simp only [chkFrom]
    rw [if_neg (by omega), if_neg (by omega), ih hr]

theorem chkFrom_at {f : Nat} {l : List Nat} {k : Nat} (h : okTo f l k) (hk : k < l.length) :
    (l[k] < 1 ∨ 16 < l[k] → chkFrom f l = 2) ∧ (¬ (l[k] < 1 ∨ 16 < l[k]) → l[k] ≠ f → chkFrom f l = 4) := by
  induction l generalizing k with
  | nil => simp at hk
  | cons n r ih =>
    cases k with
    | zero =>
      simp only [List.getElem_cons_zero]
      exact ⟨fun hb => by rw [chkFrom, if_pos hb], fun hb hf => by rw [chkFrom, if_neg hb, if_pos hf]⟩
    | succ k =>
      have h0 := h 0 (by simp) (by omega)
      simp only [List.getElem_cons_zero] at h0
      have hr : okTo f r k := fun i hi hik => by
        have := h (i + 1) (by simp; omega) (by omega)
        simpa using this
      have := ih hr (by simpa using hk)
      simp only [List.getElem_cons_succ]
      simp only [chkFrom]
      rw [if_neg (by omega), if_neg (by omega)]
      exact this

theorem chk_zero {l : List Nat} (h : chk l = 0) : ∀ i (hi : i < l.length), 1 ≤ l[i] ∧ l[i] ≤ 16 ∧ l[i] = l.headD 0 := by
  have : ∀ (f : Nat) (l : List Nat), chkFrom f l = 0 → ∀ i (hi : i < l.length), 1 ≤ l[i] ∧ l[i] ≤ 16 ∧ l[i] = f := by
    intro f l
    induction l with
    | nil => intro _ i hi; simp at hi
    | cons n r ih =>
      intro h i hi
      simp only [chkFrom] at h
      by_cases hb : n < 1 ∨ 16 < n
      · rw [if_pos hb] at h; omega
      · rw [if_neg hb] at h
        by_cases e : n = f
        · rw [if_neg (by simp [e])] at h
          cases i with
          | zero => simp only [List.getElem_cons_zero]; omega
          | succ i => simpa using ih h i (by simpa using hi)
        · rw [if_pos e] at h; omega
  exact this _ _ h

theorem chk_range (l : List Nat) : chk l = 0 ∨ chk l = 2 ∨ chk l = 4 := by
  have : ∀ (f : Nat) (l : List Nat), chkFrom f l = 0 ∨ chkFrom f l = 2 ∨ chkFrom f l = 4 := by
    intro f l
    induction l with
    | nil => exact .inl rfl
    | cons n r ih =>
      simp only [chkFrom]
      split
      · exact .inr (.inl rfl)
      · split
        · exact .inr (.inr rfl)
        · exact ih
  exact this _ _

/-- two blocks, added -/
def xorl (a b : List UInt8) : List UInt8 := List.zipWith (fun x y => x ^^^ y) a b

theorem xorl_length (a b : List UInt8) (h : b.length = a.length) : (xorl a b).length = a.length := by simp [xorl, h]

def zeros (n : Nat) : List UInt8 := List.replicate n 0

/-- all of them, added to what is there -/
def sumTo (acc : List UInt8) : List (List UInt8) → List UInt8
  | [] => acc
  | b :: r => sumTo (xorl acc b) r

theorem sumTo_append (acc : List UInt8) (l m : List (List UInt8)) : sumTo acc (l ++ m) = sumTo (sumTo acc l) m := by
  induction l generalizing acc with
  | nil => rfl
  | cons b r ih => simp [sumTo, ih]

theorem sumTo_length {n : Nat} (acc : List UInt8) (l : List (List UInt8)) (ha : acc.length = n) (hl : ∀ b ∈ l, b.length = n) : (sumTo acc l).length = n := by
  induction l generalizing acc with
  | nil => exact ha
  | cons b r ih =>
    simp only [sumTo]
    refine ih _ ?_ fun c hc => hl c (by simp [hc])
    rw [xorl_length _ _ (by rw [ha]; exact hl b (by simp)), ha]

/-- chapter 1's Add, of right blocks -/
def sumOf (ls : List (List UInt8)) : List UInt8 := sumTo (zeros (ls.headD []).length) ls

end Go.Proofs.Ythhhlampphlmgaa

/-
  What came in, opened: byte slices and slices of byte slices, whatever their readings are. Nothing of any program.
-/
namespace Go.Proofs.Ythhhlampphlmgaa
open Go.ChangeShapes Go.WideShapes Go.ChangeAt Go.RowKit
set_option linter.unusedVariables false
set_option linter.unusedSimpArgs false

section
variable {H : Type} {enc : TypeId × Value → H} {P : Program} {w : World} {held : Bool}

theorem u8_of_wf {n : Int} (h : (Lit.int .u8 n).wf = true) : 0 ≤ n ∧ n < 256 := by
  have : 0 ≤ n ∧ n ≤ 255 := by simpa [Lit.wf, IntKind.min, IntKind.max, IntKind.signed, IntKind.bits] using h
  omega

/-- an address of cells has no spot of its own -/
theorem lies_addr {a : Addr} {k : Nat} {u u0 : Value} (h0 : w.cell? (a.add 0) = some u0) (hk : w.cell? (a.add k) = some u) : ∃ b off, some a = some (⟨b, off, none⟩ : Addr) ∧ w.cell? ⟨b, off + k, none⟩ = some u := by
  obtain ⟨b, off, spot⟩ := a
  have hspot : spot = none := by simpa [Addr.add] using World.cell?_spot h0
  subst hspot
  exact ⟨b, off, rfl, by simpa [Addr.add_lit] using hk⟩

theorem open_bytes {t e : TypeId} {fuel : Nat} {v : Value} {x : DataW H × List MemPlace} (ht : P.underlying t = some (.slice e)) (he : P.underlying e = some (.int .u8)) (hc : P.cellsOf e = 1)
    (h : DataW.trod enc P w 0 (fun _ => true) held fuel t [v] = some x) : ∃ a cap l, v = .slice a l.length cap ∧ Lies w a (bs l) ∧ l.length ≤ maxLen := by
  rcases open_ints ht he hc h with ⟨hcs, _⟩ | ⟨a, len, cap, zs, hcs, _, hl, hm, hz, _, hcell, hwz⟩
  · simp at hcs
    subst hcs
    exact ⟨none, 0, [], rfl, Lies.nil _ _, by simp⟩
  · simp at hcs hz
    subst hcs
    refine ⟨some a, cap, (zs.take len).map fun z => UInt8.ofNat z.toNat, ?_, ?_, ?_⟩
    · simp; omega
    · intro k u hu
      have hk : k < len := by
        obtain ⟨hk, _⟩ := List.getElem?_eq_some_iff.1 hu
        simp [bs] at hk
        omega
      have hkz : k < zs.length := by omega
      have hcl := hcell k hkz
      have hwf := u8_of_wf (hwz zs[k] (by simp))
      have hu' : u = .int .u8 (zs[k]) := by
        simp [bs, hk, hkz] at hu
        rw [← hu]
        congr 1
        omega
      subst hu'
      have e2 : zs.getD k 0 = zs[k] := by simp [List.getD, hkz]
      rw [e2] at hcl
      exact lies_addr (hcell 0 (by omega)) hcl
    · simp; omega

theorem open_blocks {t e e8 : TypeId} {fuel : Nat} {v : Value} {d : DataW H} {ps : List MemPlace} (ht : P.underlying t = some (.slice e)) (hte : P.underlying e = some (.slice e8)) (he : P.underlying e8 = some (.int .u8)) (hc : P.cellsOf e = 1) (hc8 : P.cellsOf e8 = 1)
    (h : DataW.trod enc P w 0 (fun _ => true) held fuel t [v] = some (d, ps)) :
    ∃ a cap bl, v = .slice a bl.length cap ∧ Lies w a (bl.map Blk.val) ∧ AllIn w bl ∧ bl.length ≤ maxLen ∧ ((d = .nil ∧ bl = []) ∨ ∃ elems sp, d = .slice elems sp ∧ elems.length = bl.length) := by
  rcases Go.Deep.open_slice1 ht hc h with ⟨hcs, hx⟩ | ⟨a, len, cap, m, n, V, D, Pl, hcs, _, hl, hm, hmm, hx, hcell⟩
  · simp at hcs hx
    subst hcs
    exact ⟨none, 0, [], rfl, Lies.nil _ _, (fun b hb => by simp at hb), by simp, .inl ⟨hx.1, rfl⟩⟩
  · simp at hcs hx hmm
    subst hcs hmm
    have hb : ∀ i, i < m → ∃ b : Blk, V i = b.val ∧ Lies w b.a (bs b.l) ∧ b.l.length ≤ maxLen := fun i hi => by
      obtain ⟨a', cap', l, e1, e2, e3⟩ := open_bytes hte he hc8 (hcell i hi).2
      exact ⟨⟨a', cap', l⟩, e1, e2, e3⟩
    have : Inhabited Blk := ⟨⟨none, 0, []⟩⟩
    obtain ⟨B, hB⟩ := Go.Deep.choose_lt hb
    refine ⟨some a, m, (List.range len).map B, by simp, ?_, ?_, by simp; omega, .inr ⟨_, _, hx.1, by simp⟩⟩
    · intro k u hu
      have hk : k < len := by
        obtain ⟨hk, _⟩ := List.getElem?_eq_some_iff.1 hu
        simpa using hk
      have hu' : u = V k := by
        simp [hk] at hu
        rw [← hu, (hB k (by omega)).1]
      subst hu'
      exact lies_addr (hcell 0 (by omega)).1 (hcell k (by omega)).1
    · intro b hb
      obtain ⟨i, hi, rfl⟩ := List.mem_map.1 hb
      exact (hB i (by simp at hi; omega)).2
end
end Go.Proofs.Ythhhlampphlmgaa

/-
  Chapter 2 in plain functions on numbers and lists: how many blocks, what Check answers, what is cut, what is joined. Nothing of any program.
-/
namespace Go.Proofs.Ythhhlampphlmgaa
set_option linter.unusedVariables false
set_option linter.unusedSimpArgs false

/-- none is longer than its memory -/
def Caps (bl : List Blk) : Prop := ∀ b ∈ bl, b.l.length ≤ b.cap

/-- chapter 2's Blocks -/
def nB (B K : Int) : Int := if B < 1 ∨ K < 1 then 0 else (B - 1) / K + 1

/-- chapter 2's Check -/
def chkP (B K : Int) : Int := if B < 1 ∨ 360 < B ∨ K < 1 ∨ 16 < K then 3 else if 24 < nB B K then 2 else 0

theorem nB_none {B K : Int} (h : B < 1 ∨ K < 1) : nB B K = 0 := if_pos h
theorem nB_some {B K : Int} (h : 1 ≤ B) (k : 1 ≤ K) : nB B K = (B - 1) / K + 1 := if_neg (by omega)

theorem nB_nat (n k : Nat) (hn : 1 ≤ n) (hk : 1 ≤ k) : nB n k = (((n - 1) / k + 1 : Nat) : Int) := by
  rw [nB_some (by omega) (by omega)]
  have : (n : Int) - 1 = ((n - 1 : Nat) : Int) := by omega
  rw [this]
  simp

/-- a plan that Check takes: its numbers -/
structure Good (B K : Int) (n k nb : Nat) : Prop where
  eB : B = n
  eK : K = k
  n1 : 1 ≤ n
  n2 : n ≤ 360
  k1 : 1 ≤ k
  k2 : k ≤ 16
  eN : nB B K = nb
  b1 : 1 ≤ nb
  b2 : nb ≤ 24
  lo : (nb - 1) * k < n
  hi : n ≤ nb * k

theorem nb_bounds {n k : Nat} (hn : 1 ≤ n) (hk : 1 ≤ k) : ((n - 1) / k + 1 - 1) * k < n ∧ n ≤ ((n - 1) / k + 1) * k := by
  have h1 := Nat.div_mul_le_self (n - 1) k
  have h2 := Nat.lt_div_mul_add (a := n - 1) hk
  rw [Nat.add_sub_cancel, Nat.add_mul, Nat.one_mul]
  omega

theorem good_of {B K : Int} (h : chkP B K = 0) : ∃ n k nb, Good B K n k nb := by
  unfold chkP at h
  by_cases hr : B < 1 ∨ 360 < B ∨ K < 1 ∨ 16 < K
  · rw [if_pos hr] at h; omega
  · rw [if_neg hr] at h
    by_cases hm : 24 < nB B K
    · rw [if_pos hm] at h; omega
    · have eB : B = (B.toNat : Int) := by omega
      have eK : K = (K.toNat : Int) := by omega
      have hn : 1 ≤ B.toNat := by omega
      have hk : 1 ≤ K.toNat := by omega
      have e := nB_nat B.toNat K.toNat hn hk
      rw [← eB, ← eK] at e
      have hb := nb_bounds hn hk
      generalize (B.toNat - 1) / K.toNat = q at e hb
      exact ⟨B.toNat, K.toNat, _, eB, eK, hn, by omega, hk, by omega, e, by omega, by omega, hb.1, hb.2⟩

theorem chkP_good {B K : Int} {n k nb : Nat} (g : Good B K n k nb) : chkP B K = 0 := by
  unfold chkP
  have := g.eB; have := g.eK; have := g.n1; have := g.n2; have := g.k1; have := g.k2
  rw [if_neg (by omega), if_neg (by rw [g.eN]; have := g.b2; omega)]

/-- the number of blocks is the only one that fits -/
theorem nb_only {n k a b : Nat} (ha : (a - 1) * k < n) (ha' : n ≤ a * k) (hb : (b - 1) * k < n) (hb' : n ≤ b * k) (h1 : 1 ≤ a) (h2 : 1 ≤ b) : a = b := by
  have h3 : ¬ a ≤ b - 1 := fun h => by have := Nat.mul_le_mul_right k h; omega
  have h4 : ¬ b ≤ a - 1 := fun h => by have := Nat.mul_le_mul_right k h; omega
  omega

theorem good_mk {n k nb : Nat} (n1 : 1 ≤ n) (n2 : n ≤ 360) (k1 : 1 ≤ k) (k2 : k ≤ 16) (b1 : 1 ≤ nb) (b2 : nb ≤ 24) (lo : (nb - 1) * k < n) (hi : n ≤ nb * k) : Good n k n k nb := by
  have e := nB_nat n k n1 k1
  have hb := nb_bounds n1 k1
  have := nb_only lo hi hb.1 hb.2 b1 (Nat.le_add_left 1 _)
  exact ⟨rfl, rfl, n1, n2, k1, k2, by rw [e, ← this], b1, b2, lo, hi⟩

/-- block i of a cargo -/
def piece (k i : Nat) (c : List UInt8) : List UInt8 := (List.range k).map fun t => (c[i * k + t]?).getD 0

theorem piece_length (k i : Nat) (c : List UInt8) : (piece k i c).length = k := by simp [piece]

theorem piece_get {k i t : Nat} (c : List UInt8) (h : t < k) : (piece k i c)[t]? = some ((c[i * k + t]?).getD 0) := by simp [piece, h]

def cutL (nb k : Nat) (c : List UInt8) : List (List UInt8) := (List.range nb).map fun i => piece k i c

theorem cutL_length (nb k : Nat) (c : List UInt8) : (cutL nb k c).length = nb := by simp [cutL]

theorem cutL_get {nb k i : Nat} (c : List UInt8) (h : i < nb) : (cutL nb k c)[i]? = some (piece k i c) := by simp [cutL, h]

theorem cutL_all (nb k : Nat) (c : List UInt8) : ∀ b ∈ cutL nb k c, b.length = k := by
  intro b hb
  obtain ⟨i, _, rfl⟩ := List.mem_map.1 hb
  exact piece_length _ _ _

theorem cutL_succ (i k : Nat) (c : List UInt8) : cutL (i + 1) k c = cutL i k c ++ [piece k i c] := by simp [cutL, List.range_succ]

theorem flatten_length_of {k : Nat} {ls : List (List UInt8)} (h : ∀ b ∈ ls, b.length = k) : ls.flatten.length = ls.length * k := by
  induction ls with
  | nil => simp
  | cons b r ih =>
    have hb := h b (by simp)
    have := ih fun c hc => h c (by simp [hc])
    simp only [List.flatten_cons, List.length_append, List.length_cons, Nat.add_mul, Nat.one_mul]
    omega

theorem flatten_get {k : Nat} {ls : List (List UInt8)} (h : ∀ b ∈ ls, b.length = k) (i t : Nat) (ht : t < k) : ls.flatten[i * k + t]? = (ls[i]?).bind fun b => b[t]? := by
  induction ls generalizing i with
  | nil => simp
  | cons b r ih =>
    have hb := h b (by simp)
    cases i with
    | zero => simp [List.getElem?_append, hb, ht]
    | succ i =>
      rw [List.flatten_cons, List.getElem?_append, if_neg (by rw [hb, Nat.add_mul]; omega), List.getElem?_cons_succ, ← ih (fun c hc => h c (by simp [hc])) i]
      congr 1
      rw [hb, Nat.add_mul]
      omega

/-- joined again -/
theorem cut_flatten (nb k : Nat) (c : List UInt8) (hc : c.length ≤ nb * k) (hk : 1 ≤ k) : (cutL nb k c).flatten = c ++ zeros (nb * k - c.length) := by
  apply List.ext_getElem?
  intro j
  have hl : (cutL nb k c).flatten.length = nb * k := by rw [flatten_length_of (cutL_all nb k c), cutL_length]
  by_cases hj : j < nb * k
  · have hi : j / k < nb := Nat.div_lt_of_lt_mul (by rw [Nat.mul_comm]; exact hj)
    have ht : j % k < k := Nat.mod_lt _ hk
    have hjj : j / k * k + j % k = j := by rw [Nat.mul_comm]; exact Nat.div_add_mod j k
    have e := flatten_get (cutL_all nb k c) (j / k) (j % k) ht
    rw [cutL_get c hi, hjj] at e
    simp only [Option.bind_some] at e
    rw [piece_get c ht, hjj] at e
    rw [e, List.getElem?_append]
    by_cases hcl : j < c.length
    · rw [if_pos hcl]; simp [hcl]
    · rw [if_neg hcl]
      have h1 : c[j]? = none := List.getElem?_eq_none (by omega)
      rw [h1]
      simp [zeros, List.getElem?_replicate]
      omega
  · rw [List.getElem?_eq_none (by omega), List.getElem?_eq_none (by simp [zeros]; omega)]

def allZero (l : List UInt8) : Bool := l.all (· == 0)

theorem allZero_zeros (n : Nat) : allZero (zeros n) = true := by simp [allZero, zeros]

theorem allZero_eq {l : List UInt8} (h : allZero l = true) : l = zeros l.length := by
  simp only [allZero, List.all_eq_true, beq_iff_eq] at h
  exact List.eq_replicate_iff.2 ⟨rfl, h⟩

/-- cut again -/
theorem cut_of_flatten {nb k n : Nat} {ls : List (List UInt8)} (h : ∀ b ∈ ls, b.length = k) (hl : ls.length = nb) (hz : allZero (ls.flatten.drop n) = true) : cutL nb k (ls.flatten.take n) = ls := by
  apply List.ext_getElem?
  intro i
  by_cases hi : i < nb
  · rw [cutL_get _ hi, List.getElem?_eq_getElem (by omega)]
    congr 1
    have hb := h ls[i] (by simp)
    apply List.ext_getElem?
    intro t
    by_cases ht : t < k
    · rw [piece_get _ ht]
      have e := flatten_get h i t ht
      have g1 : ls[i]? = some ls[i] := List.getElem?_eq_getElem (by omega)
      have g2 : ls[i][t]? = some (ls[i][t]'(by omega)) := List.getElem?_eq_getElem (by omega)
      rw [g1] at e
      simp only [Option.bind_some] at e
      rw [g2] at e ⊢
      congr 1
      rw [List.getElem?_take]
      by_cases hn : i * k + t < n
      · rw [if_pos hn, e]; rfl
      · rw [if_neg hn]
        have hd : (ls.flatten.drop n)[i * k + t - n]? = some ls[i][t] := by
          rw [List.getElem?_drop, ← e]
          congr 1
          omega
        rw [allZero_eq hz] at hd
        simp [zeros, List.getElem?_replicate] at hd
        simp [hd.2.symm]
    · rw [List.getElem?_eq_none (by rw [piece_length]; omega), List.getElem?_eq_none (by omega)]
  · rw [List.getElem?_eq_none (by rw [cutL_length]; omega), List.getElem?_eq_none (by omega)]

/-- the first blocks are those of the beginning -/
theorem cut_take {nb k j m : Nat} (c : List UInt8) (hj : j ≤ nb) (hm : m = min (j * k) c.length) : (cutL nb k c).take j = cutL j k (c.take m) := by
  apply List.ext_getElem?
  intro i
  rw [List.getElem?_take]
  by_cases hi : i < j
  · rw [if_pos hi, cutL_get _ hi, cutL_get _ (by omega)]
    congr 1
    unfold piece
    apply List.map_congr_left
    intro t ht
    have ht : t < k := by simpa using ht
    rw [List.getElem?_take]
    have h1 : (i + 1) * k ≤ j * k := Nat.mul_le_mul_right k (by omega)
    rw [Nat.add_mul, Nat.one_mul] at h1
    by_cases h2 : i * k + t < m
    · rw [if_pos h2]
    · rw [if_neg h2, List.getElem?_eq_none (by omega)]
  · rw [if_neg hi, List.getElem?_eq_none (by rw [cutL_length]; omega)]

/-- how Cut answers -/
def cutCode (B K : Int) (c : List UInt8) : Int := if chkP B K ≠ 0 then chkP B K else if (c.length : Int) ≠ B then 4 else 0
def cutRes (B K : Int) (c : List UInt8) : List (List UInt8) := if cutCode B K c = 0 then cutL (nB B K).toNat K.toNat c else []

/-- how Join answers -/
def joinCode (B K : Int) (ls : List (List UInt8)) : Int :=
  if chkP B K ≠ 0 then chkP B K else if (ls.length : Int) ≠ nB B K then 8 else if ls.all (fun b => (b.length : Int) == K) = false then 4 else if allZero (ls.flatten.drop B.toNat) = false then 4 else 0
def joinRes (B K : Int) (ls : List (List UInt8)) : List UInt8 := if joinCode B K ls = 0 then ls.flatten.take B.toNat else []

theorem cutCode_good {B K : Int} {n k nb : Nat} (g : Good B K n k nb) {c : List UInt8} (h : c.length = n) : cutCode B K c = 0 ∧ cutRes B K c = cutL nb k c := by
  have e : cutCode B K c = 0 := by
    unfold cutCode
    rw [if_neg (by rw [chkP_good g]; simp), if_neg (by rw [g.eB, h]; simp)]
  refine ⟨e, ?_⟩
  unfold cutRes
  rw [if_pos e, g.eN, g.eK]
  simp

theorem cutCode_zero {B K : Int} {c : List UInt8} (h : cutCode B K c = 0) : ∃ n k nb, Good B K n k nb ∧ c.length = n := by
  unfold cutCode at h
  by_cases hc : chkP B K = 0
  · rw [if_neg (by simp [hc])] at h
    obtain ⟨n, k, nb, g⟩ := good_of hc
    by_cases hl : (c.length : Int) = B
    · exact ⟨n, k, nb, g, by have := g.eB; omega⟩
    · rw [if_pos hl] at h; omega
  · rw [if_pos hc] at h; exact absurd h hc

theorem all_len_iff {k : Nat} {ls : List (List UInt8)} : ls.all (fun b => (b.length : Int) == (k : Int)) = true ↔ ∀ b ∈ ls, b.length = k := by
  simp only [List.all_eq_true, beq_iff_eq]
  constructor
  · intro h b hb; have := h b hb; omega
  · intro h b hb; have := h b hb; omega

theorem joinCode_good {B K : Int} {n k nb : Nat} (g : Good B K n k nb) {ls : List (List UInt8)} (hl : ls.length = nb) (ha : ∀ b ∈ ls, b.length = k) (hz : allZero (ls.flatten.drop n) = true) : joinCode B K ls = 0 ∧ joinRes B K ls = ls.flatten.take n := by
  have eB : B.toNat = n := by have := g.eB; omega
  have e : joinCode B K ls = 0 := by
    unfold joinCode
    rw [if_neg (by rw [chkP_good g]; simp), if_neg (by rw [g.eN, hl]; simp), if_neg (by rw [g.eK, all_len_iff.2 ha]; simp), if_neg (by rw [eB, hz]; simp)]
  refine ⟨e, ?_⟩
  unfold joinRes
  rw [if_pos e, eB]

theorem joinCode_zero {B K : Int} {ls : List (List UInt8)} (h : joinCode B K ls = 0) : ∃ n k nb, Good B K n k nb ∧ ls.length = nb ∧ (∀ b ∈ ls, b.length = k) ∧ allZero (ls.flatten.drop n) = true := by
  unfold joinCode at h
  by_cases hc : chkP B K = 0
  · rw [if_neg (by simp [hc])] at h
    obtain ⟨n, k, nb, g⟩ := good_of hc
    have eB : B.toNat = n := by have := g.eB; omega
    by_cases hl : (ls.length : Int) = nB B K
    · rw [if_neg (by simp [hl])] at h
      cases ha : ls.all (fun b => (b.length : Int) == K) with
      | false => rw [if_pos ha] at h; omega
      | true =>
        rw [if_neg (by simp [ha])] at h
        cases hz : allZero (ls.flatten.drop B.toNat) with
        | false => rw [if_pos hz] at h; omega
        | true =>
          rw [g.eK] at ha
          exact ⟨n, k, nb, g, by have := g.eN; omega, all_len_iff.1 ha, by rw [← eB]; exact hz⟩
    · rw [if_pos hl] at h; omega
  · rw [if_pos hc] at h; exact absurd h hc

/-- P2.3, the first half -/
theorem join_cut {B K : Int} {c : List UInt8} (h : cutCode B K c = 0) : joinCode B K (cutRes B K c) = 0 ∧ joinRes B K (cutRes B K c) = c := by
  obtain ⟨n, k, nb, g, hc⟩ := cutCode_zero h
  obtain ⟨_, e⟩ := cutCode_good g hc
  rw [e]
  have hf := cut_flatten nb k c (by have := g.hi; omega) g.k1
  have hz : allZero ((cutL nb k c).flatten.drop n) = true := by
    rw [hf, List.drop_left' hc]
    exact allZero_zeros _
  obtain ⟨e1, e2⟩ := joinCode_good g (cutL_length nb k c) (cutL_all nb k c) hz
  refine ⟨e1, ?_⟩
  rw [e2, hf, List.take_left' hc]

/-- P2.3, the second half -/
theorem cut_join {B K : Int} {ls : List (List UInt8)} (h : joinCode B K ls = 0) : cutCode B K (joinRes B K ls) = 0 ∧ cutRes B K (joinRes B K ls) = ls := by
  obtain ⟨n, k, nb, g, hl, ha, hz⟩ := joinCode_zero h
  obtain ⟨_, e⟩ := joinCode_good g hl ha hz
  have hn : (ls.flatten.take n).length = n := by
    rw [List.length_take, flatten_length_of ha, hl]
    have := g.hi
    omega
  rw [e]
  obtain ⟨e1, e2⟩ := cutCode_good g hn
  exact ⟨e1, by rw [e2]; exact cut_of_flatten ha hl hz⟩

end Go.Proofs.Ythhhlampphlmgaa

/-
  What came in, opened, with what it has room for: byte slices, slices of byte slices, a struct of two ints, whatever their readings are. Nothing of any program.
-/
namespace Go.Proofs.Ythhhlampphlmgaa
open Go.ChangeShapes Go.WideShapes Go.ChangeAt Go.RowKit
set_option linter.unusedVariables false
set_option linter.unusedSimpArgs false

section
variable {H : Type} {enc : TypeId × Value → H} {P : Program} {w : World} {held : Bool}

/-- how many elements a reading has -/
def dlen : DataW H → Nat
  | .slice el _ => el.length
  | _ => 0

theorem i64_of_wf {n : Int} (h : (Lit.int .i64 n).wf = true) : I64 n := by
  have : -9223372036854775808 ≤ n ∧ n ≤ 9223372036854775807 := by simpa [Lit.wf, IntKind.min, IntKind.max, IntKind.signed, IntKind.bits] using h
  exact this

theorem open_bytes2 {t e : TypeId} {fuel : Nat} {v : Value} {x : DataW H × List MemPlace} (ht : P.underlying t = some (.slice e)) (he : P.underlying e = some (.int .u8)) (hc : P.cellsOf e = 1)
    (h : DataW.trod enc P w 0 (fun _ => true) held fuel t [v] = some x) : ∃ a cap l, v = .slice a l.length cap ∧ Lies w a (bs l) ∧ l.length ≤ maxLen ∧ l.length ≤ cap ∧ dlen x.1 = l.length := by
  rcases open_ints ht he hc h with ⟨hcs, rfl⟩ | ⟨a, len, cap, zs, hcs, _, hl, hm, hz, rfl, hcell, hwz⟩
  · simp at hcs
    subst hcs
    exact ⟨none, 0, [], rfl, Lies.nil _ _, by simp, by simp, rfl⟩
  · simp at hcs hz
    subst hcs
    refine ⟨some a, cap, (zs.take len).map fun z => UInt8.ofNat z.toNat, ?_, ?_, ?_, ?_, ?_⟩
    · simp; omega
    · intro k u hu
      have hk : k < len := by
        obtain ⟨hk, _⟩ := List.getElem?_eq_some_iff.1 hu
        simp [bs] at hk
        omega
      have hkz : k < zs.length := by omega
      have hcl := hcell k hkz
      have hwf := u8_of_wf (hwz zs[k] (by simp))
      have hu' : u = .int .u8 (zs[k]) := by
        simp [bs, hk, hkz] at hu
        rw [← hu]
        congr 1
        omega
      subst hu'
      have e2 : zs.getD k 0 = zs[k] := by simp [List.getD, hkz]
      rw [e2] at hcl
      exact lies_addr (hcell 0 (by omega)) hcl
    · simp; omega
    · simp; omega
    · simp [dlen, lits]

theorem open_blocks2 {t e e8 : TypeId} {fuel : Nat} {v : Value} {d : DataW H} {ps : List MemPlace} (ht : P.underlying t = some (.slice e)) (hte : P.underlying e = some (.slice e8)) (he : P.underlying e8 = some (.int .u8)) (hc : P.cellsOf e = 1) (hc8 : P.cellsOf e8 = 1)
    (h : DataW.trod enc P w 0 (fun _ => true) held fuel t [v] = some (d, ps)) :
    ∃ a cap bl, v = .slice a bl.length cap ∧ Lies w a (bl.map Blk.val) ∧ AllIn w bl ∧ bl.length ≤ maxLen ∧ Caps bl ∧ ((d = .nil ∧ bl = []) ∨ ∃ elems sp, d = .slice elems sp ∧ elems.map dlen = bl.map fun b => b.l.length) := by
  rcases Go.Deep.open_slice1 ht hc h with ⟨hcs, hx⟩ | ⟨a, len, cap, m, n, V, D, Pl, hcs, _, hl, hm, hmm, hx, hcell⟩
  · simp at hcs hx
    subst hcs
    exact ⟨none, 0, [], rfl, Lies.nil _ _, (fun b hb => by simp at hb), by simp, (fun b hb => by simp at hb), .inl ⟨hx.1, rfl⟩⟩
  · simp at hcs hx hmm
    subst hcs hmm
    have hb : ∀ i, i < m → ∃ b : Blk, V i = b.val ∧ Lies w b.a (bs b.l) ∧ b.l.length ≤ maxLen ∧ b.l.length ≤ b.cap ∧ dlen (D i) = b.l.length := fun i hi => by
      obtain ⟨a', cap', l, e1, e2, e3, e4, e5⟩ := open_bytes2 hte he hc8 (hcell i hi).2
      exact ⟨⟨a', cap', l⟩, e1, e2, e3, e4, e5⟩
    have : Inhabited Blk := ⟨⟨none, 0, []⟩⟩
    obtain ⟨B, hB⟩ := Go.Deep.choose_lt hb
    refine ⟨some a, m, (List.range len).map B, by simp, ?_, ?_, by simp; omega, ?_, .inr ⟨_, _, hx.1, ?_⟩⟩
    · intro k u hu
      have hk : k < len := by
        obtain ⟨hk, _⟩ := List.getElem?_eq_some_iff.1 hu
        simpa using hk
      have hu' : u = V k := by
        simp [hk] at hu
        rw [← hu, (hB k (by omega)).1]
      subst hu'
      exact lies_addr (hcell 0 (by omega)).1 (hcell k (by omega)).1
    · intro b hb
      obtain ⟨i, hi, rfl⟩ := List.mem_map.1 hb
      have := hB i (by simp at hi; omega)
      exact ⟨this.2.1, this.2.2.1⟩
    · intro b hb
      obtain ⟨i, hi, rfl⟩ := List.mem_map.1 hb
      exact (hB i (by simp at hi; omega)).2.2.2.1
    · rw [List.map_map, List.map_map]
      apply List.map_congr_left
      intro i hi
      exact (hB i (by simp at hi; omega)).2.2.2.2

theorem open_plan {r : Reach} {b0 : Nat} {t : TypeId} {f0 f1 : Field} {v : Value} {d : DataW H} {p : List MemPlace} (hs : P.underlying t = some (.struct #[f0, f1])) (hone : Go.Deep.oneCellFields P #[f0, f1] = true) (hC : P.cellsOf t = 2)
    (h0 : P.underlying f0.type = some (.int .i64)) (h1 : P.underlying f1.type = some (.int .i64))
    (hv : Value.okWide P w r b0 t v) (h : DataW.Trod enc P w 0 (fun _ => true) held t v d p) : ∃ B K : Int, v = .agg #[.int .i64 B, .int .i64 K] ∧ I64 B ∧ I64 K := by
  obtain ⟨c0, c1, y0, y1, m, rfl, rfl, rfl, hy0, hy1⟩ := Go.Joins.open_agg2 hs hone hC hv h
  obtain ⟨a, e0, rfl, wa⟩ := DataW.trod_int h0 hy0
  obtain ⟨b, e1, rfl, wb⟩ := DataW.trod_int h1 hy1
  simp at e0 e1
  subst e0 e1
  exact ⟨a, b, rfl, i64_of_wf wa, i64_of_wf wb⟩
end
end Go.Proofs.Ythhhlampphlmgaa

/-
  A symbol that came in, opened: an int and a byte slice. Nothing of any program.
-/
namespace Go.Proofs.Ythhhlampphlmgaa
open Go.ChangeShapes Go.WideShapes Go.ChangeAt Go.RowKit
set_option linter.unusedVariables false

section
variable {H : Type} {enc : TypeId × Value → H} {P : Program} {w : World} {held : Bool}

theorem open_symbol {r : Reach} {b0 : Nat} {t e8 : TypeId} {f0 f1 : Field} {v : Value} {d : DataW H} {p : List MemPlace} (hs : P.underlying t = some (.struct #[f0, f1])) (hone : Go.Deep.oneCellFields P #[f0, f1] = true) (hC : P.cellsOf t = 2)
    (h0 : P.underlying f0.type = some (.int .i64)) (h1 : P.underlying f1.type = some (.slice e8)) (he : P.underlying e8 = some (.int .u8)) (hc8 : P.cellsOf e8 = 1)
    (hv : Value.okWide P w r b0 t v) (h : DataW.Trod enc P w 0 (fun _ => true) held t v d p) : ∃ (id : Int) (a : Option Addr) (cap : Nat) (l : List UInt8), v = .agg #[.int .i64 id, .slice a l.length cap] ∧ I64 id ∧ Lies w a (bs l) ∧ l.length ≤ maxLen ∧ l.length ≤ cap := by
  obtain ⟨c0, c1, y0, y1, m, rfl, rfl, rfl, hy0, hy1⟩ := Go.Joins.open_agg2 hs hone hC hv h
  obtain ⟨a, e0, rfl, wa⟩ := DataW.trod_int h0 hy0
  obtain ⟨a', cap, l, rfl, h2, h3, h4, _⟩ := open_bytes2 h1 he hc8 hy1
  simp at e0
  subst e0
  exact ⟨a, a', cap, l, rfl, i64_of_wf wa, h2, h3, h4⟩
end
end Go.Proofs.Ythhhlampphlmgaa

/-
  The reference's 'in': its contract.
-/
namespace Go.Proofs.Ythhhlampphlmgaa
open Go.RowKit
set_option linter.unusedVariables false
set_option linter.unusedSimpArgs false

theorem in_any (n lo hi : Int) (w : World) :
    Calls Try.prog 18 #[.int .i64 n, .int .i64 lo, .int .i64 hi] w fun e w' => e = .returned (.bool (decide (lo ≤ n ∧ n ≤ hi))) ∧ w = w' := by
  by_cases h1 : lo ≤ n
  · by_cases h2 : n ≤ hi
    · go_enter Try.func18, Try.ntmps18
      go_wp2
      all_goals go_ret
      all_goals exact ⟨by simp [h1, h2], rfl⟩
    · go_enter Try.func18, Try.ntmps18
      go_wp2
      all_goals go_ret
      all_goals exact ⟨by simp [h1, h2], rfl⟩
  · go_enter Try.func18, Try.ntmps18
    go_wp2
    all_goals go_ret
    all_goals exact ⟨by simp; omega, rfl⟩

end Go.Proofs.Ythhhlampphlmgaa
