import Derived.WalkKit
import Derived.WalkSpells
import Derived.WalkSmall
import Derived.Deep.OwnRows
import Derived.BigQuiet
import Derived.Deep.QuietTactic
import Derived.Deep.Draws
import Derived.Test.YtkiejflgphjfjacDoorRows
import Derived.Laws.BitsAllLaws
/-
  What a slice's cells hold, said once, without any program: 'Lies w a xs'. And how that carries over worlds in which nothing old has turned.
-/
namespace Go.Proofs.YtkiejflgphjfjacDoor
open Go.RowKit
set_option linter.unusedVariables false
set_option linter.unusedSimpArgs false

/-- The cells that begin at 'a' hold xs, one cell an element. -/
def Lies (w : World) (a : Option Addr) (xs : List Value) : Prop :=
  ∀ k u, xs[k]? = some u → ∃ b off, a = some ⟨b, off, none⟩ ∧ w.cell? ⟨b, off + k, none⟩ = some u

theorem Lies.nil (w : World) (a : Option Addr) : Lies w a [] := by
  intro k u h
  simp at h

theorem Lies.lt {w : World} {a : Option Addr} {xs : List Value} (h : Lies w a xs) {b off : Nat} (e : a = some ⟨b, off, none⟩) (k : Nat) (hk : k < xs.length) :
    w.cell? ⟨b, off + k, none⟩ = some xs[k] := by
  obtain ⟨b', off', e', hc⟩ := h k xs[k] (by simp [hk])
  rw [e] at e'
  simp at e'
  obtain ⟨rfl, rfl⟩ := e'
  exact hc

theorem Lies.some {w : World} {a : Option Addr} {xs : List Value} (h : Lies w a xs) {k : Nat} (hk : k < xs.length) : ∃ b off, a = .some ⟨b, off, none⟩ := by
  obtain ⟨b, off, e, _⟩ := h k xs[k] (by simp [hk])
  exact ⟨b, off, e⟩

theorem Lies.at {w : World} {b off : Nat} {xs : List Value} (h : Lies w (.some ⟨b, off, none⟩) xs) {k : Nat} {u : Value} (hu : xs[k]? = .some u) : w.cell? ⟨b, off + k, none⟩ = .some u := by
  obtain ⟨b', off', e', hc⟩ := h k u hu
  simp at e'
  obtain ⟨rfl, rfl⟩ := e'
  exact hc

theorem Lies.mk {w : World} {b off : Nat} {xs : List Value} (h : ∀ k (hk : k < xs.length), w.cell? ⟨b, off + k, none⟩ = .some xs[k]) : Lies w (.some ⟨b, off, none⟩) xs := by
  intro k u hu
  obtain ⟨hk, rfl⟩ := List.getElem?_eq_some_iff.1 hu
  exact ⟨b, off, rfl, h k hk⟩

/-- All that lies is old: whatever keeps the old blocks keeps it. -/
theorem Lies.below {w w' : World} {B : Nat} (hb : Below B w w') {a : Option Addr} {xs : List Value} (h : Lies w a xs) (hB : w.heap.size ≤ B) : Lies w' a xs := by
  intro k u hu
  obtain ⟨b, off, e, hc⟩ := h k u hu
  refine ⟨b, off, e, ?_⟩
  have := World.block_lt_of_cell? w _ hc
  rw [hb.cell (p := ⟨b, off + k, none⟩) (by simp at this ⊢; omega)]
  exact hc

theorem Lies.drewN {w : World} {a : Option Addr} {xs : List Value} (h : Lies w a xs) (n : Nat) : Lies (w.drewN n) a xs := by
  intro k u hu
  obtain ⟨b, off, e, hc⟩ := h k u hu
  exact ⟨b, off, e, by simpa using hc⟩

theorem bdn (w : World) (n B : Nat) : Below B w (w.drewN n) := by
  induction n with
  | zero => exact Below.refl _ _
  | succ n ih => exact ih.trans (by first | exact (Below.refl _ _).drew | simpa using (Below.refl _ _).drew)

/-- A block that is laid anew lies there. -/
theorem Lies.alloc_new (w : World) (c : Array Value) (t : TypeId) : Lies (w.alloc (.cells c t)) (.some ⟨w.heap.size, 0, none⟩) c.toList := by
  refine Lies.mk fun k hk => ?_
  have e : (w.alloc (.cells c t)).heap[w.heap.size]? = .some (.cells c t) := by show (w.heap.push _)[w.heap.size]? = _; simp
  simp only [World.cell?, e]
  simp at hk ⊢

theorem Lies.alloc {w : World} {a : Option Addr} {xs : List Value} (h : Lies w a xs) (o : Obj) : Lies (w.alloc o) a xs :=
  h.below ((Below.refl w.heap.size w).alloc (Nat.le_refl _) o) (Nat.le_refl _)

theorem Lies.of_block {w : World} {b : Nat} {c : Array Value} {t : TypeId} {f : Nat × Nat} (e : w.heap[b]? = .some (.cells c t f)) : Lies w (.some ⟨b, 0, none⟩) c.toList := by
  refine Lies.mk fun k hk => ?_
  simp only [World.cell?, e]
  simp at hk ⊢

/-- The blocks that are laid, one behind the other. -/
theorem heap_alloc_eq (w : World) (o : Obj) (b : Nat) : (w.alloc o).heap[b]? = if b = w.heap.size then some o else w.heap[b]? := by
  show (w.heap.push o)[b]? = _
  rw [Array.getElem?_push]

theorem size_alloc_eq (w : World) (o : Obj) : (w.alloc o).heap.size = w.heap.size + 1 := by simp

theorem grown_drewN {w w' : World} (h : Grown w w') (n : Nat) : Grown w (w'.drewN n) := h

/-- What a slice owns lies at its head. -/
theorem own_lies {w : World} {B : Nat} {e : TypeId} {v : Value} {n : Nat} {xs : List Value} (h : w.ownsRow B e 1 v n xs) : ∃ a cap, v = .slice a n cap ∧ Lies w a xs ∧ n = xs.length := by
  have hn : n = xs.length := by simpa using h.1.symm
  rcases h.2 with ⟨rfl, h0⟩ | ⟨g, cap, cur, rfl, hb, hg, hnc, hcm, hcs, htake⟩
  · subst h0
    have : xs = [] := List.eq_nil_of_length_eq_zero hn.symm
    subst this
    exact ⟨none, 0, rfl, Lies.nil _ _, rfl⟩
  · refine ⟨_, cap, rfl, Lies.mk fun k hk => ?_, hn⟩
    simp only [World.cell?, hg]
    have h2 : xs[k]? = cur.toList[k]? := by
      rw [← htake, List.getElem?_take, if_pos (by omega)]
    simp at h2
    simp [← h2]

theorem grown_trans {a b c : World} {row : Option Nat} (h : a.grownBy b row) (k : b.grownBy c row) : a.grownBy c row :=
  ⟨k.os.trans h.os, k.tape.trans h.tape, k.output.trans h.output, Nat.le_trans h.size k.size, fun i hi hr => (k.block i (by have := h.size; omega) hr).trans (h.block i hi hr)⟩

theorem grown_refl (a : World) (row : Option Nat) : a.grownBy a row := ⟨rfl, rfl, rfl, Nat.le_refl _, fun _ _ _ => rfl⟩

theorem grown_setCell (w : World) (g o : Nat) (v : Value) : w.grownBy (w.setCell ⟨g, o, none⟩ v) (some g) :=
  ⟨rfl, rfl, rfl, by simp [World.setCell], fun k hk hr => Below.heap_setCell _ _ _ _ (fun e => hr (by simp [e]))⟩

theorem lies_grown {w w' : World} {g : Nat} (h : w.grownBy w' (some g)) {a : Option Addr} {xs : List Value} (hl : Lies w a xs) (hne : ∀ b off, a = some ⟨b, off, none⟩ → b ≠ g) : Lies w' a xs := by
  intro k u hu
  obtain ⟨b, off, e, hc⟩ := hl k u hu
  exact ⟨b, off, e, h.cell hc (by have := hne b off e; simp; exact this)⟩

/-- bytes as cells -/
def bs (l : List UInt8) : List Value := l.map fun x => Value.int .u8 (x.toNat : Int)

theorem bs_length (l : List UInt8) : (bs l).length = l.length := by simp [bs]

theorem u8_lt (x : UInt8) : (x.toNat : Int) < 256 := by have := x.toNat_lt; omega

theorem bs_get (l : List UInt8) (k : Nat) (h : k < l.length) : (bs l)[k]? = some (.int .u8 (l[k].toNat : Int)) := by simp [bs, h]

end Go.Proofs.YtkiejflgphjfjacDoor

/-
  Small lemmas of no program, used by all layers.
-/
namespace Go.Proofs.YtkiejflgphjfjacDoor
open Go.RowKit
set_option linter.unusedVariables false
set_option linter.unusedSimpArgs false

/-- an int of Go's -/
def I64 (x : Int) : Prop := -9223372036854775808 ≤ x ∧ x ≤ 9223372036854775807

/-- a fact kept from the walk: unlike Hid no unification looks into it -/
structure Shut (p : Prop) : Prop where
  out : p

theorem ret_bool {a b : Bool} (h : a = b) : Ending.returned (.bool a) = .returned (.bool b) := by rw [h]
theorem ret_int {k : IntKind} {a b : Int} (h : a = b) : Ending.returned (.int k a) = .returned (.int k b) := by rw [h]

theorem retB {a b : Bool} (h : a = b) : Ending.returned (.bool a) = .returned (.bool b) := by rw [h]

theorem ret2 {x y x' y' : Value} (h : x = x') (k : y = y') : Ending.returned (.tuple #[x, y]) = .returned (.tuple #[x', y']) := by rw [h, k]

theorem bcell {W w1 : World} (hb : Below W.heap.size W w1) : (∀ b o, b < W.heap.size → w1.cell? ⟨b, o, none⟩ = W.cell? ⟨b, o, none⟩) ∧ (∀ b o, b < W.heap.size → w1.frozen? ⟨b, o, none⟩ = W.frozen? ⟨b, o, none⟩) :=
  ⟨fun b o h => hb.cell (p := ⟨b, o, none⟩) h, fun b o h => hb.frozen (p := ⟨b, o, none⟩) h⟩

theorem Hid.mk' {p : Prop} (h : p) : Hid p := h

theorem boxBelow {w w1 : World} {o : Obj} (h : Below (w.alloc o).heap.size (w.alloc o) w1) : Below w.heap.size w w1 :=
  ((Below.refl _ _).alloc (Nat.le_refl _) o).trans (h.mono (by simp))

theorem rowIs_lies {w : World} {g n : Nat} {t : TypeId} {f : Nat → Value} (h : w.rowIs g t n f) : Lies w (some ⟨g, 0, none⟩) ((List.range n).map f) := by
  refine Lies.mk fun k hk => ?_
  have hk' : k < n := by simpa using hk
  rw [Nat.zero_add, h.cell hk']
  simp

theorem own_slice {w : World} {B : Nat} {e : TypeId} {v : Value} {n : Nat} {xs : List Value} (h : w.ownsRow B e 1 v n xs) : ∃ p q, v = .slice p n q ∧ n ≤ q := by
  rcases h.2 with ⟨rfl, h0⟩ | ⟨g, cap, cur, rfl, hb, hg, hnc, hcm, hcs, htake⟩
  · subst h0
    exact ⟨none, 0, rfl, Nat.le_refl _⟩
  · exact ⟨_, _, rfl, hnc⟩

theorem own_below {w w' : World} {B : Nat} {e : TypeId} {v : Value} {n : Nat} {xs : List Value} (h : w.ownsRow B e 1 v n xs) (hb : Below w.heap.size w w') : w'.ownsRow B e 1 v n xs := by
  refine ⟨h.1, ?_⟩
  rcases h.2 with h0 | ⟨g, cap, cur, rfl, hbg, hg, hnc, hcm, hcs, htake⟩
  · exact .inl h0
  · have hlt : g < w.heap.size := (Array.getElem?_eq_some_iff.1 hg).1
    exact .inr ⟨g, cap, cur, rfl, hbg, by rw [hb.block g hlt]; exact hg, hnc, hcm, hcs, htake⟩

theorem own_mono {w : World} {B B' : Nat} {e : TypeId} {v : Value} {n : Nat} {xs : List Value} (h : w.ownsRow B e 1 v n xs) (hB : B' ≤ B) : w.ownsRow B' e 1 v n xs := by
  refine ⟨h.1, ?_⟩
  rcases h.2 with h0 | ⟨g, cap, cur, rfl, hbg, hg, hnc, hcm, hcs, htake⟩
  · exact .inl h0
  · exact .inr ⟨g, cap, cur, rfl, by omega, hg, hnc, hcm, hcs, htake⟩

theorem own_row {w : World} {B : Nat} {e : TypeId} {v : Value} {n : Nat} {xs : List Value} (h : w.ownsRow B e 1 v n xs) (hn : 0 < n) :
    ∃ g cap f, v = .slice (some ⟨g, 0, none⟩) n cap ∧ B ≤ g ∧ w.rowIs g e cap f ∧ n ≤ cap ∧ cap ≤ maxLen ∧ ∀ i (hi : i < xs.length), f i = xs[i] := by
  rcases h.2 with ⟨rfl, h0⟩ | ⟨g, cap, cur, rfl, hb, hg, hnc, hcm, hcs, htake⟩
  · omega
  · refine ⟨g, cap, fun i => cur[i]?.getD undef, rfl, hb, ⟨cur, hg, by omega, fun i hi => by simp [show i < cur.size by omega]⟩, hnc, hcm, fun i hi => ?_⟩
    have h2 : xs[i]? = cur.toList[i]? := by
      rw [← htake, List.getElem?_take, if_pos (by have := h.1; omega)]
    simp at h2
    show cur[i]?.getD undef = xs[i]
    rw [← h2]
    simp [hi]

theorem row_lies' {w : World} {g cap : Nat} {e : TypeId} {f : Nat → Value} (h : w.rowIs g e cap f) (xs : List Value) (hn : xs.length ≤ cap) (hx : ∀ i (hi : i < xs.length), f i = xs[i]) : Lies w (some ⟨g, 0, none⟩) xs := by
  refine Lies.mk fun k hk => ?_
  rw [Nat.zero_add, h.cell (by omega), hx k hk]

end Go.Proofs.YtkiejflgphjfjacDoor

/-
  Chapter 1 in plain functions on lists: what Check answers, what a sum is. Nothing of any program.
-/
namespace Go.Proofs.YtkiejflgphjfjacDoor
set_option linter.unusedVariables false
set_option linter.unusedSimpArgs false

/-- a block in memory: where it begins, its capacity, its bytes -/
structure Blk where
  a : Option Addr
  cap : Nat
  l : List UInt8

def Blk.val (b : Blk) : Value := .slice b.a b.l.length b.cap

/-- each lies there, none too long for a slice -/
def AllIn (w : World) (bl : List Blk) : Prop := ∀ b ∈ bl, Lies w b.a (bs b.l) ∧ b.l.length ≤ maxLen

def lens (bl : List Blk) : List Nat := bl.map fun b => b.l.length

/-- chapter 1's Check, f: the first one's length -/
def chkFrom (f : Nat) : List Nat → Int
  | [] => 0
  | n :: r => if n < 1 ∨ 16 < n then 2 else if n ≠ f then 4 else chkFrom f r

def chk (l : List Nat) : Int := chkFrom (l.headD 0) l

/-- the same, each held against the one ahead -/
def chkPrev : Option Nat → List Nat → Int
  | _, [] => 0
  | none, n :: r => if n < 1 ∨ 16 < n then 2 else chkPrev (some n) r
  | some p, n :: r => if n < 1 ∨ 16 < n then 2 else if n ≠ p then 4 else chkPrev (some n) r

theorem chkPrev_some (p : Nat) (l : List Nat) : chkPrev (some p) l = chkFrom p l := by
  induction l with
  | nil => rfl
  | cons n r ih =>
    simp only [chkPrev, chkFrom]
    by_cases h : n < 1 ∨ 16 < n
    · rw [if_pos h, if_pos h]
    · rw [if_neg h, if_neg h]
      by_cases e : n = p
      · subst e; rw [if_neg (by simp), if_neg (by simp), ih]
      · rw [if_pos e, if_pos e]

theorem chkPrev_none (l : List Nat) : chkPrev none l = chk l := by
  cases l with
  | nil => rfl
  | cons n r => simp [chkPrev, chk, chkFrom, chkPrev_some]

/-- as far as k nothing was wrong -/
def okTo (f : Nat) (l : List Nat) (k : Nat) : Prop := ∀ i (h : i < l.length), i < k → 1 ≤ l[i] ∧ l[i] ≤ 16 ∧ l[i] = f

theorem okTo_zero (f : Nat) (l : List Nat) : okTo f l 0 := fun i h hk => by omega

theorem okTo_succ {f : Nat} {l : List Nat} {k : Nat} (h : okTo f l k) (hk : k < l.length) (h1 : 1 ≤ l[k]) (h2 : l[k] ≤ 16) (h3 : l[k] = f) : okTo f l (k + 1) := by
  intro i hi hik
  by_cases e : i = k
  · subst e; exact ⟨h1, h2, h3⟩
  · exact h i hi (by omega)

theorem chkFrom_all {f : Nat} {l : List Nat} (h : okTo f l l.length) : chkFrom f l = 0 := by
  induction l with
  | nil => rfl
  | cons n r ih =>
    have h0 := h 0 (by simp) (by simp)
    simp only [List.getElem_cons_zero] at h0
    have hr : okTo f r r.length := fun i hi _ => by
      have := h (i + 1) (by simp; omega) (by simp; omega)
      simpa using this
    simp only [chkFrom]
    rw [if_neg (by omega), if_neg (by omega), ih hr]

theorem chkFrom_at {f : Nat} {l : List Nat} {k : Nat} (h : okTo f l k) (hk : k < l.length) :
    (l[k] < 1 ∨ 16 < l[k] → chkFrom f l = 2) ∧ (¬ (l[k] < 1 ∨ 16 < l[k]) → l[k] ≠ f → chkFrom f l = 4) := by
  induction l generalizing k with
  | nil => simp at hk
  | cons n r ih =>
    cases k with
    | zero =>
      simp only [List.getElem_cons_zero]
      exact ⟨fun hb => by rw [chkFrom, if_pos hb], fun hb hf => by rw [chkFrom, if_neg hb, if_pos hf]⟩
    | succ k =>
      have h0 := h 0 (by simp) (by omega)
      simp only [List.getElem_cons_zero] at h0
      have hr : okTo f r k := fun i hi hik => by
        have := h (i + 1) (by simp; omega) (by omega)
        simpa using this
      have := ih hr (by simpa using hk)
      simp only [List.getElem_cons_succ]
      simp only [chkFrom]
      rw [if_neg (by omega), if_neg (by omega)]
      exact this

theorem chk_zero {l : List Nat} (h : chk l = 0) : ∀ i (hi : i < l.length), 1 ≤ l[i] ∧ l[i] ≤ 16 ∧ l[i] = l.headD 0 := by
  have : ∀ (f : Nat) (l : List Nat), chkFrom f l = 0 → ∀ i (hi : i < l.length), 1 ≤ l[i] ∧ l[i] ≤ 16 ∧ l[i] = f := by
    intro f l
    induction l with
    | nil => intro _ i hi; simp at hi
    | cons n r ih =>
      intro h i hi
      simp only [chkFrom] at h
      by_cases hb : n < 1 ∨ 16 < n
      · rw [if_pos hb] at h; omega
      · rw [if_neg hb] at h
        by_cases e : n = f
        · rw [if_neg (by simp [e])] at h
          cases i with
          | zero => simp only [List.getElem_cons_zero]; omega
          | succ i => simpa using ih h i (by simpa using hi)
        · rw [if_pos e] at h; omega
  exact this _ _ h

theorem chk_range (l : List Nat) : chk l = 0 ∨ chk l = 2 ∨ chk l = 4 := by
  have : ∀ (f : Nat) (l : List Nat), chkFrom f l = 0 ∨ chkFrom f l = 2 ∨ chkFrom f l = 4 := by
    intro f l
    induction l with
    | nil => exact .inl rfl
    | cons n r ih =>
      simp only [chkFrom]
      split
      · exact .inr (.inl rfl)
      · split
        · exact .inr (.inr rfl)
        · exact ih
  exact this _ _

/-- two blocks, added -/
def xorl (a b : List UInt8) : List UInt8 := List.zipWith (fun x y => x ^^^ y) a b

theorem xorl_length (a b : List UInt8) (h : b.length = a.length) : (xorl a b).length = a.length := by simp [xorl, h]

def zeros (n : Nat) : List UInt8 := List.replicate n 0

/-- all of them, added to what is there -/
def sumTo (acc : List UInt8) : List (List UInt8) → List UInt8
  | [] => acc
  | b :: r => sumTo (xorl acc b) r

theorem sumTo_append (acc : List UInt8) (l m : List (List UInt8)) : sumTo acc (l ++ m) = sumTo (sumTo acc l) m := by
  induction l generalizing acc with
  | nil => rfl
  | cons b r ih => simp [sumTo, ih]

theorem sumTo_length {n : Nat} (acc : List UInt8) (l : List (List UInt8)) (ha : acc.length = n) (hl : ∀ b ∈ l, b.length = n) : (sumTo acc l).length = n := by
  induction l generalizing acc with
  | nil => exact ha
  | cons b r ih =>
    simp only [sumTo]
    refine ih _ ?_ fun c hc => hl c (by simp [hc])
    rw [xorl_length _ _ (by rw [ha]; exact hl b (by simp)), ha]

/-- chapter 1's Add, of right blocks -/
def sumOf (ls : List (List UInt8)) : List UInt8 := sumTo (zeros (ls.headD []).length) ls

end Go.Proofs.YtkiejflgphjfjacDoor

/-
  The reference's 'in': its contract.
-/
namespace Go.Proofs.YtkiejflgphjfjacDoor
open Go.RowKit
set_option linter.unusedVariables false
set_option linter.unusedSimpArgs false

theorem in_any (n lo hi : Int) (w : World) :
    Calls Tryd.prog 63 #[.int .i64 n, .int .i64 lo, .int .i64 hi] w fun e w' => e = .returned (.bool (decide (lo ≤ n ∧ n ≤ hi))) ∧ w = w' := by
  by_cases h1 : lo ≤ n
  · by_cases h2 : n ≤ hi
    · go_enter Tryd.func63, Tryd.ntmps63
      go_wp2
      all_goals go_ret
      all_goals exact ⟨by simp [h1, h2], rfl⟩
    · go_enter Tryd.func63, Tryd.ntmps63
      go_wp2
      all_goals go_ret
      all_goals exact ⟨by simp [h1, h2], rfl⟩
  · go_enter Tryd.func63, Tryd.ntmps63
    go_wp2
    all_goals go_ret
    all_goals exact ⟨by simp; omega, rfl⟩

end Go.Proofs.YtkiejflgphjfjacDoor

/-
  Chapter 1's smaller functions: the contract of each.
-/
namespace Go.Proofs.YtkiejflgphjfjacDoor
open Go.RowKit
set_option linter.unusedVariables false
set_option linter.unusedSimpArgs false

theorem AllIn.below {w w' : World} {bl : List Blk} (h : AllIn w bl) (hb : Below w.heap.size w w') : AllIn w' bl := fun b hm => ⟨(h b hm).1.below hb (Nat.le_refl _), (h b hm).2⟩

theorem lens_get {bl : List Blk} {k : Nat} (h : k < bl.length) : (lens bl)[k]'(by simpa [lens] using h) = bl[k].l.length := by simp [lens]

theorem chk_2 {bl : List Blk} {k : Nat} (hok : Hid (okTo ((lens bl).headD 0) (lens bl) k)) (h : k < bl.length) (hb : (bl[k].l.length : Int) < 1 ∨ 16 < (bl[k].l.length : Int)) : (2 : Int) = chk (lens bl) :=
  (((chkFrom_at hok.out (by simpa [lens] using h)).1 (by rw [lens_get h]; omega))).symm

theorem lens_head {bl : List Blk} (h : 0 < bl.length) : (lens bl).headD 0 = bl[0].l.length := by
  cases bl with
  | nil => simp at h
  | cons b r => simp [lens]

theorem chk_4 {bl : List Blk} {k : Nat} (hok : Hid (okTo ((lens bl).headD 0) (lens bl) k)) (h : k < bl.length) (h0 : 0 < bl.length) (h1 : 1 ≤ (bl[k].l.length : Int)) (h2 : (bl[k].l.length : Int) ≤ 16) (hne : ((bl[k].l.length : Int) != (bl[0].l.length : Int)) = true) : (4 : Int) = chk (lens bl) :=
  (((chkFrom_at hok.out (by simpa [lens] using h)).2 (by rw [lens_get h]; omega) (by
    rw [lens_get h, lens_head h0]
    simp at hne
    omega))).symm

theorem chk_go {bl : List Blk} {k : Nat} (hok : Hid (okTo ((lens bl).headD 0) (lens bl) k)) (h : k < bl.length) (h0 : 0 < bl.length) (h1 : 1 ≤ (bl[k].l.length : Int)) (h2 : (bl[k].l.length : Int) ≤ 16) (hne : ((bl[k].l.length : Int) != (bl[0].l.length : Int)) = false) : okTo ((lens bl).headD 0) (lens bl) (k + 1) :=
  okTo_succ hok.out (by simpa [lens] using h) (by rw [lens_get h]; omega) (by rw [lens_get h]; omega) (by
    rw [lens_get h, lens_head h0]
    simp at hne
    omega)

theorem chk_end {bl : List Blk} {k : Nat} (hok : Hid (okTo ((lens bl).headD 0) (lens bl) k)) (hk : k = bl.length) : (0 : Int) = chk (lens bl) := by
  subst hk
  exact (chkFrom_all (l := lens bl) (by simpa [lens] using hok.out)).symm

set_option maxHeartbeats 400000 in
/-- sum.Check -/
theorem check_any (a : Option Addr) (cap : Nat) (bl : List Blk) (w : World) (hn : bl.length ≤ maxLen) (ha : Lies w a (bl.map Blk.val)) (hall : AllIn w bl) :
    Calls Tryd.prog 86 #[.slice a bl.length cap] w fun e w' => e = .returned (.int .i64 (chk (lens bl))) ∧ w = w' := by
  unfold maxLen at hn
  have hf : ∀ i (h : i < bl.length), (bl[i].l.length : Int) ≤ 9223372036854775807 := fun i h => by
    have := (hall bl[i] (by simp)).2
    unfold maxLen at this
    omega
  go_enter Tryd.func86, Tryd.ntmps86
  go_wp2
  go_loop [7] (fun i => ∃ k : Nat, k ≤ bl.length ∧ i = .int .i64 k ∧ Hid (okTo ((lens bl).headD 0) (lens bl) k)) (fun i => bl.length - (intOf i).toNat)
  case atStart => exact ⟨0, Nat.zero_le _, rfl, okTo_zero _ _⟩
  case round =>
    obtain ⟨k, hk, rfl, hok⟩ := hrel
    by_cases hlt : k < bl.length
    · obtain ⟨b1, o1, rfl⟩ := ha.some (k := k) (by simpa using hlt)
      have h0lt : 0 < bl.length := by omega
      have h1 : w.cell? ⟨b1, o1 + k, none⟩ = some (.slice bl[k].a bl[k].l.length bl[k].cap) := ha.at (by simp [hlt, Blk.val])
      have h0 : w.cell? ⟨b1, o1, none⟩ = some (.slice bl[0].a bl[0].l.length bl[0].cap) := by simpa using ha.at (k := 0) (by simp [h0lt, Blk.val])
      clear ha hall
      by_cases hb1 : (bl[k].l.length : Int) < 1
      · go_wp2
        go_ret
        exact ⟨ret_int (chk_2 hok hlt (.inl hb1)), rfl⟩
      have hb1 : 1 ≤ (bl[k].l.length : Int) := by omega
      by_cases hb2 : 16 < (bl[k].l.length : Int)
      · go_wp2
        go_ret
        exact ⟨ret_int (chk_2 hok hlt (.inr hb2)), rfl⟩
      have hb2 : (bl[k].l.length : Int) ≤ 16 := by omega
      cases hne : ((bl[k].l.length : Int) != (bl[0].l.length : Int)) with
      | true =>
        go_wp2
        go_ret
        exact ⟨ret_int (chk_4 hok hlt h0lt hb1 hb2 hne), rfl⟩
      | false =>
        go_wp2
        go_round
        case rel => exact ⟨k + 1, by omega, by go_num, chk_go hok hlt h0lt hb1 hb2 hne⟩
        case measure => simp [intOf]; omega
    · clear ha hall
      go_wp2
      go_ret
      exact ⟨ret_int (chk_end hok (by omega)), rfl⟩

theorem okTo_prev {f : Nat} {l : List Nat} {k : Nat} (h : Hid (okTo f l k)) (hk : 0 < k) (hl : k ≤ l.length) : l[k - 1]'(by omega) = f := (h.out (k - 1) (by omega) (by omega)).2.2

theorem chk_4p {bl : List Blk} {k : Nat} (hok : Hid (okTo ((lens bl).headD 0) (lens bl) k)) (h : k < bl.length) (hp : k - 1 < bl.length) (h1 : 1 ≤ (bl[k].l.length : Int)) (h2 : (bl[k].l.length : Int) ≤ 16)
    (HP : Hid (bl[k - 1].l.length = (lens bl).headD 0)) (hne : ((bl[k].l.length : Int) != (bl[k - 1].l.length : Int)) = true) : (4 : Int) = chk (lens bl) :=
  (((chkFrom_at hok.out (by simpa [lens] using h)).2 (by rw [lens_get h]; omega) (by
    rw [lens_get h, ← HP.out]
    simp at hne
    omega))).symm

theorem chk_gop {bl : List Blk} {k : Nat} (hok : Hid (okTo ((lens bl).headD 0) (lens bl) k)) (h : k < bl.length) (hp : k - 1 < bl.length) (h1 : 1 ≤ (bl[k].l.length : Int)) (h2 : (bl[k].l.length : Int) ≤ 16)
    (HP : Hid (bl[k - 1].l.length = (lens bl).headD 0)) (hne : ((bl[k].l.length : Int) != (bl[k - 1].l.length : Int)) = false) : okTo ((lens bl).headD 0) (lens bl) (k + 1) :=
  okTo_succ hok.out (by simpa [lens] using h) (by rw [lens_get h]; omega) (by rw [lens_get h]; omega) (by
    rw [lens_get h, ← HP.out]
    simp at hne
    omega)

end Go.Proofs.YtkiejflgphjfjacDoor

/-
  'blocks' of the statements; sum.addTo and sum.Add: the contract of each.
-/
namespace Go.Proofs.YtkiejflgphjfjacDoor
open Go.RowKit
set_option linter.unusedVariables false
set_option linter.unusedSimpArgs false

theorem infoBlk : (Tryd.prog.info? 36).map (fun i => (i.zero, i.size, i.bytes)) = some (some (.slice none 0 0), 1, 24) := by kernel_rfl
theorem infoU8 : (Tryd.prog.info? 5).map (fun i => (i.zero, i.size, i.bytes)) = some (some (.int .u8 0), 1, 1) := by kernel_rfl

theorem blocks_step {w wr w1 : World} {v v' : Value} {bl : List Blk} {k : Nat} (hlt : k < bl.length) (hB : w.heap.size ≤ wr.heap.size) (hb : Below w.heap.size w wr)
    (ho : wr.ownsRow w.heap.size 36 1 v k ((bl.map Blk.val).take k)) (o : Obj)
    (ho' : w1.ownsRow w.heap.size 36 1 v' (k + 1) ((bl.map Blk.val).take k ++ [.slice bl[k].a bl[k].l.length bl[k].cap])) (hg : (wr.alloc o).grownBy w1 v.ownBlock) :
    w1.ownsRow w.heap.size 36 1 v' (k + 1) ((bl.map Blk.val).take (k + 1)) ∧ Below w.heap.size w w1 := by
  refine ⟨?_, ?_⟩
  · rw [List.take_succ_eq_append_getElem (by simpa using hlt)]
    simpa [Blk.val] using ho'
  · refine (hb.alloc hB o).grown hg (by simp; omega) ?_
    intro g hg'
    exact (ho.lt g hg').1

/-- the bytes of a row, by their places -/
def u8at (l : List UInt8) (i : Nat) : Value := .int .u8 ((l[i]?.getD 0).toNat : Int)

theorem row_lies {w : World} {g n : Nat} {l : List UInt8} (h : w.rowIs g 5 n (u8at l)) (hn : l.length = n) : Lies w (some ⟨g, 0, none⟩) (bs l) := by
  refine Lies.mk fun k hk => ?_
  have hk' : k < l.length := by simpa [bs] using hk
  rw [Nat.zero_add, h.cell (by omega)]
  simp [u8at, bs, hk']

/-- the first k bytes are added -/
def xorK (xs ys : List UInt8) (k : Nat) : List UInt8 := xorl (xs.take k) (ys.take k) ++ xs.drop k

theorem xorK_zero (xs ys : List UInt8) : xorK xs ys 0 = xs := by simp [xorK, xorl]

theorem xorK_all {xs ys : List UInt8} (h : ys.length = xs.length) : xorK xs ys xs.length = xorl xs ys := by
  simp [xorK]
  rw [List.take_of_length_le (by omega)]

theorem xorK_get {xs ys : List UInt8} (h : ys.length = xs.length) (k i : Nat) (hi : i < xs.length) :
    (xorK xs ys k)[i]? = some (if i < k then xs[i] ^^^ ys[i] else xs[i]) := by
  unfold xorK xorl
  rw [List.getElem?_append]
  have hl : (List.zipWith (fun x y => x ^^^ y) (List.take k xs) (List.take k ys)).length = min k xs.length := by simp [h]
  rw [hl]
  by_cases hik : i < k
  · rw [if_pos (by omega), List.getElem?_zipWith]
    simp [hik, hi, h]
  · rw [if_neg (by omega)]
    simp [hik]
    rw [List.getElem?_eq_getElem (by omega)]
    simp
    congr 1
    omega

theorem u8xor (x y : UInt8) : bits .xor .u8 (x.toNat : Int) (y.toNat : Int) = ((x ^^^ y).toNat : Int) := by
  rw [u8_xor_nat _ _ x.toNat_lt y.toNat_lt]
  simp

theorem addTo_step {w : World} {g n k : Nat} {xs ys : List UInt8} (hx : k < xs.length) (hy : k < ys.length) (he : ys.length = xs.length) (HX : Hid (xs.length = n)) (hr : w.rowIs g 5 n (u8at (xorK xs ys k))) :
    (w.setCell ⟨g, k, none⟩ (.int .u8 ((xs[k].toNat ^^^ ys[k].toNat : Nat) : Int))).rowIs g 5 n (u8at (xorK xs ys (k + 1))) := by
  refine (hr.set k _).congr fun i hi => ?_
  have hi' : i < xs.length := by rw [HX.out]; exact hi
  simp only [u8at, xorK_get he _ i hi']
  by_cases e : i = k
  · subst e
    simp
  · rw [if_neg e]
    by_cases h : i < k
    · simp [h, show i < k + 1 by omega]
    · simp [h, show ¬ i < k + 1 by omega]

set_option maxHeartbeats 400000 in
theorem addTo_any (g n cb : Nat) (b : Option Addr) (xs ys : List UInt8) (w : World) (hx : xs.length = n) (hy : ys.length = n) (hn : n ≤ maxLen)
    (hr : w.rowIs g 5 n (u8at xs)) (hb : Lies w b (bs ys)) (hne : ∀ c o, b = some ⟨c, o, none⟩ → c ≠ g ∨ n = 0) :
    Calls Tryd.prog 87 #[.slice (some ⟨g, 0, none⟩) n n, .slice b n cb] w fun e w' => e = .returned (.tuple #[]) ∧ w'.rowIs g 5 n (u8at (xorl xs ys)) ∧ w.grownBy w' (some g) := by
  unfold maxLen at hn
  have HX : Hid (xs.length = n) := hx
  have HY : Hid (ys.length = n) := hy
  clear hx hy
  go_enter Tryd.func87, Tryd.ntmps87
  go_wp2
  go_loopw [8] (fun i wr => ∃ k : Nat, k ≤ n ∧ i = .int .i64 k ∧ wr.rowIs g 5 n (u8at (xorK xs ys k)) ∧ w.grownBy wr (some g)) (fun i _ => n - (intOf i).toNat)
  case atStart => exact ⟨0, Nat.zero_le _, rfl, by rw [xorK_zero]; exact hr, grown_refl _ _⟩
  case round =>
    obtain ⟨k, hk, rfl, hrow, hgr⟩ := hrel
    by_cases hlt : k < n
    · obtain ⟨b1, o1, rfl⟩ := hb.some (k := k) (by rw [bs_length, HY.out]; exact hlt)
      have hxl : k < xs.length := by rw [HX.out]; exact hlt
      have hyl : k < ys.length := by rw [HY.out]; exact hlt
      have h1 : wr.cell? ⟨b1, o1 + k, none⟩ = some (.int .u8 (ys[k].toNat : Int)) := (lies_grown hgr hb (fun c o e => (hne c o e).resolve_right (by omega))).at (bs_get ys k hyl)
      have h2 : wr.cell? ⟨g, k, none⟩ = some (.int .u8 (xs[k].toNat : Int)) := by
        rw [hrow.cell hlt, u8at, xorK_get (by rw [HX.out, HY.out]) k k hxl]
        simp
      have h3 : wr.frozen? ⟨g, k, none⟩ = false := hrow.frozen k
      have hxo := u8xor xs[k] ys[k]
      clear hb hr hne
      go_wp2
      go_roundw
      case rel => exact ⟨k + 1, by omega, by go_num, addTo_step hxl hyl (by rw [HX.out, HY.out]) HX hrow, grown_trans hgr (grown_setCell _ _ _ _)⟩
      case measure => simp [intOf]; omega
    · have HK : Hid (k = n) := by have : k = n := by omega
                                  exact this
      clear hb hr hne
      go_wp2
      go_end0
      refine ⟨rfl, ?_, hgr⟩
      have h := HK.out
      rw [h, ← HX.out, xorK_all (by rw [HX.out, HY.out]), HX.out] at hrow
      exact hrow


/-- how Add answers -/
def addCode (bl : List Blk) : Int := if chk (lens bl) = 0 then (if bl.length = 0 then 8 else 0) else chk (lens bl)

def sumBl (bl : List Blk) : List UInt8 := sumOf (bl.map Blk.l)

theorem addCode_bad {bl : List Blk} (h : chk (lens bl) ≠ 0) : addCode bl = chk (lens bl) := by simp [addCode, h]

set_option maxHeartbeats 400000 in
/-- sum.Add where something is wrong -/
theorem add_bad (a : Option Addr) (cap : Nat) (bl : List Blk) (w : World) (hn : bl.length ≤ maxLen) (ha : Lies w a (bl.map Blk.val)) (hall : AllIn w bl) (hbad : addCode bl ≠ 0) :
    Calls Tryd.prog 71 #[.slice a bl.length cap] w fun e w' => e = .returned (.tuple #[.slice none 0 0, .int .i64 (addCode bl)]) ∧ w = w' := by
  have HC : Hid (Calls Tryd.prog 86 #[.slice a bl.length cap] w fun e w' => e = .returned (.int .i64 (chk (lens bl))) ∧ w = w') := check_any a cap bl w hn ha hall
  unfold maxLen at hn
  cases hc : (chk (lens bl) != 0) with
  | true =>
    have HA : Hid (addCode bl = chk (lens bl)) := addCode_bad (by simpa using hc)
    clear ha hall
    go_enter Tryd.func71, Tryd.ntmps71
    go_wp2_with fail
    refine HC.out.mono ?_
    rintro e w' ⟨rfl, rfl⟩
    go_wp2
    go_ret2
    exact ⟨ret2 rfl (congrArg (Value.int .i64) HA.out.symm), rfl⟩
  | false =>
    have h0 : bl.length = 0 := by
      simp at hc
      simp [addCode, hc] at hbad
      simpa using hbad
    have HA : Hid (addCode bl = 8) := by
      simp at hc
      show addCode bl = 8
      simp [addCode, hc, h0]
    have : bl = [] := List.eq_nil_of_length_eq_zero h0
    subst this
    clear ha hall h0 hn
    go_enter Tryd.func71, Tryd.ntmps71
    go_wp2_with fail
    refine HC.out.mono ?_
    rintro e w' ⟨rfl, rfl⟩
    go_wp2
    go_ret2
    exact ⟨ret2 rfl (congrArg (Value.int .i64) HA.out.symm), rfl⟩

theorem addCode_good {bl : List Blk} (h : addCode bl = 0) : chk (lens bl) = 0 ∧ 0 < bl.length := by
  unfold addCode at h
  by_cases hc : chk (lens bl) = 0
  · rw [if_pos hc] at h
    by_cases h0 : bl.length = 0
    · rw [if_pos h0] at h; omega
    · exact ⟨hc, by omega⟩
  · rw [if_neg hc] at h; exact absurd h hc

/-- all are as long as the first -/
theorem good_lens {bl : List Blk} (h : addCode bl = 0) (h0 : 0 < bl.length) : ∀ i (hi : i < bl.length), bl[i].l.length = bl[0].l.length ∧ 1 ≤ bl[i].l.length ∧ bl[i].l.length ≤ 16 := by
  intro i hi
  obtain ⟨hc, _⟩ := addCode_good h
  have := chk_zero hc i (by simpa [lens] using hi)
  rw [lens_get hi, lens_head h0] at this
  omega

theorem take_map_succ {bl : List Blk} {k : Nat} (h : k < bl.length) (acc : List UInt8) : sumTo acc ((bl.map Blk.l).take (k + 1)) = xorl (sumTo acc ((bl.map Blk.l).take k)) bl[k].l := by
  rw [List.take_succ_eq_append_getElem (by simpa using h), sumTo_append]
  simp [sumTo]

theorem made_row {w : World} {n : Nat} : (w.alloc (.cells (madeCells #[.int .u8 0] n) 5)).rowIs w.heap.size 5 n (u8at (zeros n)) := by
  refine (World.rowIs_made w (.int .u8 0) n 5).congr fun i hi => ?_
  simp [u8at, zeros, hi]

theorem sumTo_take_length {bl : List Blk} {n : Nat} {h0 : 0 < bl.length} (HG : Hid (∀ i (hi : i < bl.length), bl[i].l.length = bl[0].l.length ∧ 1 ≤ bl[i].l.length ∧ bl[i].l.length ≤ 16)) (HN : Hid (n = bl[0].l.length)) (k : Nat) :
    (sumTo (zeros n) ((bl.map Blk.l).take k)).length = n := by
  refine sumTo_length _ _ (by simp [zeros]) fun b hb => ?_
  have hm := List.mem_of_mem_take hb
  obtain ⟨c, hc, rfl⟩ := List.mem_map.1 hm
  obtain ⟨i, hi, rfl⟩ := List.mem_iff_getElem.1 hc
  rw [HN.out]
  exact (HG.out i hi).1

theorem sumBl_eq {bl : List Blk} {n : Nat} {h : 0 < bl.length} (HN : Hid (n = bl[0].l.length)) (h0 : 0 < bl.length) : sumTo (zeros n) ((bl.map Blk.l).take bl.length) = sumBl bl := by
  rw [List.take_of_length_le (by simp), HN.out]
  cases bl with
  | nil => simp at h0
  | cons b r => rfl

/-- what lies in old memory is no block of new memory -/
theorem lies_ne {w : World} {a : Option Addr} {l : List UInt8} {g n : Nat} (h : Lies w a (bs l)) (hg : w.heap.size ≤ g) (hl : Hid (l.length = n)) : ∀ c o, a = some ⟨c, o, none⟩ → c ≠ g ∨ n = 0 := by
  intro c o e
  by_cases h0 : n = 0
  · exact .inr h0
  · refine .inl ?_
    have hl0 : 0 < l.length := by rw [hl.out]; omega
    have hc := h.lt e 0 (by rw [bs_length]; exact hl0)
    have := World.block_lt_of_cell? w _ hc
    simp at this
    omega

set_option maxHeartbeats 400000 in
/-- sum.Add where all is right -/
theorem add_good (a : Option Addr) (cap : Nat) (bl : List Blk) (w : World) (hn : bl.length ≤ maxLen) (ha : Lies w a (bl.map Blk.val)) (hall : AllIn w bl) (hgood : addCode bl = 0) :
    Calls Tryd.prog 71 #[.slice a bl.length cap] w fun e w' => e = .returned (.tuple #[.slice (some ⟨w.heap.size, 0, none⟩) (sumBl bl).length (sumBl bl).length, .int .i64 0]) ∧ w'.rowIs w.heap.size 5 (sumBl bl).length (u8at (sumBl bl)) ∧ Below w.heap.size w w' := by
  have HC : Hid (Calls Tryd.prog 86 #[.slice a bl.length cap] w fun e w' => e = .returned (.int .i64 (chk (lens bl))) ∧ w = w') := check_any a cap bl w hn ha hall
  unfold maxLen at hn
  obtain ⟨hc0, h0⟩ := addCode_good hgood
  have hgl := good_lens hgood h0
  have hc : (chk (lens bl) != 0) = false := by simp [hc0]
  have hbe : ((bl.length : Int) == 0) = false := by rw [beq_eq_false_iff_ne]; omega
  have HG : Hid (∀ i (hi : i < bl.length), bl[i].l.length = bl[0].l.length ∧ 1 ≤ bl[i].l.length ∧ bl[i].l.length ≤ 16) := hgl
  have hn1 := (hgl 0 h0).2.2
  clear hgl hc0 hgood
  obtain ⟨b1, o1, rfl⟩ := ha.some (k := 0) (by simpa using h0)
  have hc1 : w.cell? ⟨b1, o1, none⟩ = some (.slice bl[0].a bl[0].l.length bl[0].cap) := by simpa using ha.at (k := 0) (by simp [h0, Blk.val])
  obtain ⟨n, hnn⟩ : ∃ n, n = bl[0].l.length := ⟨_, rfl⟩
  rw [← hnn] at hc1 hn1
  have HN : Hid (n = bl[0].l.length) := hnn
  clear hnn
  have hmk := run_make_row' (P := Tryd.prog) 36 5 (.int .u8 0) 1 Tryd.underlying36 infoU8 rfl .i64 .i64 n (by omega) (by omega)
  go_enter Tryd.func71, Tryd.ntmps71
  go_wp2_with fail
  refine HC.out.mono ?_
  rintro e w' ⟨rfl, rfl⟩
  go_wp2
  go_loopw [23] (fun i wr => ∃ k : Nat, k ≤ bl.length ∧ i = .int .i64 k ∧ wr.rowIs w.heap.size 5 n (u8at (sumTo (zeros n) ((bl.map Blk.l).take k))) ∧ Below w.heap.size w wr) (fun i _ => bl.length - (intOf i).toNat)
  case atStart => exact ⟨0, Nat.zero_le _, rfl, made_row, (Below.refl _ _).alloc (Nat.le_refl _) _⟩
  case round =>
    obtain ⟨k, hk, rfl, hrow, hbw⟩ := hrel
    by_cases hlt : k < bl.length
    · have hck : wr.cell? ⟨b1, o1 + k, none⟩ = some (.slice bl[k].a n bl[k].cap) := (ha.below hbw (Nat.le_refl _)).at (by
        have := (HG.out k hlt).1
        simp [hlt, Blk.val, HN.out, this])
      have hbk := hall bl[k] (by simp)
      have hsl : (sumTo (zeros n) ((bl.map Blk.l).take k)).length = n := sumTo_take_length HG HN k
      have HS : Hid ((sumTo (zeros n) ((bl.map Blk.l).take k)).length = n) := hsl
      have HBK : Hid (bl[k].l.length = n) := by rw [HN.out]; exact (HG.out k hlt).1
      clear hsl
      go_wp2_with fail
      refine (addTo_any w.heap.size n _ _ _ bl[k].l _ HS.out HBK.out (by unfold maxLen; omega) hrow (hbk.1.below hbw (Nat.le_refl _)) (lies_ne hbk.1 (Nat.le_refl _) HBK)).mono ?_
      rintro e w1 ⟨rfl, hrow1, hg1⟩
      have R := take_map_succ hlt (zeros n)
      rw [← R] at hrow1
      have hbw1 : Below w.heap.size w w1 := hbw.grown hg1 hbw.size (by simp)
      clear R hbk hrow hbw hck hg1
      go_wp2
      go_roundw
      case rel => exact ⟨k + 1, by omega, by go_num, hrow1, hbw1⟩
      case measure => simp [intOf]; omega
    · have HK : Hid (k = bl.length) := by have : k = bl.length := by omega
                                          exact this
      go_wp2
      go_ret2
      have hk' := HK.out
      subst hk'
      have e1 : sumTo (zeros n) ((bl.map Blk.l).take bl.length) = sumBl bl := sumBl_eq HN h0
      rw [e1] at hrow
      have e2 : (sumBl bl).length = n := by rw [← e1]; exact sumTo_take_length HG HN bl.length
      exact ⟨ret2 (by rw [e2]; rfl) rfl, by rw [e2]; exact hrow, hbw⟩

end Go.Proofs.YtkiejflgphjfjacDoor

/-
  Rows in memory; the reference's FirstOf: its contract.
-/
namespace Go.Proofs.YtkiejflgphjfjacDoor
open Go.RowKit
set_option linter.unusedVariables false
set_option linter.unusedSimpArgs false

/-- a row in memory: its bools, its bytes, and where they lie -/
structure MRow where
  ha : Option Addr
  hc : Nat
  h : List Bool
  da : Option Addr
  dc : Nat
  d : List UInt8

def MRow.hv (r : MRow) : Value := .slice r.ha r.h.length r.hc
def MRow.dv (r : MRow) : Value := .slice r.da r.d.length r.dc
def MRow.val (r : MRow) : Value := .agg #[r.hv, r.dv]

/-- it lies there -/
def RowIn (w : World) (r : MRow) : Prop := Lies w r.ha (r.h.map Value.bool) ∧ Lies w r.da (bs r.d) ∧ r.h.length ≤ maxLen ∧ r.d.length ≤ maxLen

theorem RowIn.below {w w' : World} {r : MRow} (h : RowIn w r) (hb : Below w.heap.size w w') : RowIn w' r := ⟨h.1.below hb (Nat.le_refl _), h.2.1.below hb (Nat.le_refl _), h.2.2⟩

/-- the cells of rows that stand in a list -/
def rowCells (l : List MRow) : List Value := l.flatMap fun r => [r.hv, r.dv]

theorem rowCells_length (l : List MRow) : (rowCells l).length = 2 * l.length := by
  induction l with
  | nil => rfl
  | cons r l ih => simp only [rowCells, List.flatMap_cons, List.length_append, List.length_cons, List.length_nil] at ih ⊢; omega

theorem rowCells_append (l m : List MRow) : rowCells (l ++ m) = rowCells l ++ rowCells m := by simp [rowCells]

theorem rowCells_get {l : List MRow} : ∀ {j : Nat} (hj : j < l.length), (rowCells l)[2 * j]? = some l[j].hv ∧ (rowCells l)[2 * j + 1]? = some l[j].dv := by
  induction l with
  | nil => intro j hj; simp at hj
  | cons r l ih =>
    intro j hj
    have e : rowCells (r :: l) = r.hv :: r.dv :: rowCells l := rfl
    cases j with
    | zero => rw [e]; exact ⟨rfl, rfl⟩
    | succ j =>
      have := ih (j := j) (by simpa using hj)
      rw [e, show 2 * (j + 1) = 2 * j + 1 + 1 by omega]
      simpa using this

/-- where the first true one is; -1, if there is none -/
def firstI (h : List Bool) : Int := if h.findIdx id < h.length then (h.findIdx id : Nat) else -1

theorem firstI_at {h : List Bool} {k : Nat} (hk : k < h.length) (ht : h[k] = true) (hn : ∀ j (hj : j < k), h[j]'(by omega) = false) : firstI h = k := by
  have e : h.findIdx id = k := by
    rw [List.findIdx_eq hk]
    exact ⟨by simpa using ht, fun j hj => by simpa using hn j hj⟩
  rw [firstI, e, if_pos hk]

theorem firstI_none {h : List Bool} (hn : ∀ j (hj : j < h.length), h[j] = false) : firstI h = -1 := by
  rw [firstI, if_neg]
  intro hl
  have := List.findIdx_getElem (w := hl)
  rw [hn _ hl] at this
  simp at this

theorem firstOf_any (r : MRow) (w : World) (hr : RowIn w r) : Calls Tryd.prog 70 #[.agg #[r.hv, r.dv]] w fun e w' => e = .returned (.int .i64 (firstI r.h)) ∧ Below w.heap.size w w' := by
  obtain ⟨h1, h2, h3, h4⟩ := hr
  unfold maxLen at h3
  have hla := h1.alloc (.cells #[r.hv, r.dv] 62)
  have hb : Below w.heap.size w (w.alloc (.cells #[r.hv, r.dv] 62)) := (Below.refl _ _).alloc (Nat.le_refl _) _
  clear h1 h2 h4
  unfold MRow.hv at *
  obtain ⟨ha, hc, h, da, dc, d⟩ := r
  simp only at *
  generalize MRow.dv ⟨ha, hc, h, da, dc, d⟩ = dv at *
  go_enter Tryd.func70, Tryd.ntmps70
  go_wp2
  generalize w.alloc (.cells #[.slice ha h.length hc, dv] 62) = w1 at *
  go_loopw [8] (fun i wr => ∃ k : Nat, k ≤ h.length ∧ i = .int .i64 k ∧ wr = w1 ∧ Shut (∀ j (hj : j < h.length), j < k → h[j] = false)) (fun i _ => h.length - (intOf i).toNat)
  case atStart => exact ⟨0, Nat.zero_le _, rfl, rfl, ⟨fun j _ hj => by omega⟩⟩
  case round =>
    obtain ⟨k, hk, rfl, rfl, HN⟩ := hrel
    by_cases hlt : k < h.length
    · obtain ⟨b1, o1, rfl⟩ := hla.some (k := k) (by simpa using hlt)
      have c1 : wr.cell? ⟨b1, o1 + k, none⟩ = some (.bool h[k]) := hla.at (by simp [hlt])
      clear hla
      cases hx : h[k]
      · have HN2 : Shut (∀ j (hj : j < h.length), j < k + 1 → h[j] = false) := ⟨fun j hj hjk => by
          by_cases e : j = k
          · subst e; exact hx
          · exact HN.out j hj (by omega)⟩
        rw [hx] at c1
        clear hx HN
        go_wp2
        exact ⟨⟨k + 1, by omega, by go_num, trivial, HN2⟩, by simp [intOf]; omega⟩
      · have HF : Shut (firstI h = k) := ⟨firstI_at hlt hx fun j hj => HN.out j (by omega) hj⟩
        rw [hx] at c1
        clear hx HN
        go_wp2
        go_ret
        exact ⟨ret_int HF.out.symm, hb⟩
    · have HF : Shut (firstI h = -1) := ⟨firstI_none fun j hj => HN.out j hj (by omega)⟩
      clear hla HN
      go_wp2
      go_ret
      exact ⟨ret_int HF.out.symm, hb⟩

end Go.Proofs.YtkiejflgphjfjacDoor
