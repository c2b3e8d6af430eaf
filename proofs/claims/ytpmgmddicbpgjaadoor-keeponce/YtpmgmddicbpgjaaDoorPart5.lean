import Derived.Test.YtpmgmddicbpgjaaDoorPart4
import Derived.Test.YtpmgmddicbpgjaaDoorPart2
import Derived.Test.YtpmgmddicbpgjaaDoorPart3
import Derived.Deep.CutBlock
import Derived.Test.YtpmgmddicbpgjaaDoorPart1
import Derived.Test.YtpmgmddicbpgjaaDoorRows
import Derived.BigQuiet
import Derived.Deep.QuietTactic
import Derived.Deep.RegionHeld3
/-
  Chapter 4's symbols: which bytes they have. Nothing of any program.
-/
namespace Go.Proofs.YtpmgmddicbpgjaaDoor
set_option linter.unusedVariables false
set_option linter.unusedSimpArgs false

/-- which numbers are in a list -/
def mask (l : List Nat) (j : Nat) : Bool := decide (j ∈ l)

theorem sumAt_cons {B : Nat → Nat → UInt8} {a n t : Nat} {l : List Nat} (ha : ¬ a ∈ l) (hn : a < n) : sumAt B (mask (a :: l)) n t = B a t ^^^ sumAt B (mask l) n t := by
  have h := sumAt_add B ⟨mask [a], fun _ => 0⟩ ⟨mask l, fun _ => 0⟩ n t
  have e : (V.add ⟨mask [a], fun _ => 0⟩ ⟨mask l, fun _ => 0⟩).has = mask (a :: l) := by
    funext j
    rw [V.has_add]
    simp only [mask]
    by_cases e : j = a
    · subst e; simp [ha]
    · simp [e]
  rw [e] at h
  rw [h]
  congr 1
  show sumAt B (mask [a]) n t = _
  rw [sumAt_one (k := a) (fun j => by simp [mask]), if_pos hn]

theorem sumAt_congr {B B' : Nat → Nat → UInt8} {h : Nat → Bool} {n t : Nat} (e : ∀ j, j < n → B j t = B' j t) : sumAt B h n t = sumAt B' h n t := by
  induction n with
  | zero => rfl
  | succ n ih => rw [sumAt, sumAt, ih (fun j hj => e j (by omega)), e n (by omega)]

theorem sumAt_mask {B : Nat → Nat → UInt8} {h h' : Nat → Bool} {n t : Nat} (e : ∀ j, j < n → h j = h' j) : sumAt B h n t = sumAt B h' n t := by
  induction n with
  | zero => rfl
  | succ n ih => rw [sumAt, sumAt, ih (fun j hj => e j (by omega)), e n (by omega)]

theorem getD_of {l : List UInt8} {t : Nat} (h : t < l.length) : l.getD t 0 = l[t] := by simp [List.getD, h]

theorem xorl_getD {a b : List UInt8} {t : Nat} (h : b.length = a.length) : (xorl a b).getD t 0 = a.getD t 0 ^^^ b.getD t 0 := by
  unfold xorl
  simp only [List.getD, List.getElem?_zipWith]
  by_cases ht : t < a.length
  · simp [ht, h]
  · simp [show a.length ≤ t by omega, show b.length ≤ t by omega]

/-- blocks added one by one, by their numbers -/
theorem sumTo_at {k n : Nat} {f : Nat → List UInt8} (hf : ∀ j, (f j).length = k) (t : Nat) : ∀ (l : List Nat) (acc : List UInt8), acc.length = k → l.Nodup → (∀ j ∈ l, j < n) →
    (sumTo acc (l.map f)).getD t 0 = acc.getD t 0 ^^^ sumAt (fun j t => (f j).getD t 0) (mask l) n t := by
  intro l
  induction l with
  | nil =>
    intro acc _ _ _
    rw [sumAt_none (fun j => by simp [mask])]
    simp [sumTo]
  | cons a l ih =>
    intro acc ha hd hl
    have hd' := List.nodup_cons.1 hd
    simp only [List.map_cons, sumTo]
    rw [ih (xorl acc (f a)) (by rw [xorl_length _ _ (by rw [ha, hf]), ha]) hd'.2 (fun j hj => hl j (List.mem_cons_of_mem _ hj)), xorl_getD (by rw [ha, hf]),
      sumAt_cons hd'.1 (hl a List.mem_cons_self), UInt8.xor_assoc]

/-- the symbol's bytes: the sum of the blocks that are in it -/
noncomputable def symL (nb k : Nat) (c : List UInt8) (i : Nat) : List UInt8 := (List.range k).map fun t => sumAt (fun j t => (piece k j c).getD t 0) (mask (chosen nb i)) nb t

theorem symL_length (nb k : Nat) (c : List UInt8) (i : Nat) : (symL nb k c i).length = k := by simp [symL]

theorem zeros_getD (k t : Nat) : (zeros k).getD t 0 = 0 := by
  simp only [zeros, List.getD, List.getElem?_replicate]
  split <;> rfl

/-- .. in whatever order they are added -/
theorem symL_sum {nb k i : Nat} {c : List UInt8} {l : List Nat} (hp : l.Perm (chosen nb i)) (h1 : 1 ≤ nb) (hb : nb ≤ 24) : sumTo (zeros k) (l.map fun j => piece k j c) = symL nb k c i := by
  have hlen : (sumTo (zeros k) (l.map fun j => piece k j c)).length = k := sumTo_length _ _ (by simp [zeros]) fun b hb => by
    obtain ⟨j, _, rfl⟩ := List.mem_map.1 hb
    exact piece_length _ _ _
  apply List.ext_getElem
  · rw [hlen, symL_length]
  · intro t h2 h3
    rw [← getD_of h2, ← getD_of h3, sumTo_at (n := nb) (fun j => piece_length k j c) t l (zeros k) (by simp [zeros]) ((hp.nodup_iff).2 (chosen_nodup h1 hb)) (fun j hj => chosen_lt h1 hb j (hp.mem_iff.1 hj)), zeros_getD]
    have ht : t < k := by rw [symL_length] at h3; exact h3
    simp only [symL, List.getD, List.getElem?_map, List.getElem?_range ht, Option.map_some, Option.getD_some, UInt8.zero_xor]
    exact sumAt_mask fun j _ => by simp only [mask, hp.mem_iff]

theorem sumAt_xor (B B' : Nat → Nat → UInt8) (h : Nat → Bool) (n t : Nat) : sumAt (fun j t => B j t ^^^ B' j t) h n t = sumAt B h n t ^^^ sumAt B' h n t := by
  induction n with
  | zero => simp [sumAt]
  | succ n ih =>
    simp only [sumAt, ih]
    have hx : ∀ x y c d : UInt8, ∀ p : Bool, (x ^^^ y ^^^ if p = true then c ^^^ d else 0) = (x ^^^ if p = true then c else 0) ^^^ (y ^^^ if p = true then d else 0) := by
      intro x y c d p
      cases p
      · simp
      · simp only [if_true]
        rw [UInt8.xor_assoc x y, UInt8.xor_assoc x c, ← UInt8.xor_assoc y c d, ← UInt8.xor_assoc c y d, UInt8.xor_comm y c]
    exact hx _ _ _ _ _

theorem piece_getD (k j : Nat) (c : List UInt8) (t : Nat) : (piece k j c).getD t 0 = if t < k then c.getD (j * k + t) 0 else 0 := by
  by_cases h : t < k
  · rw [if_pos h, List.getD, piece_get c h]; rfl
  · rw [if_neg h, List.getD, List.getElem?_eq_none (by rw [piece_length]; omega)]; rfl

theorem symL_xor {nb k i : Nat} {a b : List UInt8} (h : b.length = a.length) : symL nb k (xorl a b) i = xorl (symL nb k a i) (symL nb k b i) := by
  apply List.ext_getElem
  · rw [symL_length, xorl_length _ _ (by rw [symL_length, symL_length]), symL_length]
  · intro t h1 h2
    have ht : t < k := by rw [symL_length] at h1; exact h1
    rw [← getD_of h1, ← getD_of h2, xorl_getD (by rw [symL_length, symL_length])]
    simp only [symL, List.getD, List.getElem?_map, List.getElem?_range ht, Option.map_some, Option.getD_some]
    rw [← sumAt_xor]
    refine sumAt_congr fun j _ => ?_
    have e := fun c => piece_getD k j c t
    simp only [List.getD] at e
    simp only [e, if_pos ht]
    have := xorl_getD (a := a) (b := b) (t := j * k + t) h
    simpa only [List.getD] using this

/-- the numbers below q that are in a list, rising -/
def picksTo (l : List Nat) (q : Nat) : List Nat := (List.range q).filter fun j => decide (j ∈ l)

theorem picksTo_in {l : List Nat} {q : Nat} (h : q ∈ l) : picksTo l (q + 1) = picksTo l q ++ [q] := by simp [picksTo, List.range_succ, h]
theorem picksTo_out {l : List Nat} {q : Nat} (h : ¬ q ∈ l) : picksTo l (q + 1) = picksTo l q := by simp [picksTo, List.range_succ, h]

theorem picksTo_lt {l : List Nat} {q j : Nat} (h : j ∈ picksTo l q) : j < q := by
  have := (List.mem_filter.1 h).1
  simpa using this

theorem picks_perm {l : List Nat} {n : Nat} (hl : ∀ j ∈ l, j < n) (hd : l.Nodup) : (picksTo l n).Perm l := by
  refine (List.perm_ext_iff_of_nodup (List.Pairwise.filter _ List.nodup_range) hd).2 fun j => ?_
  simp only [picksTo, List.mem_filter, List.mem_range, decide_eq_true_eq]
  exact ⟨fun h => h.2, fun h => ⟨hl j h, h⟩⟩

/-- how Make answers -/
def symCode (B K : Int) (c : List UInt8) (id : Int) : Int := if cutCode B K c ≠ 0 then cutCode B K c else if id < 0 ∨ 9999 < id then 3 else 0
noncomputable def symRes (B K : Int) (c : List UInt8) (id : Int) : List UInt8 := if symCode B K c id = 0 then symL (nB B K).toNat K.toNat c id.toNat else []
def symID (B K : Int) (c : List UInt8) (id : Int) : Int := if symCode B K c id = 0 then id else 0

end Go.Proofs.YtpmgmddicbpgjaaDoor

/-
  Chapter 4's Check, the reference's and the program's: the contract of each.
-/
namespace Go.Proofs.YtpmgmddicbpgjaaDoor
open Go.RowKit
set_option linter.unusedVariables false
set_option linter.unusedSimpArgs false

/-- how Check answers -/
def chkS (B K id : Int) (n : Nat) : Int := if chkP B K ≠ 0 then chkP B K else if id < 0 ∨ 9999 < id then 3 else if (n : Int) ≠ K then 4 else 0

theorem chkS_plan {B K id : Int} {n : Nat} (h : chkP B K ≠ 0) : chkS B K id n = chkP B K := if_pos h
theorem chkS_id {B K id : Int} {n : Nat} (h : chkP B K = 0) (hi : id < 0 ∨ 9999 < id) : chkS B K id n = 3 := by rw [chkS, if_neg (by simp [h]), if_pos hi]
theorem chkS_form {B K id : Int} {n : Nat} (h : chkP B K = 0) (hi : ¬ (id < 0 ∨ 9999 < id)) (hn : (n : Int) ≠ K) : chkS B K id n = 4 := by rw [chkS, if_neg (by simp [h]), if_neg hi, if_pos hn]
theorem chkS_ok {B K id : Int} {n : Nat} (h : chkP B K = 0) (hi : ¬ (id < 0 ∨ 9999 < id)) (hn : (n : Int) = K) : chkS B K id n = 0 := by rw [chkS, if_neg (by simp [h]), if_neg hi, if_neg (by simp [hn])]

/-- a symbol's box -/
def BoxS (w : World) (g : Nat) (id : Int) (d : Value) : Prop := w.cell? ⟨g, 0, none⟩ = some (.int .i64 id) ∧ w.cell? ⟨g, 1, none⟩ = some d

theorem BoxS.mk (w : World) (id : Int) (d : Value) (t : TypeId) : BoxS (w.alloc (.cells #[.int .i64 id, d] t)) w.heap.size id d := by
  have h := Lies.alloc_new w #[.int .i64 id, d] t
  exact ⟨h.at (k := 0) rfl, h.at (k := 1) rfl⟩

theorem BoxS.below {w w1 : World} {g : Nat} {id : Int} {d : Value} (h : BoxS w g id d) (hb : Below w.heap.size w w1) : BoxS w1 g id d := by
  have h1 := World.block_lt_of_cell? w _ h.1
  simp at h1
  exact ⟨by rw [(bcell hb).1 g 0 h1]; exact h.1, by rw [(bcell hb).1 g 1 h1]; exact h.2⟩

/-- the boxes of a plan and a symbol, behind a call -/
theorem boxes2 {w w1 : World} {B K id : Int} {d : Value} {t u : TypeId}
    (hb : Below ((w.alloc (.cells #[.int .i64 B, .int .i64 K] t)).alloc (.cells #[.int .i64 id, d] u)).heap.size ((w.alloc (.cells #[.int .i64 B, .int .i64 K] t)).alloc (.cells #[.int .i64 id, d] u)) w1) :
    w1.cell? ⟨w.heap.size, 0, none⟩ = some (.int .i64 B) ∧ w1.cell? ⟨w.heap.size, 1, none⟩ = some (.int .i64 K) ∧ w1.cell? ⟨w.heap.size + 1, 0, none⟩ = some (.int .i64 id) ∧ w1.cell? ⟨w.heap.size + 1, 1, none⟩ = some d := by
  have h1 := ((Boxed.mk w B K t).below ((Below.refl _ _).alloc (Nat.le_refl _) (.cells #[.int .i64 id, d] u))).below hb
  have h2 := (BoxS.mk (w.alloc (.cells #[.int .i64 B, .int .i64 K] t)) id d u).below hb
  have e : (w.alloc (.cells #[.int .i64 B, .int .i64 K] t)).heap.size = w.heap.size + 1 := by simp
  rw [e] at h2
  exact ⟨h1.1, h1.2, h2.1, h2.2⟩

theorem codeCheck_any (B K id : Int) (a : Option Addr) (n cap : Nat) (w : World) (hB : I64 B) (hK : I64 K) (hn : n ≤ maxLen) :
    Calls Tryd.prog 23 #[.agg #[.int .i64 B, .int .i64 K], .agg #[.int .i64 id, .slice a n cap]] w fun e w' => e = .returned (.int .i64 (chkS B K id n)) ∧ Below w.heap.size w w' := by
  unfold maxLen at hn
  by_cases hc : chkP B K = 0
  · have HC := Shut.mk hc
    go_enter Tryd.func23, Tryd.ntmps23
    go_wp2_with fail
    refine (cutCheck_any B K _ hB hK).mono ?_
    rintro e w1 ⟨rfl, hb⟩
    obtain ⟨x0, x1, y0, y1⟩ := boxes2 hb
    have hb := boxBelow (boxBelow hb)
    rw [HC.out]
    by_cases h1 : 0 ≤ id ∧ id ≤ 9999
    · have hi : ¬ (id < 0 ∨ 9999 < id) := by omega
      by_cases h2 : (n : Int) = K
      · have h2' : ((n : Int) != K) = false := by simpa using h2
        have HA := Shut.mk (chkS_ok hc hi h2)
        obtain ⟨h3, h4⟩ := h1
        clear hi h2 hc
        go_wp2
        go_ret
        exact ⟨ret_int HA.out.symm, hb⟩
      · have h2' : ((n : Int) != K) = true := by simpa using h2
        have HA := Shut.mk (chkS_form hc hi h2)
        obtain ⟨h3, h4⟩ := h1
        clear hi h2 hc
        go_wp2
        go_ret
        exact ⟨ret_int HA.out.symm, hb⟩
    · have HA := Shut.mk (chkS_id (id := id) (n := n) hc (by omega))
      have h3 : id < 0 ∨ 9999 < id := by omega
      clear h1 hc
      rcases h3 with h3 | h3
      · go_wp2
        go_ret
        exact ⟨ret_int HA.out.symm, hb⟩
      · have h4 : 0 ≤ id := by omega
        go_wp2
        go_ret
        exact ⟨ret_int HA.out.symm, hb⟩
  · have hc' : (chkP B K != 0) = true := by simpa using hc
    have HA := Shut.mk (chkS_plan (id := id) (n := n) hc)
    clear hc
    go_enter Tryd.func23, Tryd.ntmps23
    go_wp2_with fail
    refine (cutCheck_any B K _ hB hK).mono ?_
    rintro e w1 ⟨rfl, hb⟩
    have hb := boxBelow (boxBelow hb)
    go_wp2
    go_ret
    exact ⟨ret_int HA.out.symm, hb⟩

end Go.Proofs.YtpmgmddicbpgjaaDoor

/-
  Chapter 7, the reference: CheckRec, where its parts fit its kind.
-/
namespace Go.Proofs.YtpmgmddicbpgjaaDoor
open Go.RowKit Go.Maps
set_option linter.unusedVariables false
set_option linter.unusedSimpArgs false

/-- what CheckRec answers where the parts fit the kind -/
def restCode (u : List UInt8) (p n y : Int) (h : Hd) (id : Int) (dn cn : Nat) : Int :=
  if ¬ ((0 ≤ p ∧ p ≤ 3) ∧ (0 ≤ y ∧ y ≤ 9999) ∧ (0 ≤ n ∧ n ≤ 1000000)) then 3
  else
    let e1 := if hasB u 72 then hdCode h else 0
    let e2 := if e1 = 0 ∧ hasB u 83 then chkS h.B h.K id dn else e1
    if e2 = 0 ∧ hasB u 67 ∧ (cn : Int) ≠ h.B then 4 else e2

end Go.Proofs.YtpmgmddicbpgjaaDoor

/-
  Chapter 7, of no program: records, their codes, their texts, and what a text says.
-/
namespace Go.Proofs.YtpmgmddicbpgjaaDoor
open Go.RowKit
set_option linter.unusedVariables false
set_option linter.unusedSimpArgs false

/-- what chapter 7's Check answers -/
def recCode (k p n y : Int) (h : Hd) (id : Int) (dn cn : Nat) : Int :=
  match usesL k with
  | none => 4
  | some u => if formB u p n y h id dn cn = true then restCode u p n y h id dn cn else 4

/-- a record, told by its numbers and bytes -/
structure Rc where
  k : Int
  p : Int
  n : Int
  y : Int
  h : Hd
  id : Int
  d : List UInt8
  c : List UInt8
  deriving DecidableEq

def Rc.code (r : Rc) : Int := recCode r.k r.p r.n r.y r.h r.id r.d.length r.c.length

/-- its numbers are ints -/
def Rc.ints (r : Rc) : Prop := I64 r.k ∧ I64 r.p ∧ I64 r.n ∧ I64 r.y ∧ r.h.ok ∧ I64 r.id

/-- its numbers, as they stand in its text -/
def Rc.nums (r : Rc) : List Int := [r.k, r.p, r.n, r.y, r.h.F, r.h.Q, r.h.T, r.h.L, r.h.B, r.h.K, r.id]

/-- the words of its text -/
def Rc.words (r : Rc) : List (List UInt8) := r.nums.map Lib.itoa ++ [hexW r.d, hexW r.c]

/-- its text -/
def Rc.text (r : Rc) : List UInt8 := Lib.join r.words [32]

/-- the zero record -/
def rc0 : Rc := ⟨0, 0, 0, 0, ⟨0, 0, 0, 0, 0, 0⟩, 0, [], []⟩

/-- the record of numbers and bytes -/
def recOf (l : List Int) (d c : List UInt8) : Rc :=
  ⟨l.getD 0 0, l.getD 1 0, l.getD 2 0, l.getD 3 0, ⟨l.getD 4 0, l.getD 5 0, l.getD 6 0, l.getD 7 0, l.getD 8 0, l.getD 9 0⟩, l.getD 10 0, d, c⟩

/-- the numbers of words -/
def numsW : List (List UInt8) → Option (List Int)
  | [] => some []
  | x :: r => match numW x with
    | none => none
    | some v => (numsW r).map (v :: ·)

/-- what a text says, be it a record that Check takes or not -/
def readL (s : List UInt8) : Option Rc :=
  if (wordsL s).length = 13 then
    match numsW ((wordsL s).take 11), byW ((wordsL s).getD 11 []), byW ((wordsL s).getD 12 []) with
    | some l, some d, some c => some (recOf l d c)
    | _, _, _ => none
  else none

theorem numsW_append : ∀ (a b : List (List UInt8)) (l : List Int), numsW a = some l → numsW (a ++ b) = (numsW b).map (l ++ ·)
  | [], b, l, h => by
    simp [numsW] at h
    subst h
    rw [List.nil_append]
    cases numsW b <;> rfl
  | x :: r, b, l, h => by
    rw [numsW] at h
    rw [List.cons_append, numsW]
    cases hx : numW x with
    | none => rw [hx] at h; cases h
    | some v =>
      rw [hx] at h
      simp only at h ⊢
      cases hr : numsW r with
      | none => rw [hr] at h; cases h
      | some m =>
        rw [hr] at h
        simp only [Option.map_some, Option.some.injEq] at h
        subst h
        rw [numsW_append r b m hr]
        cases numsW b <;> rfl

theorem numsW_none : ∀ (a b : List (List UInt8)), numsW a = none → numsW (a ++ b) = none
  | [], b, h => by simp [numsW] at h
  | x :: r, b, h => by
    rw [numsW] at h
    rw [List.cons_append, numsW]
    cases hx : numW x with
    | none => rfl
    | some v =>
      rw [hx] at h
      simp only at h ⊢
      cases hr : numsW r with
      | none => rw [numsW_none r b hr]; rfl
      | some m => rw [hr] at h; cases h

theorem numsW_itoa : ∀ (l : List Int), (∀ n ∈ l, I64 n) → numsW (l.map Lib.itoa) = some l
  | [], _ => rfl
  | n :: r, h => by
    have hn := h n (by simp)
    rw [List.map_cons, numsW, numW_itoa n hn.1 hn.2, numsW_itoa r (fun m hm => h m (List.mem_cons_of_mem _ hm))]
    rfl

theorem itoa_numsW : ∀ (a : List (List UInt8)) (l : List Int), numsW a = some l → l.map Lib.itoa = a ∧ (∀ n ∈ l, I64 n)
  | [], l, h => by simp [numsW] at h; subst h; simp
  | x :: r, l, h => by
    rw [numsW] at h
    cases hx : numW x with
    | none => rw [hx] at h; cases h
    | some v =>
      rw [hx] at h
      simp only at h
      cases hr : numsW r with
      | none => rw [hr] at h; cases h
      | some m =>
        rw [hr] at h
        simp only [Option.map_some, Option.some.injEq] at h
        subst h
        obtain ⟨h1, h2⟩ := itoa_numsW r m hr
        obtain ⟨h3, h4⟩ := numW_back hx
        refine ⟨by rw [List.map_cons, h1, h3], ?_⟩
        intro n hn
        rcases List.mem_cons.1 hn with rfl | hn
        · exact h4
        · exact h2 n hn

theorem numsW_len {a : List (List UInt8)} {l : List Int} (h : numsW a = some l) : l.length = a.length := by
  have := congrArg List.length (itoa_numsW a l h).1
  simpa using this

theorem Rc.ints_nums {r : Rc} (h : r.ints) : ∀ n ∈ r.nums, I64 n := by
  obtain ⟨h1, h2, h3, h4, ⟨h5, h6, h7, h8, h9, h10⟩, h11⟩ := h
  intro n hn
  simp only [Rc.nums, List.mem_cons, List.not_mem_nil, or_false] at hn
  rcases hn with rfl | rfl | rfl | rfl | rfl | rfl | rfl | rfl | rfl | rfl | rfl <;> assumption

theorem recOf_nums (r : Rc) : recOf r.nums r.d r.c = r := by
  obtain ⟨k, p, n, y, ⟨F, Q, T, L, B, K⟩, id, d, c⟩ := r
  rfl

theorem words_text (r : Rc) : wordsL r.text = r.words := by
  refine wordsL_join _ (by simp [Rc.words]) ?_
  intro x hx
  simp only [Rc.words, List.mem_append, List.mem_map, List.mem_cons, List.not_mem_nil, or_false] at hx
  rcases hx with ⟨n, _, rfl⟩ | rfl | rfl
  · exact itoa_free n
  · exact hexW_free _
  · exact hexW_free _

/-- what is printed is read -/
theorem read_text {r : Rc} (h : r.ints) : readL r.text = some r := by
  have h1 : numsW (r.nums.map Lib.itoa) = some r.nums := numsW_itoa _ (Rc.ints_nums h)
  have h2 : r.words.take 11 = r.nums.map Lib.itoa := rfl
  have h3 : r.words.getD 11 [] = hexW r.d := rfl
  have h4 : r.words.getD 12 [] = hexW r.c := rfl
  rw [readL, words_text, if_pos (by rfl), h2, h3, h4, h1, byW_hexW, byW_hexW]
  simp only [recOf_nums]

theorem eleven {l : List Int} (h : l.length = 11) (d c : List UInt8) : (recOf l d c).nums = l := by
  match l, h with
  | [a, b, c, d, e, f, g, h, i, j, k], _ => rfl

/-- what is read is printed as it was -/
theorem text_read {s : List UInt8} {r : Rc} (h : readL s = some r) : r.text = s ∧ r.ints := by
  unfold readL at h
  split at h
  · rename_i hl
    cases h1 : numsW ((wordsL s).take 11) with
    | none => rw [h1] at h; cases h
    | some l =>
      cases h2 : byW ((wordsL s).getD 11 []) with
      | none => rw [h1, h2] at h; cases h
      | some d =>
        cases h3 : byW ((wordsL s).getD 12 []) with
        | none => rw [h1, h2, h3] at h; cases h
        | some c =>
          rw [h1, h2, h3] at h
          simp only [Option.some.injEq] at h
          have hll : l.length = 11 := by rw [numsW_len h1, List.length_take, hl]; rfl
          have hn := eleven hll d c
          rw [h] at hn
          have hd : r.d = d := by rw [← h]; rfl
          have hc : r.c = c := by rw [← h]; rfl
          obtain ⟨e1, e2⟩ := itoa_numsW _ _ h1
          constructor
          · rw [Rc.text, Rc.words, hn, hd, hc, e1, hexW_byW h2, hexW_byW h3]
            have e : (wordsL s).take 11 ++ [(wordsL s).getD 11 [], (wordsL s).getD 12 []] = wordsL s := by
              generalize wordsL s = ws at hl
              match ws, hl with
              | [a, b, c, d, e, f, g, h, i, j, k, l, m], _ => rfl
            rw [e, join_wordsL]
          · rw [← hn] at e2
            simp only [Rc.nums, List.mem_cons, List.not_mem_nil, or_false, forall_eq_or_imp, forall_eq] at e2
            obtain ⟨h1, h2, h3, h4, h5, h6, h7, h8, h9, h10, h11⟩ := e2
            exact ⟨h1, h2, h3, h4, ⟨h5, h6, h7, h8, h9, h10⟩, h11⟩
  · cases h

/-- unlike records have unlike texts -/
theorem text_inj {a b : Rc} (ha : a.ints) (hb : b.ints) : a.text = b.text ↔ a = b := by
  constructor
  · intro h
    have := read_text ha
    rw [h, read_text hb] at this
    injection this with this
    exact this.symm
  · rintro rfl; rfl

theorem words_len (r : Rc) (h : r.ints) : r.text.length ≤ 300 + 2 * r.d.length + 2 * r.c.length := by
  have hi := Rc.ints_nums h
  have g : ∀ l : List Int, (∀ n ∈ l, I64 n) → Lib.lens (l.map Lib.itoa) ≤ 21 * l.length := by
    intro l
    induction l with
    | nil => intro _; simp [Lib.lens]
    | cons n l ih =>
      intro hl
      have h1 := Lib.itoa_length_le n (hl n (by simp)).1 (hl n (by simp)).2
      have h2 := ih (fun m hm => hl m (List.mem_cons_of_mem _ hm))
      simp only [Lib.lens, List.map_cons, List.sum_cons, List.length_cons] at h2 ⊢
      omega
  have h1 := g _ hi
  have e : r.words = Lib.itoa r.k :: ([r.p, r.n, r.y, r.h.F, r.h.Q, r.h.T, r.h.L, r.h.B, r.h.K, r.id].map Lib.itoa ++ [hexW r.d, hexW r.c]) := rfl
  have h2 := hexL_len r.d
  have h3 := hexL_len r.c
  rw [Rc.text, e, Lib.join_cons, List.length_append, Lib.joinTail_length]
  simp only [Lib.lens, Rc.nums, hexW, List.map_cons, List.map_nil, List.map_append, List.sum_append, List.sum_cons, List.sum_nil, List.length_cons, List.length_nil, List.length_append, h2, h3] at h1 ⊢
  omega

theorem uses_all {k : Int} {u : List UInt8} (h : usesL k = some u) : u ∈ usesT.map Prod.snd := by
  unfold usesL at h
  cases hf : usesT.find? (fun p => p.1 == k) with
  | none => rw [hf] at h; cases h
  | some q =>
    rw [hf] at h
    simp only [Option.map_some, Option.some.injEq] at h
    subst h
    exact List.mem_map_of_mem (List.mem_of_find?_eq_some hf)

theorem uses_head {k : Int} {u : List UInt8} (h : usesL k = some u) : (hasB u 83 = true → hasB u 72 = true) ∧ (hasB u 67 = true → hasB u 72 = true) := by
  have := uses_all h
  revert this
  generalize u = v
  revert v
  decide

theorem hdCode_zero {h : Hd} (e : hdCode h = 0) : chkP h.B h.K = 0 := by
  unfold hdCode at e
  split at e
  · simp at e
  · split at e
    · simp at e
    · exact e

theorem chkS_zeroN {B K id : Int} {n : Nat} (h : chkS B K id n = 0) : chkP B K = 0 ∧ (n : Int) = K := by
  unfold chkS at h
  split at h
  · rename_i hn; exact absurd h hn
  · split at h
    · simp at h
    · split at h
      · simp at h
      · rename_i h1 h2 h3
        exact ⟨by simpa using h1, by simpa using h3⟩

/-- a record that Check takes is short -/
theorem code_short {r : Rc} (h : r.code = 0) : r.d.length ≤ 16 ∧ r.c.length ≤ 360 := by
  obtain ⟨k, p, n, y, hd, id, d, c⟩ := r
  simp only [Rc.code] at h ⊢
  generalize d.length = dn at h ⊢
  generalize c.length = cn at h ⊢
  clear d c
  unfold recCode at h
  cases hu : usesL k with
  | none => rw [hu] at h; simp at h
  | some u =>
    rw [hu] at h
    simp only at h
    obtain ⟨g1, g2⟩ := uses_head hu
    split at h
    · rename_i hf
      simp only [formB, Bool.and_eq_true, Bool.or_eq_true, beq_iff_eq] at hf
      obtain ⟨⟨⟨⟨⟨f1, f2⟩, f3⟩, f4⟩, f5⟩, f6⟩ := hf
      simp only [restCode] at h
      split at h
      · simp at h
      · generalize he1 : (if hasB u 72 = true then hdCode hd else 0) = e1 at h
        generalize he2 : (if e1 = 0 ∧ hasB u 83 = true then chkS hd.B hd.K id dn else e1) = e2 at h
        have h2 : e2 = 0 := by
          split at h
          · simp at h
          · exact h
        have h3 : ¬ (hasB u 67 = true ∧ (cn : Int) ≠ hd.B) := by
          intro hh
          rw [if_pos ⟨h2, hh⟩] at h
          simp at h
        have h1 : e1 = 0 := by
          rw [h2] at he2
          split at he2
          · rename_i hh; exact hh.1
          · exact he2
        have hp : hasB u 72 = true → chkP hd.B hd.K = 0 := by
          intro hh
          rw [if_pos hh, h1] at he1
          exact hdCode_zero he1
        constructor
        · rcases f5 with f5 | f5
          · rw [h2, if_pos ⟨h1, f5⟩] at he2
            obtain ⟨a, b⟩ := chkS_zeroN he2
            have := chkP_zero a
            omega
          · omega
        · rcases f6 with f6 | f6
          · have := chkP_zero (hp (g2 f6))
            have : (cn : Int) = hd.B := Classical.byContradiction fun hh => h3 ⟨f6, hh⟩
            omega
          · omega
    · simp at h

theorem text_short {r : Rc} (hi : r.ints) (h : r.code = 0) : r.text.length ≤ 60000 := by
  have h1 := words_len r hi
  have h2 := code_short h
  omega

end Go.Proofs.YtpmgmddicbpgjaaDoor

/-
  Chapter 7, of no program: Check, as package note goes about it.
-/
namespace Go.Proofs.YtpmgmddicbpgjaaDoor
open Go.RowKit
set_option linter.unusedVariables false
set_option linter.unusedSimpArgs false

/-- is it one of these kinds? -/
def inK (k : Int) (l : List Int) : Bool := l.any (· == k)

/-- has the record something that its kind has no use for? -/
def needless (k p n y : Int) (h : Hd) (id : Int) (dn cn : Nat) : Bool :=
  (!(p == 0) && !inK k [4, 6]) || (!(n == 0) && !inK k [1, 4, 6, 8]) || (!(y == 0) && !inK k [4, 5, 6]) || (!decide (h = ⟨0, 0, 0, 0, 0, 0⟩) && inK k [8]) || ((!(id == 0) || decide ((0 : Int) < dn)) && !inK k [2]) || (decide ((0 : Int) < cn) && !inK k [1, 3])

theorem uses_none {k : Int} : usesL k = none ↔ ¬ (1 ≤ k ∧ k ≤ 8) := by
  constructor
  · intro h hk
    have : k = 1 ∨ k = 2 ∨ k = 3 ∨ k = 4 ∨ k = 5 ∨ k = 6 ∨ k = 7 ∨ k = 8 := by omega
    rcases this with rfl | rfl | rfl | rfl | rfl | rfl | rfl | rfl <;> cases h
  · intro hk
    have h1 : ∀ p ∈ usesT, ¬ (p.1 == k) = true := by
      intro p hp
      simp only [usesT, List.mem_cons, List.not_mem_nil, or_false] at hp
      rcases hp with rfl | rfl | rfl | rfl | rfl | rfl | rfl | rfl <;> simp <;> omega
    simp only [usesL, List.find?_eq_none.2 h1, Option.map_none]

theorem uses_eight {k : Int} {u : List UInt8} (h : usesL k = some u) : (k = 1 ∧ u = [78, 72, 67]) ∨ (k = 2 ∧ u = [72, 83]) ∨ (k = 3 ∧ u = [72, 67]) ∨ (k = 4 ∧ u = [80, 78, 84, 72]) ∨ (k = 5 ∧ u = [84, 72]) ∨ (k = 6 ∧ u = [80, 78, 84, 72]) ∨ (k = 7 ∧ u = [72]) ∨ (k = 8 ∧ u = [78]) := by
  by_cases hk : 1 ≤ k ∧ k ≤ 8
  · have : k = 1 ∨ k = 2 ∨ k = 3 ∨ k = 4 ∨ k = 5 ∨ k = 6 ∨ k = 7 ∨ k = 8 := by omega
    rcases this with rfl | rfl | rfl | rfl | rfl | rfl | rfl | rfl <;> (simp only [usesL, usesT] at h; injection h with h; subst h; simp)
  · rw [uses_none.2 hk] at h; cases h

theorem needless_form {k p n y : Int} {h : Hd} {id : Int} {dn cn : Nat} {u : List UInt8} (hu : usesL k = some u) : needless k p n y h id dn cn = !formB u p n y h id dn cn := by
  have hd : decide ((0 : Int) < dn) = !((dn : Int) == 0) := by
    by_cases e : dn = 0
    · subst e; rfl
    · have h1 : ¬ (dn : Int) = 0 := by omega
      have h2 : (0 : Int) < dn := by omega
      rw [decide_eq_true h2, beq_eq_false_iff_ne.2 h1]; rfl
  have hc : decide ((0 : Int) < cn) = !((cn : Int) == 0) := by
    by_cases e : cn = 0
    · subst e; rfl
    · have h1 : ¬ (cn : Int) = 0 := by omega
      have h2 : (0 : Int) < cn := by omega
      rw [decide_eq_true h2, beq_eq_false_iff_ne.2 h1]; rfl
  have b1 : ∀ a : UInt8, a ∈ ([80, 78, 84, 72, 83, 67] : List UInt8) → True := fun _ _ => trivial
  simp only [needless, formB, hd, hc]
  generalize (p == 0) = z1
  generalize (n == 0) = z2
  generalize (y == 0) = z3
  generalize decide (h = ⟨0, 0, 0, 0, 0, 0⟩) = z4
  generalize (id == 0) = z5
  generalize ((dn : Int) == 0) = z6
  generalize ((cn : Int) == 0) = z7
  clear hd hc b1
  rcases uses_eight hu with ⟨rfl, rfl⟩ | ⟨rfl, rfl⟩ | ⟨rfl, rfl⟩ | ⟨rfl, rfl⟩ | ⟨rfl, rfl⟩ | ⟨rfl, rfl⟩ | ⟨rfl, rfl⟩ | ⟨rfl, rfl⟩ <;> (clear hu; revert z1 z2 z3 z4 z5 z6 z7; decide)

/-- what note.Check answers, in its own order -/
def ownCode (k p n y : Int) (h : Hd) (id : Int) (dn cn : Nat) : Int :=
  if ¬ (1 ≤ k ∧ k ≤ 8) then 4
  else if needless k p n y h id dn cn = true then 4
  else if ¬ ((0 ≤ p ∧ p ≤ 3) ∧ (0 ≤ y ∧ y ≤ 9999) ∧ (0 ≤ n ∧ n ≤ 1000000)) then 3
  else if k = 8 then 0
  else if hdCode h ≠ 0 then hdCode h
  else if k = 2 then chkS h.B h.K id dn
  else if (k = 1 ∨ k = 3) ∧ (cn : Int) ≠ h.B then 4
  else 0

theorem ownCode_rec (k p n y : Int) (h : Hd) (id : Int) (dn cn : Nat) : ownCode k p n y h id dn cn = recCode k p n y h id dn cn := by
  unfold ownCode recCode
  cases hu : usesL k with
  | none => rw [if_pos (uses_none.1 hu)]
  | some u =>
    have hk : 1 ≤ k ∧ k ≤ 8 := Classical.byContradiction fun hn => by rw [uses_none.2 hn] at hu; cases hu
    rw [if_neg (by simpa using hk), needless_form hu]
    simp only
    by_cases hf : formB u p n y h id dn cn = true
    · rw [if_neg (by simp [hf]), if_pos hf]
      simp only [restCode]
      by_cases hr : (0 ≤ p ∧ p ≤ 3) ∧ (0 ≤ y ∧ y ≤ 9999) ∧ (0 ≤ n ∧ n ≤ 1000000)
      · have hr' : ¬ ¬ ((0 ≤ p ∧ p ≤ 3) ∧ (0 ≤ y ∧ y ≤ 9999) ∧ (0 ≤ n ∧ n ≤ 1000000)) := fun hh => hh hr
        rw [if_neg hr', if_neg hr']
        generalize hdCode h = e
        generalize chkS h.B h.K id dn = s
        by_cases he : e = 0
        · subst he
          rcases uses_eight hu with ⟨rfl, rfl⟩ | ⟨rfl, rfl⟩ | ⟨rfl, rfl⟩ | ⟨rfl, rfl⟩ | ⟨rfl, rfl⟩ | ⟨rfl, rfl⟩ | ⟨rfl, rfl⟩ | ⟨rfl, rfl⟩ <;> simp [show hasB [78, 72, 67] 72 = true by decide, show hasB [78, 72, 67] 83 = false by decide, show hasB [78, 72, 67] 67 = true by decide, show hasB [72, 83] 72 = true by decide, show hasB [72, 83] 83 = true by decide, show hasB [72, 83] 67 = false by decide, show hasB [72, 67] 72 = true by decide, show hasB [72, 67] 83 = false by decide, show hasB [72, 67] 67 = true by decide, show hasB [80, 78, 84, 72] 72 = true by decide, show hasB [80, 78, 84, 72] 83 = false by decide, show hasB [80, 78, 84, 72] 67 = false by decide, show hasB [84, 72] 72 = true by decide, show hasB [84, 72] 83 = false by decide, show hasB [84, 72] 67 = false by decide, show hasB [72] 72 = true by decide, show hasB [72] 83 = false by decide, show hasB [72] 67 = false by decide, show hasB [78] 72 = false by decide, show hasB [78] 83 = false by decide, show hasB [78] 67 = false by decide]
        · rcases uses_eight hu with ⟨rfl, rfl⟩ | ⟨rfl, rfl⟩ | ⟨rfl, rfl⟩ | ⟨rfl, rfl⟩ | ⟨rfl, rfl⟩ | ⟨rfl, rfl⟩ | ⟨rfl, rfl⟩ | ⟨rfl, rfl⟩ <;> simp [he, show hasB [78, 72, 67] 72 = true by decide, show hasB [78, 72, 67] 83 = false by decide, show hasB [78, 72, 67] 67 = true by decide, show hasB [72, 83] 72 = true by decide, show hasB [72, 83] 83 = true by decide, show hasB [72, 83] 67 = false by decide, show hasB [72, 67] 72 = true by decide, show hasB [72, 67] 83 = false by decide, show hasB [72, 67] 67 = true by decide, show hasB [80, 78, 84, 72] 72 = true by decide, show hasB [80, 78, 84, 72] 83 = false by decide, show hasB [80, 78, 84, 72] 67 = false by decide, show hasB [84, 72] 72 = true by decide, show hasB [84, 72] 83 = false by decide, show hasB [84, 72] 67 = false by decide, show hasB [72] 72 = true by decide, show hasB [72] 83 = false by decide, show hasB [72] 67 = false by decide, show hasB [78] 72 = false by decide, show hasB [78] 83 = false by decide, show hasB [78] 67 = false by decide]
      · rw [if_pos hr, if_pos hr]
    · rw [if_pos (by simpa using hf), if_neg hf]

end Go.Proofs.YtpmgmddicbpgjaaDoor

/-
  Rows in memory; the reference's FirstOf: its contract.
-/
namespace Go.Proofs.YtpmgmddicbpgjaaDoor
open Go.RowKit
set_option linter.unusedVariables false
set_option linter.unusedSimpArgs false

/-- a row in memory: its bools, its bytes, and where they lie -/
structure MRow where
  ha : Option Addr
  hc : Nat
  h : List Bool
  da : Option Addr
  dc : Nat
  d : List UInt8

def MRow.hv (r : MRow) : Value := .slice r.ha r.h.length r.hc
def MRow.dv (r : MRow) : Value := .slice r.da r.d.length r.dc
def MRow.val (r : MRow) : Value := .agg #[r.hv, r.dv]

/-- it lies there -/
def RowIn (w : World) (r : MRow) : Prop := Lies w r.ha (r.h.map Value.bool) ∧ Lies w r.da (bs r.d) ∧ r.h.length ≤ maxLen ∧ r.d.length ≤ maxLen

theorem RowIn.below {w w' : World} {r : MRow} (h : RowIn w r) (hb : Below w.heap.size w w') : RowIn w' r := ⟨h.1.below hb (Nat.le_refl _), h.2.1.below hb (Nat.le_refl _), h.2.2⟩

/-- the cells of rows that stand in a list -/
def rowCells (l : List MRow) : List Value := l.flatMap fun r => [r.hv, r.dv]

theorem rowCells_length (l : List MRow) : (rowCells l).length = 2 * l.length := by
  induction l with
  | nil => rfl
  | cons r l ih => simp only [rowCells, List.flatMap_cons, List.length_append, List.length_cons, List.length_nil] at ih ⊢; omega

theorem rowCells_append (l m : List MRow) : rowCells (l ++ m) = rowCells l ++ rowCells m := by simp [rowCells]

theorem rowCells_get {l : List MRow} : ∀ {j : Nat} (hj : j < l.length), (rowCells l)[2 * j]? = some l[j].hv ∧ (rowCells l)[2 * j + 1]? = some l[j].dv := by
  induction l with
  | nil => intro j hj; simp at hj
  | cons r l ih =>
    intro j hj
    have e : rowCells (r :: l) = r.hv :: r.dv :: rowCells l := rfl
    cases j with
    | zero => rw [e]; exact ⟨rfl, rfl⟩
    | succ j =>
      have := ih (j := j) (by simpa using hj)
      rw [e, show 2 * (j + 1) = 2 * j + 1 + 1 by omega]
      simpa using this

/-- where the first true one is; -1, if there is none -/
def firstI (h : List Bool) : Int := if h.findIdx id < h.length then (h.findIdx id : Nat) else -1

theorem firstI_at {h : List Bool} {k : Nat} (hk : k < h.length) (ht : h[k] = true) (hn : ∀ j (hj : j < k), h[j]'(by omega) = false) : firstI h = k := by
  have e : h.findIdx id = k := by
    rw [List.findIdx_eq hk]
    exact ⟨by simpa using ht, fun j hj => by simpa using hn j hj⟩
  rw [firstI, e, if_pos hk]

theorem firstI_none {h : List Bool} (hn : ∀ j (hj : j < h.length), h[j] = false) : firstI h = -1 := by
  rw [firstI, if_neg]
  intro hl
  have := List.findIdx_getElem (w := hl)
  rw [hn _ hl] at this
  simp at this

end Go.Proofs.YtpmgmddicbpgjaaDoor

/-
  slices.Equal at integers: the contract of each instance.
-/
namespace Go.Proofs.YtpmgmddicbpgjaaDoor
open Go.RowKit
set_option linter.unusedVariables false
set_option linter.unusedSimpArgs false

theorem take_eq_succ {xs ys : List Int} {k : Nat} (h : xs.take k = ys.take k) (h1 : k < xs.length) (h2 : k < ys.length) (e : xs[k] = ys[k]) : xs.take (k + 1) = ys.take (k + 1) := by
  rw [List.take_succ_eq_append_getElem h1, List.take_succ_eq_append_getElem h2, h, e]

theorem bs_map (l : List UInt8) : bs l = (l.map fun x => (x.toNat : Int)).map (Value.int .u8) := by simp [bs]

theorem nats_inj {l m : List UInt8} : (l.map fun x => (x.toNat : Int)) = (m.map fun x => (x.toNat : Int)) ↔ l = m := by
  constructor
  · intro h
    have : ∀ (l m : List UInt8), (l.map fun x => (x.toNat : Int)) = (m.map fun x => (x.toNat : Int)) → l = m := by
      intro l
      induction l with
      | nil => intro m h; cases m <;> simp_all
      | cons x l ih =>
        intro m h
        cases m with
        | nil => simp at h
        | cons y m =>
          simp only [List.map_cons, List.cons.injEq] at h
          rw [ih m h.2]
          have : x = y := UInt8.toNat_inj.1 (by omega)
          rw [this]
    exact this l m h
  · intro h; rw [h]

end Go.Proofs.YtpmgmddicbpgjaaDoor

/-
  slices.Equal at bools: its contract.
-/
namespace Go.Proofs.YtpmgmddicbpgjaaDoor
open Go.RowKit
set_option linter.unusedVariables false
set_option linter.unusedSimpArgs false

theorem take_eq_succB {xs ys : List Bool} {k : Nat} (h : xs.take k = ys.take k) (h1 : k < xs.length) (h2 : k < ys.length) (e : xs[k] = ys[k]) : xs.take (k + 1) = ys.take (k + 1) := by
  rw [List.take_succ_eq_append_getElem h1, List.take_succ_eq_append_getElem h2, h, e]

end Go.Proofs.YtpmgmddicbpgjaaDoor

/-
  Systems in memory.
-/
namespace Go.Proofs.YtpmgmddicbpgjaaDoor
open Go.RowKit
set_option linter.unusedVariables false
set_option linter.unusedSimpArgs false

/-- a system in memory -/
structure MSys where
  B : Int
  K : Int
  ra : Option Addr
  rc : Nat
  rows : List MRow

def SysIn (w : World) (s : MSys) : Prop := Lies w s.ra (rowCells s.rows) ∧ (∀ r ∈ s.rows, RowIn w r) ∧ s.rows.length ≤ maxLen

theorem SysIn.below {w w' : World} {s : MSys} (h : SysIn w s) (hb : Below w.heap.size w w') : SysIn w' s := ⟨h.1.below hb (Nat.le_refl _), fun r hr => (h.2.1 r hr).below hb, h.2.2⟩

/-- what a row says, wherever it lies -/
def MRow.says (r : MRow) : List Bool × List UInt8 := (r.h, r.d)

def sameSys (s t : MSys) : Prop := s.B = t.B ∧ s.K = t.K ∧ s.rows.map MRow.says = t.rows.map MRow.says

/-- the two cells of a row that stands in a list -/
theorem row_at {w : World} {b o : Nat} {l : List MRow} (h : Lies w (some ⟨b, o, none⟩) (rowCells l)) {j : Nat} (hj : j < l.length) : w.cell? ⟨b, o + j * 2, none⟩ = some l[j].hv ∧ w.cell? ⟨b, o + j * 2 + 1, none⟩ = some l[j].dv := by
  have h0 := h.at (rowCells_get hj).1
  have h1 := h.at (rowCells_get hj).2
  rw [Nat.mul_comm] at h0
  rw [Nat.mul_comm, ← Nat.add_assoc] at h1
  exact ⟨h0, h1⟩

theorem cellC {w w' : World} {b o : Nat} {v : Value} (h : w.cell? ⟨b, o, none⟩ = some v) (hb : Below w.heap.size w w') : w'.cell? ⟨b, o, none⟩ = some v := by
  have := World.block_lt_of_cell? w _ h
  rw [(bcell hb).1 b o this]
  exact h

end Go.Proofs.YtpmgmddicbpgjaaDoor
