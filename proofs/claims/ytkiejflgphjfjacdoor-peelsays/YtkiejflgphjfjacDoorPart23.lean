/-
  The reference's rounds: which symbols are used up, against which rows are left. Nothing of any program.
-/
import Derived.Test.YtkiejflgphjfjacDoorPart9
namespace Go.Proofs.YtkiejflgphjfjacDoor
open Go.RowKit
set_option linter.unusedVariables false
set_option linter.unusedSimpArgs false

/-- the rows that aren't used up -/
def leftU : List LRow → List Bool → List LRow
  | r :: A, u :: U => if u = true then leftU A U else r :: leftU A U
  | _, _ => []

theorem leftU_snoc {r : LRow} {u : Bool} : ∀ {A : List LRow} {U : List Bool}, A.length = U.length → leftU (A ++ [r]) (U ++ [u]) = leftU A U ++ (if u = true then [] else [r]) := by
  intro A
  induction A with
  | nil => intro U h; cases U with
    | nil => cases u <;> rfl
    | cons a U => simp at h
  | cons a A ih => intro U h; cases U with
    | nil => simp at h
    | cons b U =>
      have := ih (U := U) (by simpa using h)
      simp only [List.cons_append, leftU, this]
      split
      · rfl
      · rfl

theorem leftU_none (A : List LRow) : leftU A (List.replicate A.length false) = A := by
  induction A with
  | nil => rfl
  | cons r A ih => simp only [List.length_cons, List.replicate_succ, leftU]; rw [if_neg (by simp), ih]

/-- the state within a round of the reference -/
structure RU (n k : Nat) (A : List LRow) (U0 : List Bool) (K0 : Kn) (U : List Bool) (q : Nat) (s : PSt) : Prop where
  fold : (leftU (A.take q) (U0.take q)).foldl (stepR n k) ([], K0, false) = s
  left : leftU (A.take q) (U.take q) = s.1
  same : U.drop q = U0.drop q
  len : U.length = A.length
  len0 : U0.length = A.length

theorem RU.start {n k : Nat} {A : List LRow} {U0 : List Bool} {K0 : Kn} (h : U0.length = A.length) : RU n k A U0 K0 U0 0 ([], K0, false) := ⟨by simp [leftU], by simp [leftU], rfl, h, h⟩

theorem RU.at {n k q : Nat} {A : List LRow} {U0 U : List Bool} {K0 : Kn} {s : PSt} (h : RU n k A U0 K0 U q s) (hq : q < A.length) : U0[q]'(by rw [h.len0]; exact hq) = U[q]'(by rw [h.len]; exact hq) := by
  have h1 := h.same
  have e : (U.drop q)[0]? = (U0.drop q)[0]? := by rw [h1]
  rw [List.getElem?_drop, List.getElem?_drop, Nat.add_zero, List.getElem?_eq_getElem (by rw [h.len]; exact hq), List.getElem?_eq_getElem (by rw [h.len0]; exact hq)] at e
  exact (Option.some.inj e).symm

theorem take_snoc {α : Type} {l : List α} {q : Nat} (h : q < l.length) : l.take (q + 1) = l.take q ++ [l[q]] := by
  rw [List.take_add_one, List.getElem?_eq_getElem h]; rfl

theorem drop_same {α : Type} {l l' : List α} {q : Nat} (h : l.drop q = l'.drop q) : l.drop (q + 1) = l'.drop (q + 1) := by
  have := congrArg (List.drop 1) h
  rwa [List.drop_drop, List.drop_drop] at this

theorem RU.skip {n k q : Nat} {A : List LRow} {U0 U : List Bool} {K0 : Kn} {s : PSt} (h : RU n k A U0 K0 U q s) (hq : q < A.length) (hu : U[q]'(by rw [h.len]; exact hq) = true) : RU n k A U0 K0 U (q + 1) s := by
  have e := h.at hq
  have l1 := h.len
  have l0 := h.len0
  refine ⟨?_, ?_, drop_same h.same, l1, l0⟩
  · rw [take_snoc hq, take_snoc (by omega : q < U0.length), leftU_snoc (by simp; omega), e, hu, if_pos rfl, List.append_nil]
    exact h.fold
  · rw [take_snoc hq, take_snoc (by omega : q < U.length), leftU_snoc (by simp; omega), hu, if_pos rfl, List.append_nil]
    exact h.left

theorem RU.fold_next {n k q : Nat} {A : List LRow} {U0 U : List Bool} {K0 : Kn} {s : PSt} (h : RU n k A U0 K0 U q s) (hq : q < A.length) (hu : U[q]'(by rw [h.len]; exact hq) = false) : (leftU (A.take (q + 1)) (U0.take (q + 1))).foldl (stepR n k) ([], K0, false) = stepR n k s A[q] := by
  have e := h.at hq
  have l0 := h.len0
  rw [take_snoc hq, take_snoc (by omega : q < U0.length), leftU_snoc (by simp; omega), e, hu, if_neg (by simp), List.foldl_append, h.fold]
  rfl

theorem RU.keep {n k q : Nat} {A : List LRow} {U0 U : List Bool} {K0 : Kn} {s : PSt} (h : RU n k A U0 K0 U q s) (hq : q < A.length) (hu : U[q]'(by rw [h.len]; exact hq) = false) (hs : (stepR n k s A[q]).1 = s.1 ++ [A[q]]) : RU n k A U0 K0 U (q + 1) (stepR n k s A[q]) := by
  have l1 := h.len
  refine ⟨h.fold_next hq hu, ?_, drop_same h.same, l1, h.len0⟩
  rw [take_snoc hq, take_snoc (by omega : q < U.length), leftU_snoc (by simp; omega), hu, if_neg (by simp), h.left, hs]

theorem RU.use {n k q : Nat} {A : List LRow} {U0 U : List Bool} {K0 : Kn} {s : PSt} (h : RU n k A U0 K0 U q s) (hq : q < A.length) (hu : U[q]'(by rw [h.len]; exact hq) = false) (hs : (stepR n k s A[q]).1 = s.1) : RU n k A U0 K0 (U.set q true) (q + 1) (stepR n k s A[q]) := by
  have l1 := h.len
  have hqU : q < (U.set q true).length := by simp; omega
  refine ⟨h.fold_next hq hu, ?_, ?_, by simp [l1], h.len0⟩
  · rw [take_snoc hq, take_snoc hqU, leftU_snoc (by simp; omega)]
    have e1 : (U.set q true)[q] = true := by simp
    have e2 : (U.set q true).take q = U.take q := by rw [List.take_set_of_le (Nat.le_refl _)]
    rw [e1, if_pos rfl, List.append_nil, e2, h.left, hs]
  · rw [List.drop_set_of_lt (by omega)]
    exact drop_same h.same

theorem RU.last {n k : Nat} {A : List LRow} {U0 U : List Bool} {K0 : Kn} {s : PSt} (h : RU n k A U0 K0 U A.length s) : roundP n k (leftU A U0) K0 = s ∧ leftU A U = s.1 := by
  have h1 := h.fold
  have h2 := h.left
  rw [List.take_of_length_le (Nat.le_refl _), List.take_of_length_le (by rw [h.len0]; exact Nat.le_refl _)] at h1
  rw [List.take_of_length_le (Nat.le_refl _), List.take_of_length_le (by rw [h.len]; exact Nat.le_refl _)] at h2
  exact ⟨h1, h2⟩

theorem getD_maskL {nb i j : Nat} (hj : j < nb) : (maskL nb i).getD j false = mask (chosen nb i) j := by
  unfold maskL
  rw [List.getD_eq_getElem?_getD, List.getElem?_map, List.getElem?_range hj]
  rfl

/-- what isn't known among the numbers of a symbol -/
theorem miss_perm {nb i : Nat} {N : List Nat} {K : Kn} (h1 : 1 ≤ nb) (hb : nb ≤ 24) (hp : N.Perm (chosen nb i)) : (N.filter fun x => !knw K x).Perm (missL nb (maskL nb i) K) := by
  have hlt : ∀ j ∈ N, j < nb := fun j hj => chosen_lt h1 hb j (hp.mem_iff.1 hj)
  have hnd : N.Nodup := hp.nodup_iff.2 (chosen_nodup h1 hb)
  have e : missL nb (maskL nb i) K = (picksTo N nb).filter fun x => !knw K x := by
    unfold missL picksTo
    rw [List.filter_filter]
    refine List.filter_congr fun j hj => ?_
    rw [getD_maskL (List.mem_range.1 hj), mask]
    have : decide (j ∈ chosen nb i) = decide (j ∈ N) := by rw [decide_eq_decide]; exact hp.mem_iff.symm
    rw [this, Bool.and_comm]
  rw [e]
  exact ((picks_perm hlt hnd).filter _).symm

theorem use_perm {nb i : Nat} {N : List Nat} {K : Kn} (h1 : 1 ≤ nb) (hb : nb ≤ 24) (hp : N.Perm (chosen nb i)) : (N.filter fun x => knw K x).Perm (useL nb (maskL nb i) K) := by
  have hlt : ∀ j ∈ N, j < nb := fun j hj => chosen_lt h1 hb j (hp.mem_iff.1 hj)
  have hnd : N.Nodup := hp.nodup_iff.2 (chosen_nodup h1 hb)
  have e : useL nb (maskL nb i) K = (picksTo N nb).filter fun x => knw K x := by
    unfold useL picksTo
    rw [List.filter_filter]
    refine List.filter_congr fun j hj => ?_
    rw [getD_maskL (List.mem_range.1 hj), mask]
    have : decide (j ∈ chosen nb i) = decide (j ∈ N) := by rw [decide_eq_decide]; exact hp.mem_iff.symm
    rw [this, Bool.and_comm]
  rw [e]
  exact ((picks_perm hlt hnd).filter _).symm

/-- all but the one that isn't known -/
theorem but_one {x : Nat} {N : List Nat} {K : Kn} (h : (N.filter fun y => !knw K y) = [x]) : (N.filter fun y => decide (y ≠ x)) = N.filter fun y => knw K y := by
  refine List.filter_congr fun y hy => ?_
  by_cases e : knw K y = true
  · rw [e]
    have : y ≠ x := by
      intro e2
      subst e2
      have : y ∈ N.filter fun y => !knw K y := by rw [h]; simp
      simp [e] at this
    simp [this]
  · have e' : knw K y = false := by simpa using e
    have : y ∈ N.filter fun y => !knw K y := by simp [hy, e']
    rw [h] at this
    simp at this
    rw [e']
    simp [this]

end Go.Proofs.YtkiejflgphjfjacDoor
