/-
  What is known: of right rows, and of rows that are true of blocks.
-/
import Derived.Test.YtclbmfjincekfabSol3
namespace Go.Proofs.Ytclbmfjincekfab
open Go.RowKit
set_option linter.unusedVariables false
set_option linter.unusedSimpArgs false

/-- a row of one block alone -/
theorem unit_has {r : LRow} {j : Nat} (hc : r.1.count true = 1) (hj : firstI r.1 = j) : ∀ i, (LRow.v r).has i = decide (i = j) := by
  obtain ⟨h, d⟩ := r
  simp only at hc hj
  have hl : Lead (LRow.v (h, d)) j := firstI_lead.1 hj
  intro i
  by_cases e : i = j
  · subst e; simpa using hl.1
  · rw [decide_eq_false e]
    rcases Bool.eq_false_or_eq_true ((LRow.v (h, d)).has i) with hi | hi
    · exfalso
      have hij : j < i := by
        rcases Nat.lt_or_ge i j with h1 | h1
        · have := hl.2 i h1
          rw [hi] at this
          cases this
        · omega
      have lt : ∀ m, (LRow.v (h, d)).has m = true → ∃ hm : m < h.length, h[m] = true := by
        intro m hm
        have hm' : h.getD m false = true := hm
        by_cases hlt : m < h.length
        · refine ⟨hlt, ?_⟩
          rw [List.getD_eq_getElem?_getD, List.getElem?_eq_getElem hlt] at hm'
          exact hm'
        · rw [List.getD_eq_getElem?_getD, List.getElem?_eq_none (by omega)] at hm'
          cases hm'
      obtain ⟨l1, e1⟩ := lt j hl.1
      obtain ⟨l2, e2⟩ := lt i hi
      have hs : h = h.take i ++ h[i] :: h.drop (i + 1) := by rw [List.getElem_cons_drop, List.take_append_drop]
      have m1 : true ∈ h.take i := by
        have : (h.take i)[j]'(by simp; omega) = true := by rw [List.getElem_take]; exact e1
        rw [← this]
        exact List.getElem_mem _
      have c1 : 1 ≤ (h.take i).count true := List.one_le_count_iff.2 m1
      rw [hs, List.count_append, e2, List.count_cons_self] at hc
      omega
    · exact hi

/-- what is known of a block is the data of a row that has it alone, or nothing -/
theorem foldl_known (A : List LRow) : ∀ (l : List (List UInt8)) (j : Nat) (hj : j < l.length), ((A.foldl kSet l)[j]? = some l[j]) ∨ ∃ r ∈ A, r.1.count true = 1 ∧ firstI r.1 = j ∧ (A.foldl kSet l)[j]? = some r.2 := by
  induction A with
  | nil => intro l j hj; exact .inl (by simp [hj])
  | cons r A ih =>
    intro l j hj
    have hj' : j < (kSet l r).length := by rw [kSet_length]; exact hj
    rw [List.foldl_cons]
    rcases ih (kSet l r) j hj' with h | ⟨s, hs, h1, h2, h3⟩
    · by_cases hc : r.1.count true = 1
      · obtain ⟨F, hF, _⟩ := count_first hc
        by_cases e : F = j
        · subst e
          refine .inr ⟨r, List.mem_cons_self, hc, hF, ?_⟩
          rw [h]
          simp [kSet, hc, hF]
        · refine .inl ?_
          rw [h]
          have : (kSet l r)[j]'hj' = l[j] := by
            simp only [kSet, hc, if_true, hF, Int.toNat_natCast]
            rw [List.getElem_set_ne e]
          rw [this]
      · refine .inl ?_
        rw [h]
        have : (kSet l r)[j]'hj' = l[j] := by simp only [kSet, hc, if_false]
        rw [this]
    · exact .inr ⟨s, List.mem_cons_of_mem _ hs, h1, h2, h3⟩

theorem known_cases (n : Nat) (A : List LRow) {j : Nat} (hj : j < n) : (knownL n A)[j]? = some [] ∨ ∃ r ∈ A, r.1.count true = 1 ∧ firstI r.1 = j ∧ (knownL n A)[j]? = some r.2 := by
  have := foldl_known A (List.replicate n []) j (by simpa using hj)
  simpa [knownL] using this

/-- of true rows what is known is a block -/
theorem known_true {n k : Nat} {A : List LRow} {B : Nat → Nat → UInt8} (hA : Right n k A) (hT : ∀ r ∈ A, Tr n B (LRow.v r)) {j : Nat} (hj : j < n) : (knownL n A)[j]? = some [] ∨ ∃ d : List UInt8, (knownL n A)[j]? = some d ∧ d.length = k ∧ ∀ i, d.getD i 0 = B j i := by
  rcases known_cases n A hj with h | ⟨r, hr, hc, hf, h⟩
  · exact .inl h
  · refine .inr ⟨r.2, h, (hA.fits r hr).2, fun i => ?_⟩
    exact (hT r hr).one hj (unit_has hc hf) i

/-- what is left of a true row is true, and never torn -/
theorem red_true {n k : Nat} {A : List LRow} {B : Nat → Nat → UInt8} {r : LRow} (hA : Right n k A) (hT : ∀ r ∈ A, Tr n B (LRow.v r)) (hr : Fits n k r) (ht : Tr n B (LRow.v r)) : Tr n B (LRow.v (redL A r)) := by
  rw [hA.redL hr]
  have h := red_span n (A.map LRow.v) (LRow.v r)
  have h2 : Tr n B ((red n (A.map LRow.v) (LRow.v r)).add (LRow.v r)) := h.tr fun s hs => by
    obtain ⟨t, ht', rfl⟩ := List.mem_map.1 hs
    exact hT t ht'
  have := h2.add ht
  rwa [V.add_add] at this

end Go.Proofs.Ytclbmfjincekfab
