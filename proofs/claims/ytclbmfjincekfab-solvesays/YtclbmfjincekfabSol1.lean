/-
  Chapter 5, pure: rows told by lists; what Check answers; right rows are rows in order.
-/
import Derived.Test.YtclbmfjincekfabRow1
import Derived.Test.YtclbmfjincekfabSolvePure4
namespace Go.Proofs.Ytclbmfjincekfab
open Go.RowKit
set_option linter.unusedVariables false
set_option linter.unusedSimpArgs false

/-- a row, told by its lists -/
abbrev LRow := List Bool × List UInt8

def LRow.v (r : LRow) : V := ⟨fun k => r.1.getD k false, fun t => r.2.getD t 0⟩

/-- of n blocks, k bytes a block -/
def Fits (n k : Nat) (r : LRow) : Prop := r.1.length = n ∧ r.2.length = k

theorem LRow.v_has {r : LRow} {k : Nat} (hk : k < r.1.length) : (LRow.v r).has k = r.1[k] := by
  show r.1.getD k false = _
  rw [List.getD_eq_getElem?_getD, List.getElem?_eq_getElem hk]
  rfl

theorem LRow.v_of {n k : Nat} {r : LRow} (h : Fits n k r) : Of n (LRow.v r) := fun j hj => by
  show r.1.getD j false = false
  rw [List.getD_eq_getElem?_getD, List.getElem?_eq_none (by rw [h.1]; exact hj)]
  rfl

/-- rows of one size that say the same are the same -/
theorem LRow.v_inj {n k : Nat} {r s : LRow} (hr : Fits n k r) (hs : Fits n k s) (h : LRow.v r = LRow.v s) : r = s := by
  obtain ⟨a, b⟩ := r
  obtain ⟨c, d⟩ := s
  obtain ⟨h1, h2⟩ := hr
  obtain ⟨h3, h4⟩ := hs
  simp only at h1 h2 h3 h4
  have e1 : a = c := by
    apply List.ext_getElem (by omega)
    intro i p q
    have := congrArg (fun v => v.has i) h
    simp only [LRow.v, List.getD_eq_getElem?_getD, List.getElem?_eq_getElem p, List.getElem?_eq_getElem q, Option.getD_some] at this
    exact this
  have e2 : b = d := by
    apply List.ext_getElem (by omega)
    intro i p q
    have := congrArg (fun v => v.dat i) h
    simp only [LRow.v, List.getD_eq_getElem?_getD, List.getElem?_eq_getElem p, List.getElem?_eq_getElem q, Option.getD_some] at this
    exact this
  rw [e1, e2]

theorem rows_inj {n k : Nat} : ∀ {A B : List LRow}, (∀ r ∈ A, Fits n k r) → (∀ r ∈ B, Fits n k r) → A.map LRow.v = B.map LRow.v → A = B := by
  intro A
  induction A with
  | nil => intro B _ _ h; cases B with
    | nil => rfl
    | cons b B => simp at h
  | cons a A ih =>
    intro B hA hB h
    cases B with
    | nil => simp at h
    | cons b B =>
      simp only [List.map_cons, List.cons.injEq] at h
      rw [LRow.v_inj (hA a List.mem_cons_self) (hB b List.mem_cons_self) h.1, ih (fun r hr => hA r (List.mem_cons_of_mem _ hr)) (fun r hr => hB r (List.mem_cons_of_mem _ hr)) h.2]

theorem firstI_range (h : List Bool) : firstI h = -1 ∨ ∃ k : Nat, firstI h = k ∧ k < h.length ∧ h.getD k false = true ∧ ∀ j, j < k → h.getD j false = false := by
  by_cases hl : h.findIdx id < h.length
  · refine .inr ⟨h.findIdx id, by rw [firstI, if_pos hl], hl, ?_, ?_⟩
    · have := List.findIdx_getElem (w := hl)
      rw [List.getD_eq_getElem?_getD, List.getElem?_eq_getElem hl]
      simpa using this
    · intro j hj
      have := List.not_of_lt_findIdx (p := id) (xs := h) (i := j) hj
      rw [List.getD_eq_getElem?_getD, List.getElem?_eq_getElem (by omega)]
      simpa using this
  · exact .inl (by rw [firstI, if_neg hl])

/-- the first block of a row that has one -/
theorem firstI_lead {r : LRow} {k : Nat} : firstI r.1 = k ↔ Lead (LRow.v r) k := by
  constructor
  · intro h
    rcases firstI_range r.1 with e | ⟨m, e, h1, h2, h3⟩
    · omega
    · have : m = k := by omega
      subst this
      exact ⟨h2, h3⟩
  · intro h
    rcases firstI_range r.1 with e | ⟨m, e, h1, h2, h3⟩
    · exfalso
      have hk : k < r.1.length := by
        apply Decidable.byContradiction
        intro hn
        have := h.1
        rw [show (LRow.v r).has k = r.1.getD k false from rfl, List.getD_eq_getElem?_getD, List.getElem?_eq_none (by omega)] at this
        simp at this
      have hl : r.1.findIdx id < r.1.length := List.findIdx_lt_length_of_exists ⟨r.1[k], List.getElem_mem hk, by
        have := h.1
        rw [LRow.v_has hk] at this
        simpa using this⟩
      rw [firstI, if_pos hl] at e
      omega
    · rw [e]
      have : Lead (LRow.v r) m := ⟨h2, h3⟩
      rw [this.one h]

theorem firstI_no {r : LRow} : firstI r.1 = -1 ↔ None' (LRow.v r) := by
  constructor
  · intro h j
    rcases Bool.eq_false_or_eq_true ((LRow.v r).has j) with e | e
    · obtain ⟨m, _, hm⟩ := Lead.of_has e
      have := firstI_lead.2 hm
      omega
    · exact e
  · intro h
    rcases firstI_range r.1 with e | ⟨m, e, h1, h2, h3⟩
    · exact e
    · have := h m
      rw [show (LRow.v r).has m = r.1.getD m false from rfl, h2] at this
      simp at this

/-- the row at place i is as it must be -/
def RowOk (B K : Int) (A : List LRow) (i : Nat) : Prop :=
  (A[i]?.getD ([], [])).1.length = B ∧ (A[i]?.getD ([], [])).2.length = K ∧ 0 ≤ firstI (A[i]?.getD ([], [])).1 ∧ (0 < i → firstI (A[i - 1]?.getD ([], [])).1 < firstI (A[i]?.getD ([], [])).1) ∧
  ∀ j, j < A.length → j ≠ i → (A[j]?.getD ([], [])).1.getD (firstI (A[i]?.getD ([], [])).1).toNat false = false

open Classical in
/-- what Check answers -/
noncomputable def chkSys (B K : Int) (A : List LRow) : Int :=
  if ¬ (1 ≤ B ∧ B ≤ 24 ∧ 1 ≤ K ∧ K ≤ 16) then 3 else if B < A.length then 2 else if ∀ i, i < A.length → RowOk B K A i then 0 else 4

theorem chkSys_range {B K : Int} {A : List LRow} (h : ¬ (1 ≤ B ∧ B ≤ 24 ∧ 1 ≤ K ∧ K ≤ 16)) : chkSys B K A = 3 := if_pos h
theorem chkSys_many {B K : Int} {A : List LRow} (h : 1 ≤ B ∧ B ≤ 24 ∧ 1 ≤ K ∧ K ≤ 16) (h2 : B < A.length) : chkSys B K A = 2 := by rw [chkSys, if_neg (by simpa using h), if_pos h2]
theorem chkSys_form {B K : Int} {A : List LRow} (h : 1 ≤ B ∧ B ≤ 24 ∧ 1 ≤ K ∧ K ≤ 16) (h2 : ¬ B < A.length) {i : Nat} (hi : i < A.length) (h3 : ¬ RowOk B K A i) : chkSys B K A = 4 := by
  rw [chkSys, if_neg (by simpa using h), if_neg h2, if_neg fun hh => h3 (hh i hi)]
theorem chkSys_ok {B K : Int} {A : List LRow} (h : 1 ≤ B ∧ B ≤ 24 ∧ 1 ≤ K ∧ K ≤ 16) (h2 : ¬ B < A.length) (h3 : ∀ i, i < A.length → RowOk B K A i) : chkSys B K A = 0 := by
  rw [chkSys, if_neg (by simpa using h), if_neg h2, if_pos h3]

/-- a right system -/
structure Right (n k : Nat) (A : List LRow) : Prop where
  n1 : 1 ≤ n
  n2 : n ≤ 24
  k1 : 1 ≤ k
  k2 : k ≤ 16
  fits : ∀ r ∈ A, Fits n k r
  sys : Sys (A.map LRow.v)

theorem Right.of {n k : Nat} {A : List LRow} (h : Right n k A) : ∀ v ∈ A.map LRow.v, Of n v := by
  intro v hv
  obtain ⟨r, hr, rfl⟩ := List.mem_map.1 hv
  exact LRow.v_of (h.fits r hr)

theorem Right.few {n k : Nat} {A : List LRow} (h : Right n k A) : A.length ≤ n := by
  have := h.sys.few h.of
  simpa using this

theorem getD_get {A : List LRow} {i : Nat} (hi : i < A.length) : A[i]?.getD ([], []) = A[i] := by rw [List.getElem?_eq_getElem hi]; rfl

/-- what Check takes is right -/
theorem right_of_chk {B K : Int} {A : List LRow} (h : chkSys B K A = 0) : ∃ n k : Nat, B = n ∧ K = k ∧ Right n k A := by
  unfold chkSys at h
  split at h
  · omega
  · rename_i h1
    have h1 : 1 ≤ B ∧ B ≤ 24 ∧ 1 ≤ K ∧ K ≤ 16 := Decidable.not_not.1 h1
    split at h
    · omega
    · split at h
      · rename_i h2 h3
        refine ⟨B.toNat, K.toNat, by omega, by omega, by omega, by omega, by omega, by omega, ?_, ?_⟩
        · intro r hr
          obtain ⟨i, hi, rfl⟩ := List.getElem_of_mem hr
          obtain ⟨a, b, _⟩ := h3 i hi
          rw [getD_get hi] at a b
          exact ⟨by omega, by omega⟩
        · have lead : ∀ i (hi : i < A.length), Lead (LRow.v A[i]) (firstI A[i].1).toNat := by
            intro i hi
            obtain ⟨_, _, c, _⟩ := h3 i hi
            rw [getD_get hi] at c
            exact firstI_lead.1 (by omega)
          have step : ∀ d i (hi : i + d + 1 < A.length), firstI (A[i]'(by omega)).1 < firstI (A[i + d + 1]).1 := by
            intro d
            induction d with
            | zero =>
              intro i hi
              obtain ⟨_, _, _, e, _⟩ := h3 (i + 0 + 1) hi
              have := e (by omega)
              rw [getD_get hi, getD_get (show i + 0 + 1 - 1 < A.length by omega)] at this
              exact this
            | succ d ih =>
              intro i hi
              have a := ih i (by omega)
              obtain ⟨_, _, _, e, _⟩ := h3 (i + (d + 1) + 1) hi
              have := e (by omega)
              rw [getD_get hi, getD_get (show i + (d + 1) + 1 - 1 < A.length by omega)] at this
              exact Int.lt_trans a this
          refine ⟨?_, ?_⟩
          · intro r hr
            obtain ⟨s, hs, rfl⟩ := List.mem_map.1 hr
            obtain ⟨i, hi, rfl⟩ := List.getElem_of_mem hs
            exact ⟨_, lead i hi⟩
          · rw [List.pairwise_map, List.pairwise_iff_getElem]
            intro i j hi hj hij
            obtain ⟨d, rfl⟩ : ∃ d, j = i + d + 1 := ⟨j - i - 1, by omega⟩
            refine ⟨_, _, lead i hi, lead (i + d + 1) hj, ?_, ?_⟩
            · have := step d i hj
              obtain ⟨_, _, c, _⟩ := h3 i hi
              rw [getD_get hi] at c
              omega
            · obtain ⟨_, _, _, _, e⟩ := h3 (i + d + 1) hj
              have := e i hi (by omega)
              rw [getD_get hi, getD_get hj] at this
              exact this
      · omega

/-- .. and what is right is taken -/
theorem chk_of_right {n k : Nat} {A : List LRow} (h : Right n k A) : chkSys n k A = 0 := by
  have hA := h.few
  have n1 := h.n1
  have n2 := h.n2
  have k1 := h.k1
  have k2 := h.k2
  refine chkSys_ok ⟨by omega, by omega, by omega, by omega⟩ (by omega) ?_
  intro i hi
  have lead : ∀ j (hj : j < A.length), ∃ m : Nat, Lead (LRow.v A[j]) m ∧ firstI A[j].1 = m := by
    intro j hj
    obtain ⟨m, hm⟩ := h.sys.lead _ (List.mem_map_of_mem (List.getElem_mem hj))
    exact ⟨m, hm, firstI_lead.2 hm⟩
  obtain ⟨m, hm, em⟩ := lead i hi
  have hf := h.fits _ (List.getElem_mem hi)
  unfold RowOk
  rw [getD_get hi]
  refine ⟨by rw [hf.1], by rw [hf.2], by omega, ?_, ?_⟩
  · intro h0
    rw [getD_get (show i - 1 < A.length by omega)]
    have hp := List.pairwise_iff_getElem.1 h.sys.pair (i - 1) i (by simp; omega) (by simpa using hi) (by omega)
    simp only [List.getElem_map] at hp
    obtain ⟨a, b, ha, hb, hab, _⟩ := hp
    have e1 := firstI_lead.2 ha
    have e2 := firstI_lead.2 hb
    omega
  · intro j hj hne
    rw [getD_get hj, em]
    simp only [Int.toNat_natCast]
    rcases Bool.eq_false_or_eq_true ((LRow.v A[j]).has m) with e | e
    · exfalso
      have hs := h.sys.apart (List.mem_map_of_mem (List.getElem_mem hi)) (List.mem_map_of_mem (List.getElem_mem hj)) hm e
      rcases Nat.lt_or_gt_of_ne hne with hlt | hlt
      · have hp := List.pairwise_iff_getElem.1 h.sys.pair j i (by simpa using hj) (by simpa using hi) hlt
        simp only [List.getElem_map] at hp
        rw [hs] at hp
        exact hp.ne
      · have hp := List.pairwise_iff_getElem.1 h.sys.pair i j (by simpa using hi) (by simpa using hj) hlt
        simp only [List.getElem_map] at hp
        rw [hs] at hp
        exact hp.ne
    · exact e

end Go.Proofs.Ytclbmfjincekfab
