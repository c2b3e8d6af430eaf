/-
  The document's Add as one function of lists; rows that come one by one.
-/
import Derived.Test.YtclbmfjincekfabSol4
namespace Go.Proofs.Ytclbmfjincekfab
open Go.RowKit
set_option linter.unusedVariables false
set_option linter.unusedSimpArgs false

/-- those whose first block is below f -/
def lowL (A : List LRow) (f : Int) : List LRow := A.takeWhile fun s => decide (firstI s.1 < f)
def highL (A : List LRow) (f : Int) : List LRow := A.dropWhile fun s => decide (firstI s.1 < f)

theorem low_high (A : List LRow) (f : Int) : lowL A f ++ highL A f = A := List.takeWhile_append_dropWhile

/-- what Add makes of right rows; none: torn -/
def addL (A : List LRow) (r : LRow) : Option (List LRow) :=
  if firstI (redL A r).1 = -1 then (if (redL A r).2.all (· == 0) = true then some A else none) else some (insL (lowL A (firstI (redL A r).1)) (highL A (firstI (redL A r).1)) (redL A r))

theorem nought_of {n k : Nat} {p : LRow} (hp : Fits n k p) (h : firstI p.1 = -1) (hz : p.2.all (· == 0) = true) : LRow.v p = V.o := by
  refine V.ext' (fun j => firstI_no.1 h j) (fun j => ?_)
  show p.2.getD j 0 = 0
  by_cases hj : j < p.2.length
  · have := List.all_eq_true.1 hz _ (List.getElem_mem hj)
    rw [List.getD_eq_getElem?_getD, List.getElem?_eq_getElem hj]
    simpa using this
  · rw [List.getD_eq_getElem?_getD, List.getElem?_eq_none (by omega)]
    rfl

theorem not_nought {p : LRow} (h : LRow.v p = V.o) : firstI p.1 = -1 ∧ p.2.all (· == 0) = true := by
  refine ⟨firstI_no.2 fun j => by rw [h]; rfl, List.all_eq_true.2 fun x hx => ?_⟩
  obtain ⟨i, hi, rfl⟩ := List.getElem_of_mem hx
  have : (LRow.v p).dat i = 0 := by rw [h]; rfl
  have e : (LRow.v p).dat i = p.2[i] := by
    show p.2.getD i 0 = _
    rw [List.getD_eq_getElem?_getD, List.getElem?_eq_getElem hi]
    rfl
  rw [e] at this
  simpa using this

/-- the rows ahead of and behind a new first block -/
theorem Right.split {n k f : Nat} {A : List LRow} (h : Right n k A) (hf : ∀ s ∈ A, firstI s.1 ≠ f) : (∀ s ∈ lowL A f, firstI s.1 < f) ∧ ∀ s ∈ highL A f, (f : Int) < firstI s.1 := by
  refine ⟨fun s hs => by simpa using List.all_eq_true.1 (List.all_takeWhile (p := fun s : LRow => decide (firstI s.1 < f)) (l := A)) s hs, ?_⟩
  intro s hs
  have hmem : ∀ x ∈ highL A f, x ∈ A := fun x hx => by rw [← low_high A f]; exact List.mem_append_right _ hx
  cases hY : highL A f with
  | nil => rw [hY] at hs; cases hs
  | cons y Y =>
    have hy : ¬ firstI y.1 < f := by
      have := List.head_dropWhile_not (fun s : LRow => decide (firstI s.1 < f)) (l := A) (by show highL A f ≠ []; rw [hY]; simp)
      have e : (List.dropWhile (fun s : LRow => decide (firstI s.1 < f)) A).head (by show highL A f ≠ []; rw [hY]; simp) = y := by
        have h2 : List.dropWhile (fun s : LRow => decide (firstI s.1 < f)) A = y :: Y := hY
        simp [h2]
      rw [e] at this
      simpa using this
    have hyA : y ∈ A := hmem y (by rw [hY]; exact List.mem_cons_self)
    have hy2 : (f : Int) < firstI y.1 := by have := hf y hyA; omega
    rw [hY] at hs
    rcases List.mem_cons.1 hs with rfl | hs
    · exact hy2
    · have hp := h.sys.pair
      rw [← low_high A f, hY, List.map_append] at hp
      have hp2 := (List.pairwise_append.1 hp).2.1
      rw [List.map_cons] at hp2
      obtain ⟨a, b, ha, hb, hab, _⟩ := (List.pairwise_cons.1 hp2).1 _ (List.mem_map_of_mem hs)
      have e1 := firstI_lead.2 ha
      have e2 := firstI_lead.2 hb
      omega

theorem Right.left {n k f : Nat} {A : List LRow} (h : Right n k A) {r : LRow} (hr : Fits n k r) (hf : firstI (Go.Proofs.Ytclbmfjincekfab.redL A r).1 = f) : ∀ s ∈ A, firstI s.1 ≠ f := by
  intro s hs e
  have h1 : Lead (LRow.v s) f := firstI_lead.1 e
  have h2 : Lead (LRow.v (Go.Proofs.Ytclbmfjincekfab.redL A r)) f := firstI_lead.1 hf
  have h3 := red_clear h.sys h.of (LRow.v r) _ (List.mem_map_of_mem hs) f h1
  rw [← h.redL hr, h2.1] at h3
  cases h3

/-- what Add makes of right rows is right, and says what they and the row say -/
theorem addL_right {n k : Nat} {A P : List LRow} {r : LRow} (h : Right n k A) (hr : Fits n k r) (ha : addL A r = some P) : Right n k P ∧ ∀ v, Span (P.map LRow.v) v ↔ Span ((A ++ [r]).map LRow.v) v := by
  unfold addL at ha
  by_cases h1 : firstI (redL A r).1 = -1
  · rw [if_pos h1] at ha
    by_cases h2 : (redL A r).2.all (· == 0) = true
    · rw [if_pos h2] at ha
      cases ha
      refine ⟨h, fun v => ?_⟩
      have h0 := nought_of (redL_fits h.fits hr) h1 h2
      rw [h.redL hr] at h0
      have hs := red_span n (A.map LRow.v) (LRow.v r)
      rw [h0, V.o_add] at hs
      rw [List.map_append]
      constructor
      · intro hv; exact hv.mono fun x hx => List.mem_append_left _ hx
      · intro hv
        refine hv.sub fun x hx => ?_
        rcases List.mem_append.1 hx with hx | hx
        · exact .mem hx
        · simp at hx
          rw [hx]
          exact hs
    · rw [if_neg h2] at ha
      cases ha
  · rw [if_neg h1] at ha
    cases ha
    obtain ⟨f, hf⟩ : ∃ f : Nat, firstI (redL A r).1 = f := by
      rcases firstI_range (redL A r).1 with e | ⟨f, e, _⟩
      · exact absurd e h1
      · exact ⟨f, e⟩
    obtain ⟨hX, hY⟩ := h.split (h.left hr hf)
    have hA : Right n k (lowL A f ++ highL A f) := by rw [low_high]; exact h
    have := hA.insL hr (p := redL A r) (by rw [low_high]) hf hX hY
    rw [low_high] at this
    rw [hf]
    exact this

/-- a row that is true of blocks of which all rows are true is never torn, and what comes is true of them -/
theorem addL_true {n k : Nat} {A : List LRow} {B : Nat → Nat → UInt8} {r : LRow} (h : Right n k A) (hT : ∀ s ∈ A, Tr n B (LRow.v s)) (hr : Fits n k r) (ht : Tr n B (LRow.v r)) : ∃ P, addL A r = some P ∧ ∀ s ∈ P, Tr n B (LRow.v s) := by
  have hsome : ∃ P, addL A r = some P := by
    unfold addL
    by_cases h1 : firstI (redL A r).1 = -1
    · have h2 := (red_true h hT hr ht).none (firstI_no.1 h1)
      rw [if_pos h1, if_pos (not_nought h2).2]
      exact ⟨_, rfl⟩
    · rw [if_neg h1]
      exact ⟨_, rfl⟩
  obtain ⟨P, hP⟩ := hsome
  refine ⟨P, hP, fun s hs => ?_⟩
  have hsp := (addL_right h hr hP).2 (LRow.v s)
  have := hsp.1 (.mem (List.mem_map_of_mem hs))
  refine this.tr fun x hx => ?_
  rw [List.map_append] at hx
  rcases List.mem_append.1 hx with hx | hx
  · obtain ⟨t, ht', rfl⟩ := List.mem_map.1 hx
    exact hT t ht'
  · simp at hx
    rw [hx]
    exact ht

end Go.Proofs.Ytclbmfjincekfab
