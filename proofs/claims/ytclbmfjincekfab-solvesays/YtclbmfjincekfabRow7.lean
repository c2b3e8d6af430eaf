/-
  Rows in a list of one's own; a row of it is turned.
-/
import Derived.Test.YtclbmfjincekfabRow6
import Derived.Test.YtclbmfjincekfabRow2
namespace Go.Proofs.Ytclbmfjincekfab
open Go.RowKit
set_option linter.unusedVariables false
set_option linter.unusedSimpArgs false

/-- rows that lie in a block, all of which may be written -/
def RowsAt (w : World) (g : Nat) (R : List MRow) : Prop := Lies w (some ⟨g, 0, none⟩) (rowCells R) ∧ ∀ j, w.frozen? ⟨g, j, none⟩ = false

theorem RowsAt.cells {w : World} {g j : Nat} {R : List MRow} (h : RowsAt w g R) (hj : j < R.length) : w.cell? ⟨g, j * 2, none⟩ = some R[j].hv ∧ w.cell? ⟨g, j * 2 + 1, none⟩ = some R[j].dv := by
  have := row_at h.1 hj
  simpa using this

theorem RowsAt.of {w : World} {g : Nat} {R : List MRow} (h : ∀ j (hj : j < R.length), w.cell? ⟨g, j * 2, none⟩ = some R[j].hv ∧ w.cell? ⟨g, j * 2 + 1, none⟩ = some R[j].dv) (hf : ∀ j, w.frozen? ⟨g, j, none⟩ = false) : RowsAt w g R := by
  refine ⟨?_, hf⟩
  intro k u hu
  have hk : k < 2 * R.length := by
    have := (List.getElem?_eq_some_iff.1 hu).1
    rwa [rowCells_length] at this
  obtain ⟨c0, c1⟩ := rowCells_get (l := R) (j := k / 2) (by omega)
  obtain ⟨h0, h1⟩ := h (k / 2) (by omega)
  refine ⟨g, 0, rfl, ?_⟩
  rcases Nat.mod_two_eq_zero_or_one k with e | e
  · rw [show 2 * (k / 2) = k by omega, hu] at c0
    rw [show 0 + k = k / 2 * 2 by omega, h0, c0]
  · rw [show 2 * (k / 2) + 1 = k by omega, hu] at c1
    rw [show 0 + k = k / 2 * 2 + 1 by omega, h1, c1]

theorem RowsAt.set {w : World} {g i : Nat} {R : List MRow} (h : RowsAt w g R) (hi : i < R.length) (r : MRow) : RowsAt ((w.setCell ⟨g, i * 2, none⟩ r.hv).setCell ⟨g, i * 2 + 1, none⟩ r.dv) g (R.set i r) := by
  refine RowsAt.of ?_ (fun j => by simpa using h.2 j)
  intro j hj
  simp only [List.length_set] at hj
  obtain ⟨c0, c1⟩ := h.cells hj
  obtain ⟨d0, d1⟩ := h.cells hi
  by_cases e : j = i
  · subst e
    rw [List.getElem_set_self]
    refine ⟨?_, ?_⟩
    · rw [World.cell?_setCell_other _ _ _ _ (by intro e; injection e; omega)]
      exact World.cell?_setCell_same _ _ _ d0
    · have d2 : (w.setCell ⟨g, j * 2, none⟩ r.hv).cell? ⟨g, j * 2 + 1, none⟩ = some R[j].dv := by
        rw [World.cell?_setCell_other _ _ _ _ (by intro e; injection e; omega)]
        exact d1
      exact World.cell?_setCell_same _ _ _ d2
  · rw [List.getElem_set_ne (Ne.symm e)]
    refine ⟨?_, ?_⟩
    · rw [World.cell?_setCell_other _ _ _ _ (by intro e'; injection e'; omega), World.cell?_setCell_other _ _ _ _ (by intro e'; injection e'; omega)]
      exact c0
    · rw [World.cell?_setCell_other _ _ _ _ (by intro e'; injection e'; omega), World.cell?_setCell_other _ _ _ _ (by intro e'; injection e'; omega)]
      exact c1

theorem RowsAt.below {w w' : World} {g : Nat} {R : List MRow} (h : RowsAt w g R) (hb : Below w.heap.size w w') (hg : g < w.heap.size) : RowsAt w' g R :=
  ⟨h.1.below hb (Nat.le_refl _), fun j => by rw [hb.frozen (p := ⟨g, j, none⟩) hg]; exact h.2 j⟩

theorem rows_own {w : World} {B g N cap : Nat} {e : TypeId} {R : List MRow} (h : w.ownsRow B e 2 (.slice (some ⟨g, 0, none⟩) N cap) N (rowCells R)) : RowsAt w g R ∧ B ≤ g ∧ g < w.heap.size ∧ R.length = N ∧ N ≤ cap := by
  obtain ⟨h1, h2 | ⟨g', cap', cur, hv, hb, hg, hn, hc, hs, ht⟩⟩ := h
  · cases h2.1
  · cases hv
    have hlt : g < w.heap.size := by
      rcases Nat.lt_or_ge g w.heap.size with h | h
      · exact h
      · rw [Array.getElem?_eq_none h] at hg; cases hg
    have hl : R.length = N := by rw [rowCells_length] at h1; omega
    refine ⟨RowsAt.of ?_ (fun j => by simp [World.frozen?, hg]), hb, hlt, hl, hn⟩
    intro j hj
    obtain ⟨c0, c1⟩ := rowCells_get hj
    rw [← ht] at c0 c1
    rw [List.getElem?_take, if_pos (by omega)] at c0 c1
    have e0 : cur[j * 2]? = some R[j].hv := by rw [← Array.getElem?_toList, Nat.mul_comm]; exact c0
    have e1 : cur[j * 2 + 1]? = some R[j].dv := by rw [← Array.getElem?_toList, Nat.mul_comm]; exact c1
    exact ⟨by simp [World.cell?, hg, e0], by simp [World.cell?, hg, e1]⟩

end Go.Proofs.Ytclbmfjincekfab
