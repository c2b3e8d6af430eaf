/-
  What AddRow leaves, told by what is left of the row: nothing new, torn, or one row more.
-/
import Derived.Test.YtclbmfjincekfabAddPure
namespace Go.Proofs.Ytclbmfjincekfab
open Go.RowKit
set_option linter.unusedVariables false
set_option linter.unusedSimpArgs false

theorem AddPost.anew {A : List LRow} {r : LRow} {n N a : Nat} {R : List MRow} {L : Nat → Nat} (hN : N = A.length + 1) (h7 : El (Vof R) N a n L) (h8 : ∀ v, Span (rowsOf (Vof R) N) v ↔ Span ((A ++ [r]).map LRow.v) v) : Anew n (A.map LRow.v) (LRow.v r) (Vof R) a L := by
  subst hN
  refine ⟨by simpa using h7, ?_⟩
  simpa using h8

/-- rows by their places, told by lists -/
theorem says_of_rows {R : List MRow} {P : List LRow} {n k a : Nat} (ha : a ≤ R.length) (hR : ∀ x ∈ R, Fits n k x.says) (hP : ∀ x ∈ P, Fits n k x) (h : rowsOf (Vof R) a = P.map LRow.v) : (R.take a).map MRow.says = P := by
  refine rows_inj (n := n) (k := k) ?_ hP ?_
  · intro x hx
    obtain ⟨y, hy, rfl⟩ := List.mem_map.1 hx
    exact hR y (List.mem_of_mem_take hy)
  · rw [← h]
    unfold rowsOf
    apply List.ext_getElem
    · simp [ha]
    · intro i p1 p2
      simp at p1 p2
      rw [List.getElem_map, List.getElem_map, List.getElem_map, List.getElem_range, List.getElem_take, Vof_at (by omega)]

section
variable {w w' : World} {n k : Nat} {A : List LRow} {r : LRow} {e : Ending}

/-- the row says nothing new -/
theorem AddPost.same (hR : Right n k A) (hr : Fits n k r) (h : AddPost w w' n k (A.length + 1) ((A ++ [r]).map LRow.v) e) (hp : red n (A.map LRow.v) (LRow.v r) = V.o) :
    Below w.heap.size w w' ∧ ∃ (g cap : Nat) (rows : List MRow), e = .returned (.tuple #[.agg #[.int .i64 n, .int .i64 k, .slice (some ⟨g, 0, none⟩) A.length cap], .bool false, .int .i64 0]) ∧ Lies w' (some ⟨g, 0, none⟩) (rowCells rows) ∧ (∀ x ∈ rows, RowIn w' x) ∧ rows.map MRow.says = A := by
  obtain ⟨hb, R, a, L, i4, i6, i7, i8, hc⟩ := h
  have hA := AddPost.anew rfl i7 i8
  obtain ⟨e1, e2, e3⟩ := hA.same hR.of (LRow.v_of hr) hR.sys hp
  simp only [List.length_map] at e1 e3
  refine ⟨hb, ?_⟩
  rcases hc with ⟨h1, _⟩ | ⟨h1, ⟨j, hj⟩, _⟩ | ⟨h1, _, g, cap, h2, h3⟩
  · omega
  · exfalso
    rw [e1, e3] at hj
    exact hj rfl
  · refine ⟨g, cap, R.take a, by rw [h2, e1], h3, fun x hx => (i6 x (List.mem_of_mem_take hx)).1, ?_⟩
    exact says_of_rows (by omega) (fun x hx => (i6 x hx).2) hR.fits e2

/-- the row belongs not to them -/
theorem AddPost.torn (hR : Right n k A) (hr : Fits n k r) (h : AddPost w w' n k (A.length + 1) ((A ++ [r]).map LRow.v) e) (hp : None' (red n (A.map LRow.v) (LRow.v r))) (hne : red n (A.map LRow.v) (LRow.v r) ≠ V.o) :
    Below w.heap.size w w' ∧ e = .returned (.tuple #[.agg #[.int .i64 0, .int .i64 0, .slice none 0 0], .bool false, .int .i64 9]) := by
  obtain ⟨hb, R, a, L, i4, i6, i7, i8, hc⟩ := h
  have hA := AddPost.anew rfl i7 i8
  obtain ⟨e1, e2, e3⟩ := hA.torn hR.of (LRow.v_of hr) hR.sys hp hne
  simp only [List.length_map] at e1 e2 e3
  refine ⟨hb, ?_⟩
  rcases hc with ⟨h1, _⟩ | ⟨h1, _, h2⟩ | ⟨h1, h0, _⟩
  · omega
  · exact h2
  · exfalso
    rw [e1] at h0
    exact e3 (V.ext' (fun j => e2 j) (fun j => h0 j))

/-- one row more: the one order of all -/
theorem AddPost.more {P : List LRow} (hR : Right n k A) (hr : Fits n k r) (h : AddPost w w' n k (A.length + 1) ((A ++ [r]).map LRow.v) e) (hP : Right n k P) (hl : P.length = A.length + 1) (hsp : ∀ v, Span (P.map LRow.v) v ↔ Span ((A ++ [r]).map LRow.v) v) :
    Below w.heap.size w w' ∧ ∃ (g cap : Nat) (rows : List MRow), e = .returned (.tuple #[.agg #[.int .i64 n, .int .i64 k, .slice (some ⟨g, 0, none⟩) (A.length + 1) cap], .bool true, .int .i64 0]) ∧ Lies w' (some ⟨g, 0, none⟩) (rowCells rows) ∧ (∀ x ∈ rows, RowIn w' x) ∧ rows.map MRow.says = P := by
  obtain ⟨hb, R, a, L, i4, i6, i7, i8, hc⟩ := h
  have hA := AddPost.anew rfl i7 i8
  have e2 := hA.more hR.of (LRow.v_of hr) hP.sys (by simpa using hsp)
  have ea : a = A.length + 1 := by
    have := congrArg List.length e2
    rw [rowsOf_length, List.length_map, hl] at this
    exact this
  refine ⟨hb, ?_⟩
  rcases hc with ⟨h1, g, cap, h2, h3⟩ | ⟨h1, _⟩ | ⟨h1, _⟩
  · refine ⟨g, cap, R, h2, h3, fun x hx => (i6 x hx).1, ?_⟩
    have := says_of_rows (by omega) (fun x hx => (i6 x hx).2) hP.fits e2
    rwa [List.take_of_length_le (by omega)] at this
  · omega
  · omega

end

end Go.Proofs.Ytclbmfjincekfab
