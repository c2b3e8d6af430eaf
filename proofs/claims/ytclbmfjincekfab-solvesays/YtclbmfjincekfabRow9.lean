/-
  The reference's AddRow, of a row that is not of the system's size.
-/
import Derived.Test.YtclbmfjincekfabRow8
namespace Go.Proofs.Ytclbmfjincekfab
open Go.RowKit
set_option linter.unusedVariables false
set_option linter.unusedSimpArgs false

set_option maxRecDepth 8000 in
theorem addRow_form (n k : Nat) (ra : Option Addr) (m rc : Nat) (r : MRow) (w : World) (hr : RowIn w r) (n2 : n ≤ 24) (k2 : k ≤ 16) (hf : ¬ Fits n k r.says) :
    Calls Try.prog 13 #[.agg #[.int .i64 n, .int .i64 k, .slice ra m rc], .agg #[r.hv, r.dv]] w fun e w' => e = .returned (.tuple #[.agg #[.int .i64 0, .int .i64 0, .slice none 0 0], .bool false, .int .i64 4]) ∧ Below w.heap.size w w' := by
  obtain ⟨_, _, h3, h4⟩ := hr
  obtain ⟨ha, hc, rh, da, dc, rd⟩ := r
  simp only [MRow.hv, MRow.dv] at *
  unfold maxLen at h3 h4
  obtain ⟨W, hW⟩ : ∃ W, ((w.alloc (.cells #[.int .i64 n, .int .i64 k, .slice ra m rc] 24)).alloc (.cells #[.slice ha rh.length hc, .slice da rd.length dc] 29)).alloc (.cells #[.int .i64 0, .int .i64 0, .slice none 0 0] 24) = W := ⟨_, rfl⟩
  have hB : Below w.heap.size w W := by
    rw [← hW]
    exact (((Below.refl _ _).alloc (Nat.le_refl _) _).alloc (by simp) _).alloc (by simp; omega) _
  obtain ⟨blk0, blk1, blk2⟩ := alloc3 w (.cells #[.int .i64 n, .int .i64 k, .slice ra m rc] 24) (.cells #[.slice ha rh.length hc, .slice da rd.length dc] 29) (.cells #[.int .i64 0, .int .i64 0, .slice none 0 0] 24)
  rw [hW] at blk0 blk1 blk2
  have z0 : W.cell? ⟨w.heap.size + 1 + 1, 0, none⟩ = some (.int .i64 0) := by simp [World.cell?, blk2]
  have z1 : W.cell? ⟨w.heap.size + 1 + 1, 1, none⟩ = some (.int .i64 0) := by simp [World.cell?, blk2]
  have z2 : W.cell? ⟨w.heap.size + 1 + 1, 2, none⟩ = some (.slice none 0 0) := by simp [World.cell?, blk2]
  rw [← hW] at z0 z1 z2 hB
  clear blk0 blk1 blk2 hW
  by_cases h1 : rh.length = n
  · have e1 : ((rh.length : Int) != (n : Int)) = false := by simp [h1]
    have e2 : ((rd.length : Int) != (k : Int)) = true := by
      have : ¬ rd.length = k := fun h2 => hf ⟨h1, h2⟩
      simp; omega
    clear h1 hf
    go_enter Try.func13, Try.ntmps13
    go_wp2
    refine bodyPost_ret (v := .tuple #[.agg #[.int .i64 0, .int .i64 0, .slice none 0 0], .bool false, .int .i64 4]) (by simp [results, Try.results13, go_sem, z0, z1, z2]) rfl ?_
    exact ⟨rfl, hB⟩
  · have e1 : ((rh.length : Int) != (n : Int)) = true := by simp; omega
    clear h1 hf
    go_enter Try.func13, Try.ntmps13
    go_wp2
    refine bodyPost_ret (v := .tuple #[.agg #[.int .i64 0, .int .i64 0, .slice none 0 0], .bool false, .int .i64 4]) (by simp [results, Try.results13, go_sem, z0, z1, z2]) rfl ?_
    exact ⟨rfl, hB⟩

end Go.Proofs.Ytclbmfjincekfab
