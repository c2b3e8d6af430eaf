/-
  Chapter 7, the reference: CheckRec, where the kind is none.
-/
import Derived.Test.YtcpnbkgkknlocaaDoorNote4
import Derived.Laws.EntriesVeiled
namespace Go.Proofs.YtcpnbkgkknlocaaDoor
open Go.RowKit Go.Maps
set_option linter.unusedVariables false
set_option linter.unusedSimpArgs false

theorem blkB {w w' : World} {b : Nat} {o : Obj} (h : w.heap[b]? = some o) (hb : Below w.heap.size w w') : w'.heap[b]? = some o := by
  refine (hb.block b ?_).trans h
  rcases Nat.lt_or_ge b w.heap.size with h1 | h1
  · exact h1
  · rw [Array.getElem?_eq_none h1] at h; cases h

theorem cellB {w : World} {b : Nat} {c : Array Value} {t : TypeId} {f : Nat × Nat} (h : w.heap[b]? = some (.cells c t f)) (j : Nat) (v : Value) (hv : c[j]? = some v) : w.cell? ⟨b, j, none⟩ = some v := by
  simp only [World.cell?, h]
  simpa using hv

set_option maxRecDepth 8000 in
theorem checkRec_none (k p n y : Int) (h : Hd) (id : Int) (da : Option Addr) (dn dc : Nat) (ca : Option Addr) (cn cc : Nat) (w : World) (hk : (Lit.int .i64 k).wf = true) (hu : usesL k = none) :
    Calls Tryd.prog 20 #[.agg #[.int .i64 k, .int .i64 p, .int .i64 n, .int .i64 y, .int .i64 h.F, .int .i64 h.Q, .int .i64 h.T, .int .i64 h.L, .int .i64 h.B, .int .i64 h.K, .int .i64 id, .slice da dn dc, .slice ca cn cc]] w fun e w' => e = .returned (.int .i64 4) ∧ Below w.heap.size w w' := by
  obtain ⟨F, Q, T, L, B, K⟩ := h
  simp only
  obtain ⟨W, hW⟩ : ∃ W, w.alloc (.cells #[.int .i64 k, .int .i64 p, .int .i64 n, .int .i64 y, .int .i64 F, .int .i64 Q, .int .i64 T, .int .i64 L, .int .i64 B, .int .i64 K, .int .i64 id, .slice da dn dc, .slice ca cn cc] 31) = W := ⟨_, rfl⟩
  have hBl : Below w.heap.size w W := by rw [← hW]; exact (Below.refl _ _).alloc (Nat.le_refl _) _
  have hbk : W.heap[w.heap.size]? = some (.cells #[.int .i64 k, .int .i64 p, .int .i64 n, .int .i64 y, .int .i64 F, .int .i64 Q, .int .i64 T, .int .i64 L, .int .i64 B, .int .i64 K, .int .i64 id, .slice da dn dc, .slice ca cn cc] 31 (0, 0)) := by rw [← hW, heap_alloc_eq, if_pos rfl]
  have hmm := @run_makeMap Tryd.prog
  obtain ⟨w1, w2, w3, w4, w5, w6, w7, w8, r1, r2, r3, r4, r5, r6, r7, r8, hown, hb8⟩ := table_run W
  obtain ⟨s, hlk, hs⟩ := lookK hown k hk
  rw [hu] at hlk
  have c0 : w8.cell? ⟨w.heap.size, 0, none⟩ = some (.int .i64 k) := cellB (blkB hbk hb8) 0 _ rfl
  have hB8 := hBl.trans (hb8.mono hBl.size)
  simp only [Option.isSome_none] at hlk
  clear hown hs hbk hBl hb8
  go_enter Tryd.func20, Tryd.ntmps20
  have hF : Below w.heap.size w ((w8.alloc (.cells #[.string s] 9)).alloc (.cells #[.func (.func 45) #[] #[.pointer (some ⟨w8.heap.size, 0, none⟩)]] 84)) := (hB8.alloc hB8.size _).alloc (by have := hB8.size; simp; omega) _
  go_wp2
  go_ret
  exact ⟨rfl, hF⟩

end Go.Proofs.YtcpnbkgkknlocaaDoor
