/-
  Chapter 7, the reference: CheckRec, where a part is set that the kind does not use.
-/
import Derived.Test.YtcpnbkgkknlocaaDoorNote5
namespace Go.Proofs.YtcpnbkgkknlocaaDoor
open Go.RowKit Go.Maps
set_option linter.unusedVariables false
set_option linter.unusedSimpArgs false

/-- is every part that the kind (with these letters) does not use left empty? -/
def formB (u : List UInt8) (p n y : Int) (h : Hd) (id : Int) (dn cn : Nat) : Bool :=
  (hasB u 80 || p == 0) && (hasB u 78 || n == 0) && (hasB u 84 || y == 0) && (hasB u 72 || decide (h = ⟨0, 0, 0, 0, 0, 0⟩)) && (hasB u 83 || (id == 0 && (dn : Int) == 0)) && (hasB u 67 || (cn : Int) == 0)

set_option maxHeartbeats 2000000 in
set_option maxRecDepth 8000 in
theorem checkRec_form (k p n y : Int) (h : Hd) (id : Int) (da : Option Addr) (dn dc : Nat) (ca : Option Addr) (cn cc : Nat) (u : List UInt8) (w : World) (hk : (Lit.int .i64 k).wf = true) (hu : usesL k = some u) (hbad : formB u p n y h id dn cn = false) :
    Calls Tryd.prog 20 #[.agg #[.int .i64 k, .int .i64 p, .int .i64 n, .int .i64 y, .int .i64 h.F, .int .i64 h.Q, .int .i64 h.T, .int .i64 h.L, .int .i64 h.B, .int .i64 h.K, .int .i64 id, .slice da dn dc, .slice ca cn cc]] w fun e w' => e = .returned (.int .i64 4) ∧ Below w.heap.size w w' := by
  obtain ⟨F, Q, T, L, B, K⟩ := h
  simp only
  obtain ⟨W, hW⟩ : ∃ W, w.alloc (.cells #[.int .i64 k, .int .i64 p, .int .i64 n, .int .i64 y, .int .i64 F, .int .i64 Q, .int .i64 T, .int .i64 L, .int .i64 B, .int .i64 K, .int .i64 id, .slice da dn dc, .slice ca cn cc] 31) = W := ⟨_, rfl⟩
  have hBl : Below w.heap.size w W := by rw [← hW]; exact (Below.refl _ _).alloc (Nat.le_refl _) _
  have hbk : W.heap[w.heap.size]? = some (.cells #[.int .i64 k, .int .i64 p, .int .i64 n, .int .i64 y, .int .i64 F, .int .i64 Q, .int .i64 T, .int .i64 L, .int .i64 B, .int .i64 K, .int .i64 id, .slice da dn dc, .slice ca cn cc] 31 (0, 0)) := by rw [← hW, heap_alloc_eq, if_pos rfl]
  have hsz : w.heap.size < W.heap.size := by rw [← hW]; simp
  have hmm := @run_makeMap Tryd.prog
  obtain ⟨w1, w2, w3, w4, w5, w6, w7, w8, r1, r2, r3, r4, r5, r6, r7, r8, hown, hb8⟩ := table_run W
  obtain ⟨s, hlk, hs⟩ := lookK hown k hk
  rw [hu] at hlk hs
  simp only [Option.getD_some] at hs
  subst hs
  have c0 : w8.cell? ⟨w.heap.size, 0, none⟩ = some (.int .i64 k) := cellB (blkB hbk hb8) 0 _ rfl
  have hB8 := hBl.trans (hb8.mono hBl.size)
  have hbk8 := blkB hbk hb8
  simp only [Option.isSome_some] at hlk
  clear hown hbk hBl
  obtain ⟨W2, hW2⟩ : ∃ W2, (w8.alloc (.cells #[.string s] 9)).alloc (.cells #[.func (.func 45) #[] #[.pointer (some ⟨w8.heap.size, 0, none⟩)]] 84) = W2 := ⟨_, rfl⟩
  have hF : Below w.heap.size w W2 := by rw [← hW2]; exact (hB8.alloc hB8.size _).alloc (by have := hB8.size; simp; omega) _
  have h82 : Below w8.heap.size w8 W2 := by rw [← hW2]; exact ((Below.refl _ _).alloc (Nat.le_refl _) _).alloc (by simp) _
  have hbk2 := blkB hbk8 h82
  have hub : W2.cell? ⟨w8.heap.size, 0, none⟩ = some (.string s) := by
    refine cellB (c := #[.string s]) (t := 9) (f := (0, 0)) ?_ 0 _ rfl
    rw [← hW2, heap_alloc_eq, if_neg (by simp), heap_alloc_eq, if_pos rfl]
  have hfb : W2.cell? ⟨w8.heap.size + 1, 0, none⟩ = some (.func (.func 45) #[] #[.pointer (some ⟨w8.heap.size, 0, none⟩)]) := by
    refine cellB (c := #[.func (.func 45) #[] #[.pointer (some ⟨w8.heap.size, 0, none⟩)]]) (t := 84) (f := (0, 0)) ?_ 0 _ rfl
    rw [← hW2, heap_alloc_eq, if_pos (by simp)]
  have q1 : W2.cell? ⟨w.heap.size, 1, none⟩ = some (.int .i64 p) := cellB hbk2 1 _ rfl
  have q2 : W2.cell? ⟨w.heap.size, 2, none⟩ = some (.int .i64 n) := cellB hbk2 2 _ rfl
  have q3 : W2.cell? ⟨w.heap.size, 3, none⟩ = some (.int .i64 y) := cellB hbk2 3 _ rfl
  have q4 : W2.cell? ⟨w.heap.size, 4, none⟩ = some (.int .i64 F) := cellB hbk2 4 _ rfl
  have q5 : W2.cell? ⟨w.heap.size, 5, none⟩ = some (.int .i64 Q) := cellB hbk2 5 _ rfl
  have q6 : W2.cell? ⟨w.heap.size, 6, none⟩ = some (.int .i64 T) := cellB hbk2 6 _ rfl
  have q7 : W2.cell? ⟨w.heap.size, 7, none⟩ = some (.int .i64 L) := cellB hbk2 7 _ rfl
  have q8 : W2.cell? ⟨w.heap.size, 8, none⟩ = some (.int .i64 B) := cellB hbk2 8 _ rfl
  have q9 : W2.cell? ⟨w.heap.size, 9, none⟩ = some (.int .i64 K) := cellB hbk2 9 _ rfl
  have q10 : W2.cell? ⟨w.heap.size, 10, none⟩ = some (.int .i64 id) := cellB hbk2 10 _ rfl
  have q11 : W2.cell? ⟨w.heap.size, 11, none⟩ = some (.slice da dn dc) := cellB hbk2 11 _ rfl
  have q12 : W2.cell? ⟨w.heap.size, 12, none⟩ = some (.slice ca cn cc) := cellB hbk2 12 _ rfl
  have hE : ∀ W, (binOp .eql 25 (.agg #[.int .i64 F, .int .i64 Q, .int .i64 T, .int .i64 L, .int .i64 B, .int .i64 K]) (.agg #[.int .i64 0, .int .i64 0, .int .i64 0, .int .i64 0, .int .i64 0, .int .i64 0])).run Tryd.prog W = .ok (.bool (decide ((⟨F, Q, T, L, B, K⟩ : Hd) = ⟨0, 0, 0, 0, 0, 0⟩))) W := fun W => eqlHead ⟨F, Q, T, L, B, K⟩ ⟨0, 0, 0, 0, 0, 0⟩ W
  generalize hz4 : decide ((⟨F, Q, T, L, B, K⟩ : Hd) = ⟨0, 0, 0, 0, 0, 0⟩) = z4 at hE
  have eg := entersRec2
  go_enter Tryd.func20, Tryd.ntmps20
  go_wp2_with fail
  refine (checkRec2_any s 80 (p == 0) w8.heap.size (w8.heap.size + 1) W2 hub hfb).mono ?_
  rintro e _ ⟨rfl, rfl⟩
  clear r1 r2 r3 r4 r5 r6 r7 r8 hmm hlk hb8 hB8 hbk8 h82 hbk2 c0 hW hW2 hsz
  generalize hx1 : (hasB s.data.toList 80 || p == 0) = x1
  cases x1
  · go_wp2
    go_ret
    exact ⟨rfl, hF⟩
  go_wp2_with fail
  refine (checkRec2_any s 78 (n == 0) w8.heap.size (w8.heap.size + 1) W2 hub hfb).mono ?_
  rintro e _ ⟨rfl, rfl⟩
  generalize hx2 : (hasB s.data.toList 78 || n == 0) = x2
  cases x2
  · go_wp2
    go_ret
    exact ⟨rfl, hF⟩
  go_wp2_with fail
  refine (checkRec2_any s 84 (y == 0) w8.heap.size (w8.heap.size + 1) W2 hub hfb).mono ?_
  rintro e _ ⟨rfl, rfl⟩
  generalize hx3 : (hasB s.data.toList 84 || y == 0) = x3
  cases x3
  · go_wp2
    go_ret
    exact ⟨rfl, hF⟩
  go_wp2_with fail
  refine (checkRec2_any s 72 z4 w8.heap.size (w8.heap.size + 1) W2 hub hfb).mono ?_
  rintro e _ ⟨rfl, rfl⟩
  generalize hx4 : (hasB s.data.toList 72 || z4) = x4
  cases x4
  · go_wp2
    go_ret
    exact ⟨rfl, hF⟩
  go_wp2_with fail
  · refine (checkRec2_any s 83 ((dn : Int) == 0) w8.heap.size (w8.heap.size + 1) W2 hub hfb).mono ?_
    rintro e _ ⟨rfl, rfl⟩
    generalize hx5 : (hasB s.data.toList 83 || (dn : Int) == 0) = x5
    cases x5
    · go_wp2
      go_ret
      exact ⟨rfl, hF⟩
    go_wp2_with fail
    refine (checkRec2_any s 67 ((cn : Int) == 0) w8.heap.size (w8.heap.size + 1) W2 hub hfb).mono ?_
    rintro e _ ⟨rfl, rfl⟩
    generalize hx6 : (hasB s.data.toList 67 || (cn : Int) == 0) = x6
    cases x6
    · go_wp2
      go_ret
      exact ⟨rfl, hF⟩
    exfalso
    rename_i hid
    simp_all [formB]
  · refine (checkRec2_any s 83 false w8.heap.size (w8.heap.size + 1) W2 hub hfb).mono ?_
    rintro e _ ⟨rfl, rfl⟩
    generalize hx5 : (hasB s.data.toList 83 || false) = x5
    cases x5
    · go_wp2
      go_ret
      exact ⟨rfl, hF⟩
    go_wp2_with fail
    refine (checkRec2_any s 67 ((cn : Int) == 0) w8.heap.size (w8.heap.size + 1) W2 hub hfb).mono ?_
    rintro e _ ⟨rfl, rfl⟩
    generalize hx6 : (hasB s.data.toList 67 || (cn : Int) == 0) = x6
    cases x6
    · go_wp2
      go_ret
      exact ⟨rfl, hF⟩
    exfalso
    rename_i hid
    simp_all [formB]

end Go.Proofs.YtcpnbkgkknlocaaDoor
