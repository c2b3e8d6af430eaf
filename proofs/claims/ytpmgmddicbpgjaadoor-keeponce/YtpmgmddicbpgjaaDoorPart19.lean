import Derived.Test.YtpmgmddicbpgjaaDoorPart18
/-
  Chapter 9: package keep's checkSymbols.
-/
namespace Go.Proofs.YtpmgmddicbpgjaaDoor
open Go.RowKit
set_option linter.unusedVariables false
set_option linter.unusedSimpArgs false

/-- one more -/
theorem syms_step {B K : Int} {l : List LSym} {q : Nat} (hq : q < l.length) : symsFrom B K (l.take q) (l.drop q) = if chkS B K l[q].1 l[q].2.length ≠ 0 then chkS B K l[q].1 l[q].2.length else if (l.take q).any (fun s => s.1 == l[q].1) = true then 6 else symsFrom B K (l.take (q + 1)) (l.drop (q + 1)) := by
  rw [List.drop_eq_getElem_cons hq, symsFrom, List.take_append_getElem hq]

set_option maxHeartbeats 2000000 in
set_option maxRecDepth 4000 in
theorem checkSyms0 (F Q T L B K : Int) (own : Bool) (ca : Option Addr) (cn cc : Nat) (ya : Option Addr) (ys : List MSym) (yc : Nat) (sh gv tw tr : Int) (ta : Option Addr) (tn tc : Nat) (dl pg : Bool) (w : World) (hBK : I64 B ∧ I64 K) (hl : Lies w ya (symCells ys)) (hall : ∀ y ∈ ys, SymIn w y) (hm : ys.length ≤ maxLen) (hc : ys.length ≤ yc) :
    Calls Tryd.prog 37 #[.agg #[.int .i64 F, .int .i64 Q, .int .i64 T, .int .i64 L, .int .i64 B, .int .i64 K, .bool own, .slice ca cn cc, .slice ya ys.length yc, .int .i64 sh, .int .i64 gv, .int .i64 tw, .int .i64 tr, .slice ta tn tc, .bool dl, .bool pg]] w fun e w' => e = .returned (.int .i64 (symsFrom B K [] (ys.map MSym.says))) ∧ Below w.heap.size w w' := by
  obtain ⟨W, hW⟩ : ∃ W, w.alloc (.cells #[.int .i64 F, .int .i64 Q, .int .i64 T, .int .i64 L, .int .i64 B, .int .i64 K, .bool own, .slice ca cn cc, .slice ya ys.length yc, .int .i64 sh, .int .i64 gv, .int .i64 tw, .int .i64 tr, .slice ta tn tc, .bool dl, .bool pg] 46) = W := ⟨_, rfl⟩
  have hB : Below w.heap.size w W := by rw [← hW]; exact (Below.refl _ _).alloc (Nat.le_refl _) _
  have hk : W.heap[w.heap.size]? = some (.cells #[.int .i64 F, .int .i64 Q, .int .i64 T, .int .i64 L, .int .i64 B, .int .i64 K, .bool own, .slice ca cn cc, .slice ya ys.length yc, .int .i64 sh, .int .i64 gv, .int .i64 tw, .int .i64 tr, .slice ta tn tc, .bool dl, .bool pg] 46 (0, 0)) := by rw [← hW, heap_alloc_eq, if_pos rfl]
  have s3 : W.cell? ⟨w.heap.size, 8, none⟩ = some (.slice ya ys.length yc) := cellB hk 8 _ rfl
  obtain ⟨Z, hZ⟩ : ∃ Z, symsFrom B K [] (ys.map MSym.says) = Z := ⟨_, rfl⟩
  rw [hZ]
  obtain ⟨n, hn⟩ : ∃ n, ys.length = n := ⟨_, rfl⟩
  have HX := Shut.mk (And.intro hn (And.intro hl (And.intro hall (And.intro hm hk))))
  have HZ : Shut (Z = symsFrom B K ((ys.map MSym.says).take 0) ((ys.map MSym.says).drop 0)) := ⟨by rw [← hZ]; simp⟩
  have HW := Shut.mk hW
  rw [hn] at hm hc s3
  rw [hn]
  rw [hn] at HW
  unfold maxLen at hm
  clear hl hn hZ hW hall hk
  go_enter Tryd.func37, Tryd.ntmps37
  go_upto_region 1 with fail
  rw [HW.out]
  clear HW
  go_wp2
  go_loopw [9] (fun i wr => ∃ q : Nat, q ≤ n ∧ i = .int .i64 q ∧ Shut (Below W.heap.size W wr ∧ Z = symsFrom B K ((ys.map MSym.says).take q) ((ys.map MSym.says).drop q))) (fun i _ => n - (intOf i).toNat)
  case atStart => exact ⟨0, Nat.zero_le _, rfl, ⟨Below.refl _ _, HZ.out⟩⟩
  case round =>
    clear HZ s3
    obtain ⟨q, hq, rfl, HN⟩ := hrel
    have hbr := HN.out.1
    by_cases hlt : q < n
    · have hqN : q < ys.length := by rw [HX.out.1]; exact hlt
      have hBr := hB.trans (hbr.mono hB.size)
      have hlr := HX.out.2.1.below hBr (Nat.le_refl _)
      obtain ⟨b1, o1, rfl⟩ := hlr.some (k := 2 * q) (by rw [symCells_length]; omega)
      obtain ⟨t0, t1⟩ := sy_cell hlr hqN
      have hdm := (HX.out.2.2.1 ys[q] (List.getElem_mem hqN)).2
      have HS : Shut (Z = if chkS B K ys[q].id ys[q].d.length ≠ 0 then chkS B K ys[q].id ys[q].d.length else if ((ys.map MSym.says).take q).any (fun s => s.1 == ys[q].id) = true then 6 else symsFrom B K ((ys.map MSym.says).take (q + 1)) ((ys.map MSym.says).drop (q + 1))) := ⟨by
        rw [HN.out.2, syms_step (by simpa using hqN), List.getElem_map]
        rfl⟩
      generalize ys[q] = Y at *
      have hqc : q ≤ yc := by omega
      clear HN hlr
      go_upto_region 4 with fail
      obtain ⟨W1, hW1⟩ : ∃ W1, wr.alloc (.cells #[.int .i64 Y.id, .slice Y.a Y.d.length Y.c] 38) = W1 := ⟨_, rfl⟩
      rw [hW1]
      have hb1 : Below wr.heap.size wr W1 := by rw [← hW1]; exact (Below.refl _ _).alloc (Nat.le_refl _) _
      have hk1 : W1.heap[wr.heap.size]? = some (.cells #[.int .i64 Y.id, .slice Y.a Y.d.length Y.c] 38 (0, 0)) := by rw [← hW1, heap_alloc_eq, if_pos rfl]
      have hB1 := hbr.trans (hb1.mono hbr.size)
      have hkk := blkB HX.out.2.2.2.2 hB1
      have c0 : W1.cell? ⟨wr.heap.size, 0, none⟩ = some (.int .i64 Y.id) := cellB hk1 0 _ rfl
      have c1 : W1.cell? ⟨wr.heap.size, 1, none⟩ = some (.slice Y.a Y.d.length Y.c) := cellB hk1 1 _ rfl
      have d4 : W1.cell? ⟨w.heap.size, 4, none⟩ = some (.int .i64 B) := cellB hkk 4 _ rfl
      have d5 : W1.cell? ⟨w.heap.size, 5, none⟩ = some (.int .i64 K) := cellB hkk 5 _ rfl
      have hC := codeCheck_any B K Y.id Y.a Y.d.length Y.c W1 hBK.1 hBK.2 hdm
      obtain ⟨z, hz⟩ : ∃ z, chkS B K Y.id Y.d.length = z := ⟨_, rfl⟩
      rw [hz] at hC HS
      clear hW1 hb1 t0 t1 hkk hz
      go_wp2_with fail
      refine hC.mono ?_
      rintro e W2 ⟨rfl, hb2⟩
      have hB2 := hB1.trans (hb2.mono hB1.size)
      have hk2 := blkB hk1 hb2
      clear hC c0 c1 d4 d5 hk1 hb2
      by_cases hz0 : z = 0
      · subst hz0
        have HS2 : Shut (Z = if ((ys.map MSym.says).take q).any (fun s => s.1 == Y.id) = true then 6 else symsFrom B K ((ys.map MSym.says).take (q + 1)) ((ys.map MSym.says).drop (q + 1))) := ⟨by rw [HS.out, if_neg (fun h => h rfl)]⟩
        have hkk := blkB HX.out.2.2.2.2 hB2
        have d8 : W2.cell? ⟨w.heap.size, 8, none⟩ = some (.slice (some ⟨b1, o1, none⟩) n yc) := by rw [← HX.out.1]; exact cellB hkk 8 _ rfl
        have c0 : W2.cell? ⟨wr.heap.size, 0, none⟩ = some (.int .i64 Y.id) := cellB hk2 0 _ rfl
        obtain ⟨DD, hDD⟩ : ∃ DD, ((ys.map MSym.says).take q).any (fun s => s.1 == Y.id) = DD := ⟨_, rfl⟩
        have cC : ∀ u : Above W2, Calls Tryd.prog 51 #[.slice (some ⟨b1, o1, none⟩) q yc, .int .i64 Y.id] u.w fun e w' => e = .returned (.bool DD) ∧ Below u.w.heap.size u.w w' := fun u => by
          have hu := hB.trans ((hB2.trans (u.below.mono hB2.size)).mono hB.size)
          have h := hasSymbol_any (some ⟨b1, o1, none⟩) yc (ys.take q) Y.id u.w (symCells_take (HX.out.2.1.below hu (Nat.le_refl _)) q) (by have := HX.out.2.2.2.1; rw [List.length_take]; omega)
          rw [show (ys.take q).length = q by rw [List.length_take, HX.out.1]; omega, List.map_take, hDD] at h
          exact h
        have y0 : ∀ u : Above W2, u.w.cell? ⟨wr.heap.size, 0, none⟩ = some (.int .i64 Y.id) := fun u => Above.cell c0 u
        have y1 : ∀ u : Above W2, u.w.cell? ⟨w.heap.size, 8, none⟩ = some (.slice (some ⟨b1, o1, none⟩) n yc) := fun u => Above.cell d8 u
        have hqc1 : (q : Int) ≤ (yc : Int) := by omega
        have hq0 : (0 : Int) ≤ (q : Int) := by omega
        have HD := Shut.mk hDD
        clear c0 d8 hk2 hDD HS hkk
        go_upto_region 7 with fail
        refine wp_region_above (by kernel_rfl) (by kernel_rfl) ?_
        iterate 7 (go_big_quiet_step (first | rfl | (go_at_call 51; exact Calls.above (cC _))))
        refine wpQuiet_nil ?_
        rintro _ ⟨u, rfl⟩
        have hB3 := hB2.trans (u.below.mono hB2.size)
        clear cC y0 y1
        generalize u.w = W3 at *
        cases DD
        · have R : Shut (Below W.heap.size W W3 ∧ Z = symsFrom B K ((ys.map MSym.says).take (q + 1)) ((ys.map MSym.says).drop (q + 1))) := ⟨hB3, by rw [HS2.out, if_neg (by rw [HD.out]; simp)]⟩
          clear HS2 HD hB3
          go_wp2
          go_roundw
          case rel => exact ⟨q + 1, by omega, by go_num, R⟩
          case measure => simp [intOf]; omega
        · have R : Shut (Z = 6 ∧ Below w.heap.size w W3) := ⟨by rw [HS2.out, if_pos HD.out], hB.trans (hB3.mono hB.size)⟩
          clear HS2 HD hB3
          go_wp2
          go_ret
          exact ⟨by rw [R.out.1]; rfl, R.out.2⟩
      · have bz : (z != 0) = true := by simpa using hz0
        have R : Shut (Z = z ∧ Below w.heap.size w W2) := ⟨by rw [HS.out, if_pos hz0], hB.trans (hB2.mono hB.size)⟩
        clear hz0 HS hk2 hB2
        go_wp2
        go_ret
        exact ⟨by rw [R.out.1]; rfl, R.out.2⟩
    · have R : Shut (Z = 0 ∧ Below w.heap.size w wr) := ⟨by rw [HN.out.2, List.drop_eq_nil_of_le (by rw [List.length_map, HX.out.1]; omega)]; rfl, hB.trans (hbr.mono hB.size)⟩
      clear HN
      go_wp2
      go_ret
      exact ⟨by rw [R.out.1]; rfl, R.out.2⟩

end Go.Proofs.YtpmgmddicbpgjaaDoor

/-
  Chapter 9: package keep's checkKept.
-/
namespace Go.Proofs.YtpmgmddicbpgjaaDoor
open Go.RowKit
set_option linter.unusedVariables false
set_option linter.unusedSimpArgs false

set_option maxHeartbeats 4000000 in
set_option maxRecDepth 4000 in
theorem checkKept0 (me tm sq : Int) (pa : Option Addr) (pn pc : Nat) (F Q T L B K : Int) (own : Bool) (ca : Option Addr) (c : List UInt8) (cc : Nat) (ya : Option Addr) (ys : List MSym) (yc : Nat) (sh gv tw tr : Int) (ta : Option Addr) (tk : List (Int × Int)) (tc : Nat) (dl pg : Bool) (w : World) (ho : (⟨F, Q, T, L, B, K⟩ : Hd).ok) (hl : Lies w ya (symCells ys)) (hall : ∀ y ∈ ys, SymIn w y) (hm : ys.length ≤ maxLen) (hc : ys.length ≤ yc) (ht : Lies w ta (tkCells tk)) (htm : tk.length ≤ maxLen) (htc : tk.length ≤ tc) :
    Calls Tryd.prog 16 #[.agg #[.int .i64 me, .slice pa pn pc, .int .i64 tm, .int .i64 sq], .agg #[.int .i64 F, .int .i64 Q, .int .i64 T, .int .i64 L, .int .i64 B, .int .i64 K, .bool own, .slice ca c.length cc, .slice ya ys.length yc, .int .i64 sh, .int .i64 gv, .int .i64 tw, .int .i64 tr, .slice ta tk.length tc, .bool dl, .bool pg]] w fun e w' => e = .returned (.int .i64 (Kp.code me tm sq (⟨⟨F, Q, T, L, B, K⟩, own, c, ys.map MSym.says, sh, gv, tw, tr, tk, dl, pg⟩ : Kp))) ∧ Below w.heap.size w w' := by
  obtain ⟨W, hW⟩ : ∃ W, (w.alloc (.cells #[.int .i64 me, .slice pa pn pc, .int .i64 tm, .int .i64 sq] 25)).alloc (.cells #[.int .i64 F, .int .i64 Q, .int .i64 T, .int .i64 L, .int .i64 B, .int .i64 K, .bool own, .slice ca c.length cc, .slice ya ys.length yc, .int .i64 sh, .int .i64 gv, .int .i64 tw, .int .i64 tr, .slice ta tk.length tc, .bool dl, .bool pg] 46) = W := ⟨_, rfl⟩
  have hB : Below w.heap.size w W := by rw [← hW]; exact ((Below.refl _ _).alloc (Nat.le_refl _) _).alloc (by simp) _
  have HP : Shut (W.heap[w.heap.size]? = some (.cells #[.int .i64 me, .slice pa pn pc, .int .i64 tm, .int .i64 sq] 25 (0, 0))) := ⟨by rw [← hW, heap_alloc_eq, if_neg (by simp), heap_alloc_eq, if_pos rfl]⟩
  have HK : Shut (W.heap[w.heap.size + 1]? = some (.cells #[.int .i64 F, .int .i64 Q, .int .i64 T, .int .i64 L, .int .i64 B, .int .i64 K, .bool own, .slice ca c.length cc, .slice ya ys.length yc, .int .i64 sh, .int .i64 gv, .int .i64 tw, .int .i64 tr, .slice ta tk.length tc, .bool dl, .bool pg] 46 (0, 0))) := ⟨by rw [← hW, heap_alloc_eq, if_pos (by simp)]⟩
  have HW := Shut.mk hW
  have BW : Below W.heap.size W W := Below.refl _ _
  obtain ⟨Z, hZ⟩ : ∃ Z, Kp.code me tm sq (⟨⟨F, Q, T, L, B, K⟩, own, c, ys.map MSym.says, sh, gv, tw, tr, tk, dl, pg⟩ : Kp) = Z := ⟨_, rfl⟩
  rw [hZ]
  unfold Kp.code at hZ
  simp only at hZ
  have HZ := Shut.mk hZ
  clear hZ hW
  have hH := head_any ⟨F, Q, T, L, B, K⟩ W ho
  simp only [Hd.val] at hH
  obtain ⟨z1, hz1⟩ : ∃ z, hdCode ⟨F, Q, T, L, B, K⟩ = z := ⟨_, rfl⟩
  rw [hz1] at hH
  have HZ1 := Shut.mk hz1
  clear hz1
  have q0 : W.cell? ⟨w.heap.size + 1, 0, none⟩ = some (.int .i64 F) := cellB (blkB HK.out BW) 0 _ rfl
  have q1 : W.cell? ⟨w.heap.size + 1, 1, none⟩ = some (.int .i64 Q) := cellB (blkB HK.out BW) 1 _ rfl
  have q2 : W.cell? ⟨w.heap.size + 1, 2, none⟩ = some (.int .i64 T) := cellB (blkB HK.out BW) 2 _ rfl
  have q3 : W.cell? ⟨w.heap.size + 1, 3, none⟩ = some (.int .i64 L) := cellB (blkB HK.out BW) 3 _ rfl
  have q4 : W.cell? ⟨w.heap.size + 1, 4, none⟩ = some (.int .i64 B) := cellB (blkB HK.out BW) 4 _ rfl
  have q5 : W.cell? ⟨w.heap.size + 1, 5, none⟩ = some (.int .i64 K) := cellB (blkB HK.out BW) 5 _ rfl
  have q6 : W.cell? ⟨w.heap.size + 1, 6, none⟩ = some (.bool own) := cellB (blkB HK.out BW) 6 _ rfl
  have q7 : W.cell? ⟨w.heap.size + 1, 7, none⟩ = some (.slice ca c.length cc) := cellB (blkB HK.out BW) 7 _ rfl
  have q8 : W.cell? ⟨w.heap.size + 1, 8, none⟩ = some (.slice ya ys.length yc) := cellB (blkB HK.out BW) 8 _ rfl
  have q9 : W.cell? ⟨w.heap.size + 1, 9, none⟩ = some (.int .i64 sh) := cellB (blkB HK.out BW) 9 _ rfl
  have q10 : W.cell? ⟨w.heap.size + 1, 10, none⟩ = some (.int .i64 gv) := cellB (blkB HK.out BW) 10 _ rfl
  have q11 : W.cell? ⟨w.heap.size + 1, 11, none⟩ = some (.int .i64 tw) := cellB (blkB HK.out BW) 11 _ rfl
  have q12 : W.cell? ⟨w.heap.size + 1, 12, none⟩ = some (.int .i64 tr) := cellB (blkB HK.out BW) 12 _ rfl
  have q13 : W.cell? ⟨w.heap.size + 1, 13, none⟩ = some (.slice ta tk.length tc) := cellB (blkB HK.out BW) 13 _ rfl
  have q14 : W.cell? ⟨w.heap.size + 1, 14, none⟩ = some (.bool dl) := cellB (blkB HK.out BW) 14 _ rfl
  have q15 : W.cell? ⟨w.heap.size + 1, 15, none⟩ = some (.bool pg) := cellB (blkB HK.out BW) 15 _ rfl
  have p0 : W.cell? ⟨w.heap.size, 0, none⟩ = some (.int .i64 me) := cellB (blkB HP.out BW) 0 _ rfl
  have p1 : W.cell? ⟨w.heap.size, 1, none⟩ = some (.slice pa pn pc) := cellB (blkB HP.out BW) 1 _ rfl
  have p2 : W.cell? ⟨w.heap.size, 2, none⟩ = some (.int .i64 tm) := cellB (blkB HP.out BW) 2 _ rfl
  have p3 : W.cell? ⟨w.heap.size, 3, none⟩ = some (.int .i64 sq) := cellB (blkB HP.out BW) 3 _ rfl
  go_enter Tryd.func16, Tryd.ntmps16
  go_upto_region 1 with fail
  rw [HW.out]
  clear HW
  go_wp2_with fail
  refine hH.mono ?_
  rintro e W1 ⟨rfl, BW1⟩
  clear hH
  clear q0 q1 q2 q3 q4 q5 q6 q7 q8 q9 q10 q11 q12 q13 q14 q15 p0 p1 p2 p3
  by_cases hz1 : z1 = 0
  case neg =>
    have R : Shut (Z = z1) := ⟨by rw [← HZ.out, HZ1.out, if_pos hz1]⟩
    have bz : (z1 != 0) = true := by simpa using hz1
    clear hz1
    go_wp2
    go_ret
    exact ⟨by rw [R.out]; rfl, hB.trans (BW1.mono hB.size)⟩
  subst hz1
  have q0 : W1.cell? ⟨w.heap.size + 1, 0, none⟩ = some (.int .i64 F) := cellB (blkB HK.out BW1) 0 _ rfl
  have q1 : W1.cell? ⟨w.heap.size + 1, 1, none⟩ = some (.int .i64 Q) := cellB (blkB HK.out BW1) 1 _ rfl
  have q2 : W1.cell? ⟨w.heap.size + 1, 2, none⟩ = some (.int .i64 T) := cellB (blkB HK.out BW1) 2 _ rfl
  have q3 : W1.cell? ⟨w.heap.size + 1, 3, none⟩ = some (.int .i64 L) := cellB (blkB HK.out BW1) 3 _ rfl
  have q4 : W1.cell? ⟨w.heap.size + 1, 4, none⟩ = some (.int .i64 B) := cellB (blkB HK.out BW1) 4 _ rfl
  have q5 : W1.cell? ⟨w.heap.size + 1, 5, none⟩ = some (.int .i64 K) := cellB (blkB HK.out BW1) 5 _ rfl
  have q6 : W1.cell? ⟨w.heap.size + 1, 6, none⟩ = some (.bool own) := cellB (blkB HK.out BW1) 6 _ rfl
  have q7 : W1.cell? ⟨w.heap.size + 1, 7, none⟩ = some (.slice ca c.length cc) := cellB (blkB HK.out BW1) 7 _ rfl
  have q8 : W1.cell? ⟨w.heap.size + 1, 8, none⟩ = some (.slice ya ys.length yc) := cellB (blkB HK.out BW1) 8 _ rfl
  have q9 : W1.cell? ⟨w.heap.size + 1, 9, none⟩ = some (.int .i64 sh) := cellB (blkB HK.out BW1) 9 _ rfl
  have q10 : W1.cell? ⟨w.heap.size + 1, 10, none⟩ = some (.int .i64 gv) := cellB (blkB HK.out BW1) 10 _ rfl
  have q11 : W1.cell? ⟨w.heap.size + 1, 11, none⟩ = some (.int .i64 tw) := cellB (blkB HK.out BW1) 11 _ rfl
  have q12 : W1.cell? ⟨w.heap.size + 1, 12, none⟩ = some (.int .i64 tr) := cellB (blkB HK.out BW1) 12 _ rfl
  have q13 : W1.cell? ⟨w.heap.size + 1, 13, none⟩ = some (.slice ta tk.length tc) := cellB (blkB HK.out BW1) 13 _ rfl
  have q14 : W1.cell? ⟨w.heap.size + 1, 14, none⟩ = some (.bool dl) := cellB (blkB HK.out BW1) 14 _ rfl
  have q15 : W1.cell? ⟨w.heap.size + 1, 15, none⟩ = some (.bool pg) := cellB (blkB HK.out BW1) 15 _ rfl
  have p0 : W1.cell? ⟨w.heap.size, 0, none⟩ = some (.int .i64 me) := cellB (blkB HP.out BW1) 0 _ rfl
  have p1 : W1.cell? ⟨w.heap.size, 1, none⟩ = some (.slice pa pn pc) := cellB (blkB HP.out BW1) 1 _ rfl
  have p2 : W1.cell? ⟨w.heap.size, 2, none⟩ = some (.int .i64 tm) := cellB (blkB HP.out BW1) 2 _ rfl
  have p3 : W1.cell? ⟨w.heap.size, 3, none⟩ = some (.int .i64 sq) := cellB (blkB HP.out BW1) 3 _ rfl
  by_cases hLt : L ≤ tm
  · have R : Shut (Z = 7) := ⟨by rw [← HZ.out, HZ1.out, if_neg (by simp), if_pos hLt]⟩
    go_wp2
    go_ret
    exact ⟨by rw [R.out]; rfl, hB.trans (BW1.mono hB.size)⟩
  have hO := owned0 me F Q T L B K own ca c.length cc ya ys.length yc sh gv tw tr ta tk.length tc dl pg W1
  obtain ⟨o, hO2⟩ : ∃ o, ((own == (F == me)) && (own && (decide ((c.length : Int) = B) && decide (ys.length = 0)) || !own && decide (c.length = 0))) = o := ⟨_, rfl⟩
  rw [hO2] at hO
  have HO : Shut (Kp.owned me (⟨⟨F, Q, T, L, B, K⟩, own, c, ys.map MSym.says, sh, gv, tw, tr, tk, dl, pg⟩ : Kp) = o) := ⟨by rw [← hO2]; simp [Kp.owned]⟩
  clear hO2
  go_wp2_with fail
  refine hO.mono ?_
  rintro e W2 ⟨rfl, b⟩
  have BW2 := BW1.trans (b.mono BW1.size)
  clear hO b BW1
  clear q0 q1 q2 q3 q4 q5 q6 q7 q8 q9 q10 q11 q12 q13 q14 q15 p0 p1 p2 p3
  cases o
  · have R : Shut (Z = 4) := ⟨by rw [← HZ.out, HZ1.out, if_neg (by simp), if_neg (show ¬ L ≤ tm by omega), if_pos (by rw [HO.out]; simp)]⟩
    go_wp2
    go_ret
    exact ⟨by rw [R.out]; rfl, hB.trans (BW2.mono hB.size)⟩
  have q0 : W2.cell? ⟨w.heap.size + 1, 0, none⟩ = some (.int .i64 F) := cellB (blkB HK.out BW2) 0 _ rfl
  have q1 : W2.cell? ⟨w.heap.size + 1, 1, none⟩ = some (.int .i64 Q) := cellB (blkB HK.out BW2) 1 _ rfl
  have q2 : W2.cell? ⟨w.heap.size + 1, 2, none⟩ = some (.int .i64 T) := cellB (blkB HK.out BW2) 2 _ rfl
  have q3 : W2.cell? ⟨w.heap.size + 1, 3, none⟩ = some (.int .i64 L) := cellB (blkB HK.out BW2) 3 _ rfl
  have q4 : W2.cell? ⟨w.heap.size + 1, 4, none⟩ = some (.int .i64 B) := cellB (blkB HK.out BW2) 4 _ rfl
  have q5 : W2.cell? ⟨w.heap.size + 1, 5, none⟩ = some (.int .i64 K) := cellB (blkB HK.out BW2) 5 _ rfl
  have q6 : W2.cell? ⟨w.heap.size + 1, 6, none⟩ = some (.bool own) := cellB (blkB HK.out BW2) 6 _ rfl
  have q7 : W2.cell? ⟨w.heap.size + 1, 7, none⟩ = some (.slice ca c.length cc) := cellB (blkB HK.out BW2) 7 _ rfl
  have q8 : W2.cell? ⟨w.heap.size + 1, 8, none⟩ = some (.slice ya ys.length yc) := cellB (blkB HK.out BW2) 8 _ rfl
  have q9 : W2.cell? ⟨w.heap.size + 1, 9, none⟩ = some (.int .i64 sh) := cellB (blkB HK.out BW2) 9 _ rfl
  have q10 : W2.cell? ⟨w.heap.size + 1, 10, none⟩ = some (.int .i64 gv) := cellB (blkB HK.out BW2) 10 _ rfl
  have q11 : W2.cell? ⟨w.heap.size + 1, 11, none⟩ = some (.int .i64 tw) := cellB (blkB HK.out BW2) 11 _ rfl
  have q12 : W2.cell? ⟨w.heap.size + 1, 12, none⟩ = some (.int .i64 tr) := cellB (blkB HK.out BW2) 12 _ rfl
  have q13 : W2.cell? ⟨w.heap.size + 1, 13, none⟩ = some (.slice ta tk.length tc) := cellB (blkB HK.out BW2) 13 _ rfl
  have q14 : W2.cell? ⟨w.heap.size + 1, 14, none⟩ = some (.bool dl) := cellB (blkB HK.out BW2) 14 _ rfl
  have q15 : W2.cell? ⟨w.heap.size + 1, 15, none⟩ = some (.bool pg) := cellB (blkB HK.out BW2) 15 _ rfl
  have p0 : W2.cell? ⟨w.heap.size, 0, none⟩ = some (.int .i64 me) := cellB (blkB HP.out BW2) 0 _ rfl
  have p1 : W2.cell? ⟨w.heap.size, 1, none⟩ = some (.slice pa pn pc) := cellB (blkB HP.out BW2) 1 _ rfl
  have p2 : W2.cell? ⟨w.heap.size, 2, none⟩ = some (.int .i64 tm) := cellB (blkB HP.out BW2) 2 _ rfl
  have p3 : W2.cell? ⟨w.heap.size, 3, none⟩ = some (.int .i64 sq) := cellB (blkB HP.out BW2) 3 _ rfl
  have hsl : (ys.map MSym.says).length = ys.length := List.length_map ..
  by_cases hs60 : 60 < ys.length
  · have R : Shut (Z = 2) := ⟨by rw [← HZ.out, HZ1.out, if_neg (by simp), if_neg (show ¬ L ≤ tm by omega), if_neg (by rw [HO.out]; simp), if_pos (by rw [hsl]; exact Or.inl hs60)]⟩
    have h' : (60 : Int) < (ys.length : Int) := by omega
    go_wp2
    go_ret
    exact ⟨by rw [R.out]; rfl, hB.trans (BW2.mono hB.size)⟩
  by_cases ht40 : 40 < tk.length
  · have R : Shut (Z = 2) := ⟨by rw [← HZ.out, HZ1.out, if_neg (by simp), if_neg (show ¬ L ≤ tm by omega), if_neg (by rw [HO.out]; simp), if_pos (Or.inr ht40)]⟩
    have h' : (40 : Int) < (tk.length : Int) := by omega
    have h'' : ¬ (60 : Int) < (ys.length : Int) := by omega
    go_wp2
    go_ret
    exact ⟨by rw [R.out]; rfl, hB.trans (BW2.mono hB.size)⟩
  have hn1 : ¬ (60 : Int) < (ys.length : Int) := by omega
  have hn2 : ¬ (40 : Int) < (tk.length : Int) := by omega
  have HF : Shut (Z = if symsFrom B K [] (ys.map MSym.says) ≠ 0 then symsFrom B K [] (ys.map MSym.says) else if sharesC me sh gv tw tr ≠ 0 then sharesC me sh gv tw tr else if tookFrom [] tk ≠ 0 then tookFrom [] tk else if ¬ Kp.doneOk me (⟨⟨F, Q, T, L, B, K⟩, own, c, ys.map MSym.says, sh, gv, tw, tr, tk, dl, pg⟩ : Kp) = true ∨ (own = true ∧ sq ≤ Q) then 4 else 0) := ⟨by rw [← HZ.out, HZ1.out, if_neg (by simp), if_neg (show ¬ L ≤ tm by omega), if_neg (by rw [HO.out]; simp), if_neg (by rw [hsl]; omega)]; rfl⟩
  clear HZ HZ1 HO hs60 ht40 hsl
  have hF2 := hB.trans (BW2.mono hB.size)
  have hS := checkSyms0 F Q T L B K own ca c.length cc ya ys yc sh gv tw tr ta tk.length tc dl pg W2 ⟨ho.2.2.2.2.1, ho.2.2.2.2.2⟩ (hl.below hF2 (Nat.le_refl _)) (fun y hy => (hall y hy).below hF2) hm hc
  obtain ⟨z2, hz2⟩ : ∃ z, symsFrom B K [] (ys.map MSym.says) = z := ⟨_, rfl⟩
  rw [hz2] at hS HF
  clear hz2
  go_wp2_with fail
  refine hS.mono ?_
  rintro e W3 ⟨rfl, b⟩
  have BW3 := BW2.trans (b.mono BW2.size)
  clear hS b BW2 hF2 hn1 hn2
  clear q0 q1 q2 q3 q4 q5 q6 q7 q8 q9 q10 q11 q12 q13 q14 q15 p0 p1 p2 p3
  by_cases hz2 : z2 = 0
  case neg =>
    have R : Shut (Z = z2) := ⟨by rw [HF.out, if_pos hz2]⟩
    have bz : (z2 != 0) = true := by simpa using hz2
    clear hz2
    go_wp2
    go_ret
    exact ⟨by rw [R.out]; rfl, hB.trans (BW3.mono hB.size)⟩
  subst hz2
  have q0 : W3.cell? ⟨w.heap.size + 1, 0, none⟩ = some (.int .i64 F) := cellB (blkB HK.out BW3) 0 _ rfl
  have q1 : W3.cell? ⟨w.heap.size + 1, 1, none⟩ = some (.int .i64 Q) := cellB (blkB HK.out BW3) 1 _ rfl
  have q2 : W3.cell? ⟨w.heap.size + 1, 2, none⟩ = some (.int .i64 T) := cellB (blkB HK.out BW3) 2 _ rfl
  have q3 : W3.cell? ⟨w.heap.size + 1, 3, none⟩ = some (.int .i64 L) := cellB (blkB HK.out BW3) 3 _ rfl
  have q4 : W3.cell? ⟨w.heap.size + 1, 4, none⟩ = some (.int .i64 B) := cellB (blkB HK.out BW3) 4 _ rfl
  have q5 : W3.cell? ⟨w.heap.size + 1, 5, none⟩ = some (.int .i64 K) := cellB (blkB HK.out BW3) 5 _ rfl
  have q6 : W3.cell? ⟨w.heap.size + 1, 6, none⟩ = some (.bool own) := cellB (blkB HK.out BW3) 6 _ rfl
  have q7 : W3.cell? ⟨w.heap.size + 1, 7, none⟩ = some (.slice ca c.length cc) := cellB (blkB HK.out BW3) 7 _ rfl
  have q8 : W3.cell? ⟨w.heap.size + 1, 8, none⟩ = some (.slice ya ys.length yc) := cellB (blkB HK.out BW3) 8 _ rfl
  have q9 : W3.cell? ⟨w.heap.size + 1, 9, none⟩ = some (.int .i64 sh) := cellB (blkB HK.out BW3) 9 _ rfl
  have q10 : W3.cell? ⟨w.heap.size + 1, 10, none⟩ = some (.int .i64 gv) := cellB (blkB HK.out BW3) 10 _ rfl
  have q11 : W3.cell? ⟨w.heap.size + 1, 11, none⟩ = some (.int .i64 tw) := cellB (blkB HK.out BW3) 11 _ rfl
  have q12 : W3.cell? ⟨w.heap.size + 1, 12, none⟩ = some (.int .i64 tr) := cellB (blkB HK.out BW3) 12 _ rfl
  have q13 : W3.cell? ⟨w.heap.size + 1, 13, none⟩ = some (.slice ta tk.length tc) := cellB (blkB HK.out BW3) 13 _ rfl
  have q14 : W3.cell? ⟨w.heap.size + 1, 14, none⟩ = some (.bool dl) := cellB (blkB HK.out BW3) 14 _ rfl
  have q15 : W3.cell? ⟨w.heap.size + 1, 15, none⟩ = some (.bool pg) := cellB (blkB HK.out BW3) 15 _ rfl
  have p0 : W3.cell? ⟨w.heap.size, 0, none⟩ = some (.int .i64 me) := cellB (blkB HP.out BW3) 0 _ rfl
  have p1 : W3.cell? ⟨w.heap.size, 1, none⟩ = some (.slice pa pn pc) := cellB (blkB HP.out BW3) 1 _ rfl
  have p2 : W3.cell? ⟨w.heap.size, 2, none⟩ = some (.int .i64 tm) := cellB (blkB HP.out BW3) 2 _ rfl
  have p3 : W3.cell? ⟨w.heap.size, 3, none⟩ = some (.int .i64 sq) := cellB (blkB HP.out BW3) 3 _ rfl
  have hS := shares0 me F Q T L B K own ca c.length cc ya ys.length yc sh gv tw tr ta tk.length tc dl pg W3
  obtain ⟨z3, hz3⟩ : ∃ z, sharesC me sh gv tw tr = z := ⟨_, rfl⟩
  rw [hz3] at hS HF
  clear hz3
  go_wp2_with fail
  refine hS.mono ?_
  rintro e W4 ⟨rfl, b⟩
  have BW4 := BW3.trans (b.mono BW3.size)
  clear hS b BW3
  clear q0 q1 q2 q3 q4 q5 q6 q7 q8 q9 q10 q11 q12 q13 q14 q15 p0 p1 p2 p3
  by_cases hz3 : z3 = 0
  case neg =>
    have R : Shut (Z = z3) := ⟨by rw [HF.out, if_neg (by simp), if_pos hz3]⟩
    have bz : (z3 != 0) = true := by simpa using hz3
    clear hz3
    go_wp2
    go_ret
    exact ⟨by rw [R.out]; rfl, hB.trans (BW4.mono hB.size)⟩
  subst hz3
  have q0 : W4.cell? ⟨w.heap.size + 1, 0, none⟩ = some (.int .i64 F) := cellB (blkB HK.out BW4) 0 _ rfl
  have q1 : W4.cell? ⟨w.heap.size + 1, 1, none⟩ = some (.int .i64 Q) := cellB (blkB HK.out BW4) 1 _ rfl
  have q2 : W4.cell? ⟨w.heap.size + 1, 2, none⟩ = some (.int .i64 T) := cellB (blkB HK.out BW4) 2 _ rfl
  have q3 : W4.cell? ⟨w.heap.size + 1, 3, none⟩ = some (.int .i64 L) := cellB (blkB HK.out BW4) 3 _ rfl
  have q4 : W4.cell? ⟨w.heap.size + 1, 4, none⟩ = some (.int .i64 B) := cellB (blkB HK.out BW4) 4 _ rfl
  have q5 : W4.cell? ⟨w.heap.size + 1, 5, none⟩ = some (.int .i64 K) := cellB (blkB HK.out BW4) 5 _ rfl
  have q6 : W4.cell? ⟨w.heap.size + 1, 6, none⟩ = some (.bool own) := cellB (blkB HK.out BW4) 6 _ rfl
  have q7 : W4.cell? ⟨w.heap.size + 1, 7, none⟩ = some (.slice ca c.length cc) := cellB (blkB HK.out BW4) 7 _ rfl
  have q8 : W4.cell? ⟨w.heap.size + 1, 8, none⟩ = some (.slice ya ys.length yc) := cellB (blkB HK.out BW4) 8 _ rfl
  have q9 : W4.cell? ⟨w.heap.size + 1, 9, none⟩ = some (.int .i64 sh) := cellB (blkB HK.out BW4) 9 _ rfl
  have q10 : W4.cell? ⟨w.heap.size + 1, 10, none⟩ = some (.int .i64 gv) := cellB (blkB HK.out BW4) 10 _ rfl
  have q11 : W4.cell? ⟨w.heap.size + 1, 11, none⟩ = some (.int .i64 tw) := cellB (blkB HK.out BW4) 11 _ rfl
  have q12 : W4.cell? ⟨w.heap.size + 1, 12, none⟩ = some (.int .i64 tr) := cellB (blkB HK.out BW4) 12 _ rfl
  have q13 : W4.cell? ⟨w.heap.size + 1, 13, none⟩ = some (.slice ta tk.length tc) := cellB (blkB HK.out BW4) 13 _ rfl
  have q14 : W4.cell? ⟨w.heap.size + 1, 14, none⟩ = some (.bool dl) := cellB (blkB HK.out BW4) 14 _ rfl
  have q15 : W4.cell? ⟨w.heap.size + 1, 15, none⟩ = some (.bool pg) := cellB (blkB HK.out BW4) 15 _ rfl
  have p0 : W4.cell? ⟨w.heap.size, 0, none⟩ = some (.int .i64 me) := cellB (blkB HP.out BW4) 0 _ rfl
  have p1 : W4.cell? ⟨w.heap.size, 1, none⟩ = some (.slice pa pn pc) := cellB (blkB HP.out BW4) 1 _ rfl
  have p2 : W4.cell? ⟨w.heap.size, 2, none⟩ = some (.int .i64 tm) := cellB (blkB HP.out BW4) 2 _ rfl
  have p3 : W4.cell? ⟨w.heap.size, 3, none⟩ = some (.int .i64 sq) := cellB (blkB HP.out BW4) 3 _ rfl
  have hF4 := hB.trans (BW4.mono hB.size)
  have hS := checkTook_any ta tc tk W4 (ht.below hF4 (Nat.le_refl _)) htm htc
  obtain ⟨z4, hz4⟩ : ∃ z, tookFrom [] tk = z := ⟨_, rfl⟩
  rw [hz4] at hS HF
  clear hz4 hF4
  go_wp2_with fail
  refine hS.mono ?_
  rintro e W5 ⟨rfl, b⟩
  have BW5 := BW4.trans (b.mono BW4.size)
  clear hS b BW4
  clear q0 q1 q2 q3 q4 q5 q6 q7 q8 q9 q10 q11 q12 q13 q14 q15 p0 p1 p2 p3
  by_cases hz4 : z4 = 0
  case neg =>
    have R : Shut (Z = z4) := ⟨by rw [HF.out, if_neg (by simp), if_neg (by simp), if_pos hz4]⟩
    have bz : (z4 != 0) = true := by simpa using hz4
    clear hz4
    go_wp2
    go_ret
    exact ⟨by rw [R.out]; rfl, hB.trans (BW5.mono hB.size)⟩
  subst hz4
  have HG : Shut (Z = if ¬ Kp.doneOk me (⟨⟨F, Q, T, L, B, K⟩, own, c, ys.map MSym.says, sh, gv, tw, tr, tk, dl, pg⟩ : Kp) = true ∨ (own = true ∧ sq ≤ Q) then 4 else 0) := ⟨by rw [HF.out, if_neg (by simp), if_neg (by simp), if_neg (by simp)]⟩
  clear HF
  have q0 : W5.cell? ⟨w.heap.size + 1, 0, none⟩ = some (.int .i64 F) := cellB (blkB HK.out BW5) 0 _ rfl
  have q1 : W5.cell? ⟨w.heap.size + 1, 1, none⟩ = some (.int .i64 Q) := cellB (blkB HK.out BW5) 1 _ rfl
  have q2 : W5.cell? ⟨w.heap.size + 1, 2, none⟩ = some (.int .i64 T) := cellB (blkB HK.out BW5) 2 _ rfl
  have q3 : W5.cell? ⟨w.heap.size + 1, 3, none⟩ = some (.int .i64 L) := cellB (blkB HK.out BW5) 3 _ rfl
  have q4 : W5.cell? ⟨w.heap.size + 1, 4, none⟩ = some (.int .i64 B) := cellB (blkB HK.out BW5) 4 _ rfl
  have q5 : W5.cell? ⟨w.heap.size + 1, 5, none⟩ = some (.int .i64 K) := cellB (blkB HK.out BW5) 5 _ rfl
  have q6 : W5.cell? ⟨w.heap.size + 1, 6, none⟩ = some (.bool own) := cellB (blkB HK.out BW5) 6 _ rfl
  have q7 : W5.cell? ⟨w.heap.size + 1, 7, none⟩ = some (.slice ca c.length cc) := cellB (blkB HK.out BW5) 7 _ rfl
  have q8 : W5.cell? ⟨w.heap.size + 1, 8, none⟩ = some (.slice ya ys.length yc) := cellB (blkB HK.out BW5) 8 _ rfl
  have q9 : W5.cell? ⟨w.heap.size + 1, 9, none⟩ = some (.int .i64 sh) := cellB (blkB HK.out BW5) 9 _ rfl
  have q10 : W5.cell? ⟨w.heap.size + 1, 10, none⟩ = some (.int .i64 gv) := cellB (blkB HK.out BW5) 10 _ rfl
  have q11 : W5.cell? ⟨w.heap.size + 1, 11, none⟩ = some (.int .i64 tw) := cellB (blkB HK.out BW5) 11 _ rfl
  have q12 : W5.cell? ⟨w.heap.size + 1, 12, none⟩ = some (.int .i64 tr) := cellB (blkB HK.out BW5) 12 _ rfl
  have q13 : W5.cell? ⟨w.heap.size + 1, 13, none⟩ = some (.slice ta tk.length tc) := cellB (blkB HK.out BW5) 13 _ rfl
  have q14 : W5.cell? ⟨w.heap.size + 1, 14, none⟩ = some (.bool dl) := cellB (blkB HK.out BW5) 14 _ rfl
  have q15 : W5.cell? ⟨w.heap.size + 1, 15, none⟩ = some (.bool pg) := cellB (blkB HK.out BW5) 15 _ rfl
  have p0 : W5.cell? ⟨w.heap.size, 0, none⟩ = some (.int .i64 me) := cellB (blkB HP.out BW5) 0 _ rfl
  have p1 : W5.cell? ⟨w.heap.size, 1, none⟩ = some (.slice pa pn pc) := cellB (blkB HP.out BW5) 1 _ rfl
  have p2 : W5.cell? ⟨w.heap.size, 2, none⟩ = some (.int .i64 tm) := cellB (blkB HP.out BW5) 2 _ rfl
  have p3 : W5.cell? ⟨w.heap.size, 3, none⟩ = some (.int .i64 sq) := cellB (blkB HP.out BW5) 3 _ rfl
  have hS := done0 me F Q T L B K own ca c.length cc ya ys.length yc sh gv tw tr ta tk.length tc dl pg W5
  obtain ⟨o, hO2⟩ : ∃ o, (!(dl && (!(T == me) || pg)) && (!(dl || pg) || (decide (ys.length = 0) && sh == 0 && gv == 0))) = o := ⟨_, rfl⟩
  rw [hO2] at hS
  have HO : Shut (Kp.doneOk me (⟨⟨F, Q, T, L, B, K⟩, own, c, ys.map MSym.says, sh, gv, tw, tr, tk, dl, pg⟩ : Kp) = o) := ⟨by rw [← hO2]; simp [Kp.doneOk, Kp.done]⟩
  clear hO2
  go_wp2_with fail
  refine hS.mono ?_
  rintro e W6 ⟨rfl, b⟩
  have BW6 := BW5.trans (b.mono BW5.size)
  clear hS b BW5
  clear q0 q1 q2 q3 q4 q5 q6 q7 q8 q9 q10 q11 q12 q13 q14 q15 p0 p1 p2 p3
  have q0 : W6.cell? ⟨w.heap.size + 1, 0, none⟩ = some (.int .i64 F) := cellB (blkB HK.out BW6) 0 _ rfl
  have q1 : W6.cell? ⟨w.heap.size + 1, 1, none⟩ = some (.int .i64 Q) := cellB (blkB HK.out BW6) 1 _ rfl
  have q2 : W6.cell? ⟨w.heap.size + 1, 2, none⟩ = some (.int .i64 T) := cellB (blkB HK.out BW6) 2 _ rfl
  have q3 : W6.cell? ⟨w.heap.size + 1, 3, none⟩ = some (.int .i64 L) := cellB (blkB HK.out BW6) 3 _ rfl
  have q4 : W6.cell? ⟨w.heap.size + 1, 4, none⟩ = some (.int .i64 B) := cellB (blkB HK.out BW6) 4 _ rfl
  have q5 : W6.cell? ⟨w.heap.size + 1, 5, none⟩ = some (.int .i64 K) := cellB (blkB HK.out BW6) 5 _ rfl
  have q6 : W6.cell? ⟨w.heap.size + 1, 6, none⟩ = some (.bool own) := cellB (blkB HK.out BW6) 6 _ rfl
  have q7 : W6.cell? ⟨w.heap.size + 1, 7, none⟩ = some (.slice ca c.length cc) := cellB (blkB HK.out BW6) 7 _ rfl
  have q8 : W6.cell? ⟨w.heap.size + 1, 8, none⟩ = some (.slice ya ys.length yc) := cellB (blkB HK.out BW6) 8 _ rfl
  have q9 : W6.cell? ⟨w.heap.size + 1, 9, none⟩ = some (.int .i64 sh) := cellB (blkB HK.out BW6) 9 _ rfl
  have q10 : W6.cell? ⟨w.heap.size + 1, 10, none⟩ = some (.int .i64 gv) := cellB (blkB HK.out BW6) 10 _ rfl
  have q11 : W6.cell? ⟨w.heap.size + 1, 11, none⟩ = some (.int .i64 tw) := cellB (blkB HK.out BW6) 11 _ rfl
  have q12 : W6.cell? ⟨w.heap.size + 1, 12, none⟩ = some (.int .i64 tr) := cellB (blkB HK.out BW6) 12 _ rfl
  have q13 : W6.cell? ⟨w.heap.size + 1, 13, none⟩ = some (.slice ta tk.length tc) := cellB (blkB HK.out BW6) 13 _ rfl
  have q14 : W6.cell? ⟨w.heap.size + 1, 14, none⟩ = some (.bool dl) := cellB (blkB HK.out BW6) 14 _ rfl
  have q15 : W6.cell? ⟨w.heap.size + 1, 15, none⟩ = some (.bool pg) := cellB (blkB HK.out BW6) 15 _ rfl
  have p0 : W6.cell? ⟨w.heap.size, 0, none⟩ = some (.int .i64 me) := cellB (blkB HP.out BW6) 0 _ rfl
  have p1 : W6.cell? ⟨w.heap.size, 1, none⟩ = some (.slice pa pn pc) := cellB (blkB HP.out BW6) 1 _ rfl
  have p2 : W6.cell? ⟨w.heap.size, 2, none⟩ = some (.int .i64 tm) := cellB (blkB HP.out BW6) 2 _ rfl
  have p3 : W6.cell? ⟨w.heap.size, 3, none⟩ = some (.int .i64 sq) := cellB (blkB HP.out BW6) 3 _ rfl
  cases o
  · have R : Shut (Z = 4) := ⟨by rw [HG.out, if_pos (Or.inl (by rw [HO.out]; simp))]⟩
    go_wp2
    go_ret
    exact ⟨by rw [R.out]; rfl, hB.trans (BW6.mono hB.size)⟩
  · cases own
    · have R : Shut (Z = 0) := ⟨by rw [HG.out, if_neg (by rw [HO.out]; simp)]⟩
      go_wp2
      go_ret
      exact ⟨by rw [R.out]; rfl, hB.trans (BW6.mono hB.size)⟩
    · by_cases hsq : sq ≤ Q
      · have R : Shut (Z = 4) := ⟨by rw [HG.out, if_pos (Or.inr ⟨rfl, hsq⟩)]⟩
        go_wp2
        go_ret
        exact ⟨by rw [R.out]; rfl, hB.trans (BW6.mono hB.size)⟩
      · have R : Shut (Z = 0) := ⟨by rw [HG.out, if_neg (by rw [HO.out]; simp; omega)]⟩
        go_wp2
        go_ret
        exact ⟨by rw [R.out]; rfl, hB.trans (BW6.mono hB.size)⟩

end Go.Proofs.YtpmgmddicbpgjaaDoor
