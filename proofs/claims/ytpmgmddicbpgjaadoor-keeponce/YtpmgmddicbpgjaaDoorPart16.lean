import Derived.Test.YtpmgmddicbpgjaaDoorPart8
import Derived.Test.YtpmgmddicbpgjaaDoorPart15
import Derived.Test.YtpmgmddicbpgjaaDoorPart3
/-
  solve.with: its contract.
-/
namespace Go.Proofs.YtpmgmddicbpgjaaDoor
open Go.RowKit
set_option linter.unusedVariables false
set_option linter.unusedSimpArgs false

theorem mask_lies {w : World} {g nb i : Nat} (h : w.rowIs g 4 nb (inAt (chosen nb i))) : Lies w (some ⟨g, 0, none⟩) ((maskL nb i).map Value.bool) := by
  have := rowIs_lies h
  have e : (maskL nb i).map Value.bool = (List.range nb).map (inAt (chosen nb i)) := by
    unfold maskL
    rw [List.map_map]
    apply List.map_congr_left
    intro j _
    simp [inAt, mask]
  rw [e]
  exact this

theorem alloc4' (w : World) (o0 o1 o2 o3 : Obj) : ((((w.alloc o0).alloc o1).alloc o2).alloc o3).heap[w.heap.size]? = some o0 ∧ ((((w.alloc o0).alloc o1).alloc o2).alloc o3).heap[w.heap.size + 1]? = some o1 ∧
    ((((w.alloc o0).alloc o1).alloc o2).alloc o3).heap[w.heap.size + 2]? = some o2 ∧ ((((w.alloc o0).alloc o1).alloc o2).alloc o3).heap[w.heap.size + 3]? = some o3 := by
  simp only [heap_alloc_eq, size_alloc_eq]
  refine ⟨?_, ?_, ?_, ?_⟩
  · rw [if_neg (by omega), if_neg (by omega), if_neg (by omega), if_pos (by first | omega | trivial)]
  · rw [if_neg (by omega), if_neg (by omega), if_pos (by first | omega | trivial)]
  · rw [if_neg (by omega), if_pos (by first | omega | trivial)]
  · rw [if_pos (by first | omega | trivial)]

/-- a symbol that Check refuses -/
theorem with_chk (nb k m : Nat) (a : Option Addr) (c : Nat) (B K id : Int) (da : Option Addr) (dm dc : Nat) (w : World) (hB : I64 B) (hK : I64 K) (hd : dm ≤ maxLen) (h : chkS B K id dm ≠ 0) :
    Calls Tryd.prog 63 #[.agg #[.int .i64 nb, .int .i64 k, .slice a m c], .agg #[.int .i64 B, .int .i64 K], .agg #[.int .i64 id, .slice da dm dc]] w fun e w' => e = .returned (.tuple #[.agg #[.int .i64 0, .int .i64 0, .slice none 0 0], .int .i64 (chkS B K id dm)]) ∧ Below w.heap.size w w' := by
  obtain ⟨blk0, blk1, blk2, blk3⟩ := alloc4' w (.cells #[.int .i64 nb, .int .i64 k, .slice a m c] 105) (.cells #[.int .i64 B, .int .i64 K] 32) (.cells #[.int .i64 id, .slice da dm dc] 38) (.cells #[.int .i64 0, .int .i64 0, .slice none 0 0] 105)
  obtain ⟨W, hW⟩ : ∃ W, (((w.alloc (.cells #[.int .i64 nb, .int .i64 k, .slice a m c] 105)).alloc (.cells #[.int .i64 B, .int .i64 K] 32)).alloc (.cells #[.int .i64 id, .slice da dm dc] 38)).alloc (.cells #[.int .i64 0, .int .i64 0, .slice none 0 0] 105) = W := ⟨_, rfl⟩
  have hBl : Below w.heap.size w W := by rw [← hW]; exact ((((Below.refl _ _).alloc (Nat.le_refl _) _).alloc (by simp) _).alloc (by simp; omega) _).alloc (by simp; omega) _
  rw [hW] at blk0 blk1 blk2 blk3
  have p0 := cell_blk blk1 0
  have p1 := cell_blk blk1 1
  have y0 := cell_blk blk2 0
  have y1 := cell_blk blk2 1
  simp at p0 p1 y0 y1
  rw [← hW] at p0 p1 y0 y1
  have hC := codeCheck_any B K id da dm dc W hB hK hd
  obtain ⟨q, hq⟩ : ∃ q, chkS B K id dm = q := ⟨_, rfl⟩
  rw [hq] at hC h ⊢
  have h1 : (q != 0) = true := by simpa using h
  have HW := Shut.mk hW
  have HQ := Shut.mk blk3
  clear blk0 blk1 blk2 blk3 hW hq h
  go_enter Tryd.func63, Tryd.ntmps63
  go_wp2_with fail
  rw [HW.out]
  refine hC.mono ?_
  rintro e w1 ⟨rfl, hb⟩
  have b3 := blk_below HQ.out hb
  have z0 := cell_blk b3 0
  have z1 := cell_blk b3 1
  have z2 := cell_blk b3 2
  simp at z0 z1 z2
  have f0 := frozen_blk b3 0
  have f1 := frozen_blk b3 1
  have f2 := frozen_blk b3 2
  have hb1 := hBl.trans (hb.mono hBl.size)
  clear hC hb p0 p1 y0 y1 b3 HW hBl
  go_wp2
  obtain ⟨u0, u1, u2⟩ := set3 z0 z1 z2 (.int .i64 0) (.int .i64 0) (.slice none 0 0)
  have hbF := ((hb1.setCell (p := ⟨w.heap.size + 3, 0, none⟩) (by simp) (.int .i64 0)).setCell (p := ⟨w.heap.size + 3, 1, none⟩) (by simp) (.int .i64 0)).setCell (p := ⟨w.heap.size + 3, 2, none⟩) (by simp) (.slice none 0 0)
  generalize ((w1.setCell ⟨w.heap.size + 3, 0, none⟩ (.int .i64 0)).setCell ⟨w.heap.size + 3, 1, none⟩ (.int .i64 0)).setCell ⟨w.heap.size + 3, 2, none⟩ (.slice none 0 0) = w9 at *
  refine bodyPost_ret (v := .tuple #[.agg #[.int .i64 0, .int .i64 0, .slice none 0 0], .int .i64 q]) (by simp [results, Tryd.results63, go_sem, u0, u1, u2]) rfl ?_
  exact ⟨rfl, hbF⟩

set_option maxHeartbeats 1000000 in
/-- a symbol that Check takes -/
theorem with_good (n nb k m i : Nat) (a : Option Addr) (c : Nat) (rows : List MRow) (A : List LRow) (B K : Int) (da : Option Addr) (dc : Nat) (d : List UInt8) (w : World) (g : Good B K n k nb) (hB : I64 B) (hK : I64 K) (hl : Lies w a (rowCells rows)) (hall : ∀ x ∈ rows, RowIn w x) (hmm : rows.length = m) (hAA : rows.map MRow.says = A) (hR : Right nb k A)
    (hd : Lies w da (bs d)) (hdk : d.length = k) (hi : i ≤ 9999) (hL : Laid w) (hc : chkS B K i k = 0) :
    Calls Tryd.prog 63 #[.agg #[.int .i64 nb, .int .i64 k, .slice a m c], .agg #[.int .i64 B, .int .i64 K], .agg #[.int .i64 i, .slice da k dc]] w fun e w' =>
      (addL A (maskL nb i, d) = none ∧ e = .returned (.tuple #[.agg #[.int .i64 0, .int .i64 0, .slice none 0 0], .int .i64 9]) ∨
        ∃ (P : List LRow) (a' : Option Addr) (c' : Nat) (rows' : List MRow), addL A (maskL nb i, d) = some P ∧ e = .returned (.tuple #[.agg #[.int .i64 nb, .int .i64 k, .slice a' rows'.length c'], .int .i64 0]) ∧ Lies w' a' (rowCells rows') ∧ (∀ x ∈ rows', RowIn w' x ∧ x.h.length ≤ x.hc) ∧ rows'.map MRow.says = P ∧ ∀ b o, a' = some ⟨b, o, none⟩ → w.heap.size ≤ b) ∧ Below w.heap.size w w' := by
  obtain ⟨blk0, blk1, blk2, blk3⟩ := alloc4' w (.cells #[.int .i64 nb, .int .i64 k, .slice a m c] 105) (.cells #[.int .i64 B, .int .i64 K] 32) (.cells #[.int .i64 i, .slice da k dc] 38) (.cells #[.int .i64 0, .int .i64 0, .slice none 0 0] 105)
  obtain ⟨W, hW⟩ : ∃ W, (((w.alloc (.cells #[.int .i64 nb, .int .i64 k, .slice a m c] 105)).alloc (.cells #[.int .i64 B, .int .i64 K] 32)).alloc (.cells #[.int .i64 i, .slice da k dc] 38)).alloc (.cells #[.int .i64 0, .int .i64 0, .slice none 0 0] 105) = W := ⟨_, rfl⟩
  have hBl : Below w.heap.size w W := by rw [← hW]; exact ((((Below.refl _ _).alloc (Nat.le_refl _) _).alloc (by simp) _).alloc (by simp; omega) _).alloc (by simp; omega) _
  have hsz : W.heap.size = w.heap.size + 4 := by rw [← hW]; simp
  rw [hW] at blk0 blk1 blk2 blk3
  have p0 := cell_blk blk1 0
  have p1 := cell_blk blk1 1
  have y0 := cell_blk blk2 0
  have y1 := cell_blk blk2 1
  simp at p0 p1 y0 y1
  rw [← hW] at p0 p1 y0 y1
  have n1 := hR.n1
  have n2 := hR.n2
  have k2 := hR.k2
  have hC := codeCheck_any B K i da k dc W hB hK (by unfold maxLen; omega)
  rw [hc] at hC
  have HW := Shut.mk hW
  have HQ := Shut.mk (And.intro blk0 (And.intro blk2 blk3))
  have HI := Shut.mk (And.intro hl (And.intro hall (And.intro hmm (And.intro hAA hR))))
  have HD := Shut.mk (And.intro hd hdk)
  have HLD := Shut.mk hL
  have HSZ := Shut.mk hsz
  clear blk0 blk1 blk2 blk3 hW hl hall hmm hAA hR hd hdk hL hc hsz
  go_enter Tryd.func63, Tryd.ntmps63
  go_wp2_with fail
  rw [HW.out]
  refine hC.mono ?_
  rintro e w1 ⟨rfl, hb⟩
  replace HQ := Shut.mk (And.intro (blk_below HQ.out.1 hb) (And.intro (blk_below HQ.out.2.1 hb) (blk_below HQ.out.2.2 hb)))
  have HS1 : Shut (w.heap.size + 3 < w1.heap.size) := ⟨by have := hb.size; rw [HSZ.out] at this; omega⟩
  have hb1 := hBl.trans (hb.mono hBl.size)
  clear hC hb p0 p1 y0 y1 HW hBl
  have y0 := cell_blk HQ.out.2.1 0
  have s0 := cell_blk HQ.out.1 0
  simp at y0 s0
  have hO := of_any i nb w1 hi n1 n2 (HLD.out.below hb1)
  go_wp2_with fail
  refine hO.mono ?_
  rintro e w2 ⟨g2, rfl, hg2, hr2, hb2⟩
  have hlm := mask_lies hr2
  replace HQ := Shut.mk (And.intro (blk_below HQ.out.1 hb2) (And.intro (blk_below HQ.out.2.1 hb2) (blk_below HQ.out.2.2 hb2)))
  have HS2 : Shut (w.heap.size + 3 < w2.heap.size) := ⟨Nat.lt_of_lt_of_le HS1.out hb2.size⟩
  replace hb1 := hb1.trans (hb2.mono hb1.size)
  clear hO hr2 hb2 y0 s0 hg2
  have y1 := cell_blk HQ.out.2.1 1
  have s0 := cell_blk HQ.out.1 0
  have s1 := cell_blk HQ.out.1 1
  have s2 := cell_blk HQ.out.1 2
  simp at y1 s0 s1 s2
  have hA := addS_right nb k m a c rows A ⟨some ⟨g2, 0, none⟩, nb, maskL nb i, da, dc, d⟩ (maskL nb i, d) w2 (HI.out.1.below hb1 (Nat.le_refl _)) (fun x hx => (HI.out.2.1 x hx).below hb1) ⟨hlm, HD.out.1.below hb1 (Nat.le_refl _), by simp only [maskL_length]; unfold maxLen; omega, by simp only [HD.out.2]; unfold maxLen; omega⟩ HI.out.2.2.1 HI.out.2.2.2.1 rfl HI.out.2.2.2.2 ⟨maskL_length nb i, HD.out.2⟩
  simp only [MRow.hv, MRow.dv, maskL_length, HD.out.2] at hA
  clear hlm
  go_wp2_with fail
  refine hA.mono ?_
  rintro e w3 ⟨hb3, hcase⟩
  replace HQ := Shut.mk (And.intro (blk_below HQ.out.1 hb3) (And.intro (blk_below HQ.out.2.1 hb3) (blk_below HQ.out.2.2 hb3)))
  have HS3 : Shut (w.heap.size + 3 < w3.heap.size) := ⟨Nat.lt_of_lt_of_le HS2.out hb3.size⟩
  replace hb1 := hb1.trans (hb3.mono hb1.size)
  clear hA y1 s0 s1 s2 hb3
  have s0 := cell_blk HQ.out.1 0
  have s1 := cell_blk HQ.out.1 1
  have s2 := cell_blk HQ.out.1 2
  have z0 := cell_blk HQ.out.2.2 0
  have z1 := cell_blk HQ.out.2.2 1
  have z2 := cell_blk HQ.out.2.2 2
  simp at s0 s1 s2 z0 z1 z2
  have f0 := frozen_blk HQ.out.1 0
  have f1 := frozen_blk HQ.out.1 1
  have f2 := frozen_blk HQ.out.1 2
  have q0 := frozen_blk HQ.out.2.2 0
  have q1 := frozen_blk HQ.out.2.2 1
  have q2 := frozen_blk HQ.out.2.2 2
  rcases hcase with ⟨hno, rfl⟩ | ⟨P, a', c', rows', hP, rfl, hl3, hr3, hs3, hn3⟩
  · have HNO := Shut.mk hno
    clear hno
    go_wp2
    have hA1 := ((hb1.setCell (p := ⟨w.heap.size, 0, none⟩) (by simp) (.int .i64 0)).setCell (p := ⟨w.heap.size, 1, none⟩) (by simp) (.int .i64 0)).setCell (p := ⟨w.heap.size, 2, none⟩) (by simp) (.slice none 0 0)
    have z0' : (((w3.setCell ⟨w.heap.size, 0, none⟩ (.int .i64 0)).setCell ⟨w.heap.size, 1, none⟩ (.int .i64 0)).setCell ⟨w.heap.size, 2, none⟩ (.slice none 0 0)).cell? ⟨w.heap.size + 3, 0, none⟩ = some (.int .i64 0) := by rw [World.cell?_setCell_other _ _ _ _ (by intro e; injection e; omega), World.cell?_setCell_other _ _ _ _ (by intro e; injection e; omega), World.cell?_setCell_other _ _ _ _ (by intro e; injection e; omega)]; exact z0
    have z1' : (((w3.setCell ⟨w.heap.size, 0, none⟩ (.int .i64 0)).setCell ⟨w.heap.size, 1, none⟩ (.int .i64 0)).setCell ⟨w.heap.size, 2, none⟩ (.slice none 0 0)).cell? ⟨w.heap.size + 3, 1, none⟩ = some (.int .i64 0) := by rw [World.cell?_setCell_other _ _ _ _ (by intro e; injection e; omega), World.cell?_setCell_other _ _ _ _ (by intro e; injection e; omega), World.cell?_setCell_other _ _ _ _ (by intro e; injection e; omega)]; exact z1
    have z2' : (((w3.setCell ⟨w.heap.size, 0, none⟩ (.int .i64 0)).setCell ⟨w.heap.size, 1, none⟩ (.int .i64 0)).setCell ⟨w.heap.size, 2, none⟩ (.slice none 0 0)).cell? ⟨w.heap.size + 3, 2, none⟩ = some (.slice none 0 0) := by rw [World.cell?_setCell_other _ _ _ _ (by intro e; injection e; omega), World.cell?_setCell_other _ _ _ _ (by intro e; injection e; omega), World.cell?_setCell_other _ _ _ _ (by intro e; injection e; omega)]; exact z2
    clear s0 s1 s2 z0 z1 z2 f0 f1 f2 q0 q1 q2 HQ
    generalize ((w3.setCell ⟨w.heap.size, 0, none⟩ (.int .i64 0)).setCell ⟨w.heap.size, 1, none⟩ (.int .i64 0)).setCell ⟨w.heap.size, 2, none⟩ (.slice none 0 0) = wA at *
    obtain ⟨u0, u1, u2⟩ := set3 z0' z1' z2' (.int .i64 0) (.int .i64 0) (.slice none 0 0)
    have hbF := ((hA1.setCell (p := ⟨w.heap.size + 3, 0, none⟩) (by simp) (.int .i64 0)).setCell (p := ⟨w.heap.size + 3, 1, none⟩) (by simp) (.int .i64 0)).setCell (p := ⟨w.heap.size + 3, 2, none⟩) (by simp) (.slice none 0 0)
    generalize ((wA.setCell ⟨w.heap.size + 3, 0, none⟩ (.int .i64 0)).setCell ⟨w.heap.size + 3, 1, none⟩ (.int .i64 0)).setCell ⟨w.heap.size + 3, 2, none⟩ (.slice none 0 0) = w9 at *
    refine bodyPost_ret (v := .tuple #[.agg #[.int .i64 0, .int .i64 0, .slice none 0 0], .int .i64 9]) (by simp [results, Tryd.results63, go_sem, u0, u1, u2]) rfl ?_
    exact ⟨.inl ⟨HNO.out, rfl⟩, hbF⟩
  · have hfit : ∀ x ∈ rows', 0 < x.h.length ∧ 0 < x.d.length := fun x hx => by
      have hRP := (addL_right HI.out.2.2.2.2 ⟨maskL_length nb i, HD.out.2⟩ hP).1
      have h := hRP.fits _ (by rw [← hs3]; exact List.mem_map_of_mem hx)
      have h1 := h.1
      have h2 := h.2
      have h3 := hRP.n1
      have h4 := hRP.k1
      simp only [MRow.says] at h1 h2
      omega
    have HX := Shut.mk (And.intro hP (And.intro hl3 (And.intro hr3 (And.intro hs3 (And.intro hn3 hfit)))))
    obtain ⟨m', hm'⟩ : ∃ m', rows'.length = m' := ⟨_, rfl⟩
    have HM' := Shut.mk hm'
    rw [hm']
    clear hP hl3 hr3 hs3 hn3 hfit hm'
    go_wp2
    obtain ⟨rs, hrs⟩ : ∃ rs, Value.slice a' m' c' = rs := ⟨_, rfl⟩
    rw [hrs]
    have hA1 := ((hb1.setCell (p := ⟨w.heap.size, 0, none⟩) (by simp) (.int .i64 nb)).setCell (p := ⟨w.heap.size, 1, none⟩) (by simp) (.int .i64 k)).setCell (p := ⟨w.heap.size, 2, none⟩) (by simp) rs
    have gr1 := grown_trans (grown_trans (grown_setCell w3 w.heap.size 0 (.int .i64 nb)) (grown_setCell _ w.heap.size 1 (.int .i64 k))) (grown_setCell _ w.heap.size 2 rs)
    have z0' : (((w3.setCell ⟨w.heap.size, 0, none⟩ (.int .i64 nb)).setCell ⟨w.heap.size, 1, none⟩ (.int .i64 k)).setCell ⟨w.heap.size, 2, none⟩ rs).cell? ⟨w.heap.size + 3, 0, none⟩ = some (.int .i64 0) := by rw [World.cell?_setCell_other _ _ _ _ (by intro e; injection e; omega), World.cell?_setCell_other _ _ _ _ (by intro e; injection e; omega), World.cell?_setCell_other _ _ _ _ (by intro e; injection e; omega)]; exact z0
    have z1' : (((w3.setCell ⟨w.heap.size, 0, none⟩ (.int .i64 nb)).setCell ⟨w.heap.size, 1, none⟩ (.int .i64 k)).setCell ⟨w.heap.size, 2, none⟩ rs).cell? ⟨w.heap.size + 3, 1, none⟩ = some (.int .i64 0) := by rw [World.cell?_setCell_other _ _ _ _ (by intro e; injection e; omega), World.cell?_setCell_other _ _ _ _ (by intro e; injection e; omega), World.cell?_setCell_other _ _ _ _ (by intro e; injection e; omega)]; exact z1
    have z2' : (((w3.setCell ⟨w.heap.size, 0, none⟩ (.int .i64 nb)).setCell ⟨w.heap.size, 1, none⟩ (.int .i64 k)).setCell ⟨w.heap.size, 2, none⟩ rs).cell? ⟨w.heap.size + 3, 2, none⟩ = some (.slice none 0 0) := by rw [World.cell?_setCell_other _ _ _ _ (by intro e; injection e; omega), World.cell?_setCell_other _ _ _ _ (by intro e; injection e; omega), World.cell?_setCell_other _ _ _ _ (by intro e; injection e; omega)]; exact z2
    have b3 := block_set (o := 2) (v := rs) (block_set (o := 1) (v := .int .i64 k) (block_set (o := 0) (v := .int .i64 nb) HQ.out.2.2 (show w.heap.size + 3 ≠ w.heap.size by omega)) (show w.heap.size + 3 ≠ w.heap.size by omega)) (show w.heap.size + 3 ≠ w.heap.size by omega)
    have HRA : Shut (Lies (((w3.setCell ⟨w.heap.size, 0, none⟩ (.int .i64 nb)).setCell ⟨w.heap.size, 1, none⟩ (.int .i64 k)).setCell ⟨w.heap.size, 2, none⟩ rs) a' (rowCells rows') ∧ ∀ x ∈ rows', RowIn (((w3.setCell ⟨w.heap.size, 0, none⟩ (.int .i64 nb)).setCell ⟨w.heap.size, 1, none⟩ (.int .i64 k)).setCell ⟨w.heap.size, 2, none⟩ rs) x) := ⟨lies_grown gr1 HX.out.2.1 fun b o e => by have := HX.out.2.2.2.2.1 b o e; have := HS2.out; omega, fun x hx => (HX.out.2.2.1 x hx).1.far (HX.out.2.2.2.2.2 x hx).1 (HX.out.2.2.2.2.2 x hx).2 HQ.out.1 (boxy3 _ _ _ _ _) gr1⟩
    clear s0 s1 s2 z0 z1 z2 f0 f1 f2 q0 q1 q2 HQ gr1
    generalize ((w3.setCell ⟨w.heap.size, 0, none⟩ (.int .i64 nb)).setCell ⟨w.heap.size, 1, none⟩ (.int .i64 k)).setCell ⟨w.heap.size, 2, none⟩ rs = wA at *
    obtain ⟨u0, u1, u2⟩ := set3 z0' z1' z2' (.int .i64 nb) (.int .i64 k) rs
    have gr2 := grown_trans (grown_trans (grown_setCell wA (w.heap.size + 3) 0 (.int .i64 nb)) (grown_setCell _ (w.heap.size + 3) 1 (.int .i64 k))) (grown_setCell _ (w.heap.size + 3) 2 rs)
    have hbF := ((hA1.setCell (p := ⟨w.heap.size + 3, 0, none⟩) (by simp) (.int .i64 nb)).setCell (p := ⟨w.heap.size + 3, 1, none⟩) (by simp) (.int .i64 k)).setCell (p := ⟨w.heap.size + 3, 2, none⟩) (by simp) rs
    have HRB : Shut (Lies (((wA.setCell ⟨w.heap.size + 3, 0, none⟩ (.int .i64 nb)).setCell ⟨w.heap.size + 3, 1, none⟩ (.int .i64 k)).setCell ⟨w.heap.size + 3, 2, none⟩ rs) a' (rowCells rows') ∧ ∀ x ∈ rows', RowIn (((wA.setCell ⟨w.heap.size + 3, 0, none⟩ (.int .i64 nb)).setCell ⟨w.heap.size + 3, 1, none⟩ (.int .i64 k)).setCell ⟨w.heap.size + 3, 2, none⟩ rs) x) := ⟨lies_grown gr2 HRA.out.1 fun b o e => by have := HX.out.2.2.2.2.1 b o e; have := HS2.out; omega, fun x hx => (HRA.out.2 x hx).far (HX.out.2.2.2.2.2 x hx).1 (HX.out.2.2.2.2.2 x hx).2 b3 (boxy3 _ _ _ _ _) gr2⟩
    clear gr2 z0' z1' z2' b3 HRA
    generalize ((wA.setCell ⟨w.heap.size + 3, 0, none⟩ (.int .i64 nb)).setCell ⟨w.heap.size + 3, 1, none⟩ (.int .i64 k)).setCell ⟨w.heap.size + 3, 2, none⟩ rs = w9 at *
    refine bodyPost_ret (v := .tuple #[.agg #[.int .i64 nb, .int .i64 k, rs], .int .i64 0]) (by simp [results, Tryd.results63, go_sem, u0, u1, u2]) rfl ?_
    refine ⟨.inr ⟨P, a', c', rows', HX.out.1, by rw [← hrs, HM'.out], HRB.out.1, fun x hx => ⟨HRB.out.2 x hx, (HX.out.2.2.1 x hx).2⟩, HX.out.2.2.2.1, fun b o e => by have := HX.out.2.2.2.2.1 b o e; have := HS2.out; omega⟩, hbF⟩

end Go.Proofs.YtpmgmddicbpgjaaDoor

/-
  cut.Join: its contract.
-/
namespace Go.Proofs.YtpmgmddicbpgjaaDoor
open Go.RowKit
set_option linter.unusedVariables false
set_option linter.unusedSimpArgs false

/-- the cargo after i blocks -/
def joinTo (n k : Nat) (ls : List (List UInt8)) (i : Nat) : List UInt8 := ((ls.take i).flatten ++ zeros (n - i * k)).take n

theorem take_flatten_length {k : Nat} {ls : List (List UInt8)} (h : ∀ b ∈ ls, b.length = k) {i : Nat} (hi : i ≤ ls.length) : (ls.take i).flatten.length = i * k := by
  rw [flatten_length_of (fun b hb => h b (List.mem_of_mem_take hb)), List.length_take, Nat.min_eq_left hi]

theorem joinTo_zero (n k : Nat) (ls : List (List UInt8)) : joinTo n k ls 0 = zeros n := by
  simp [joinTo, zeros]

theorem joinTo_length {n k : Nat} {ls : List (List UInt8)} (h : ∀ b ∈ ls, b.length = k) {i : Nat} (hi : i ≤ ls.length) : (joinTo n k ls i).length = n := by
  simp only [joinTo, List.length_take, List.length_append, take_flatten_length h hi, zeros, List.length_replicate]
  omega

theorem joinTo_all {n k nb : Nat} {ls : List (List UInt8)} (hl : ls.length = nb) (hn : n ≤ nb * k) : joinTo n k ls nb = ls.flatten.take n := by
  simp only [joinTo]
  rw [List.take_of_length_le (Nat.le_of_eq hl), show n - nb * k = 0 by omega]
  simp [zeros]

theorem joinTo_step {n k i : Nat} {ls : List (List UInt8)} (h : ∀ b ∈ ls, b.length = k) (hi : i < ls.length) (hik : i * k < n) :
    splice (joinTo n k ls i) (i * k) (ls[i].take (n - i * k)) = joinTo n k ls (i + 1) := by
  have hb := h ls[i] (by simp)
  have hf := take_flatten_length h (Nat.le_of_lt hi)
  have e1 : joinTo n k ls i = (ls.take i).flatten ++ zeros (n - i * k) := by
    unfold joinTo
    rw [List.take_of_length_le]
    simp only [List.length_append, hf, zeros, List.length_replicate]
    omega
  have e2 : joinTo n k ls (i + 1) = (ls.take i).flatten ++ (ls[i].take (n - i * k) ++ zeros (n - (i + 1) * k)) := by
    unfold joinTo
    rw [List.take_succ_eq_append_getElem hi, List.flatten_append, List.append_assoc, List.take_append, List.take_of_length_le (by omega), hf]
    congr 1
    simp only [List.flatten_cons, List.flatten_nil, List.append_nil]
    rw [List.take_append]
    congr 1
    rw [List.take_of_length_le]
    simp only [zeros, List.length_replicate, hb, Nat.add_mul]
    omega
  rw [e1, e2]
  unfold splice
  rw [List.take_left' hf]
  congr 2
  rw [List.drop_append, List.drop_of_length_le (by rw [hf]; omega), List.nil_append, hf]
  simp only [zeros, List.drop_replicate, List.length_take, hb, Nat.add_mul]
  congr 1
  omega

theorem bs_splice (l : List UInt8) (o : Nat) (m : List UInt8) : splice (bs l) o (bs m) = bs (splice l o m) := by
  simp [splice, bs]

theorem joinCode_chk {B K : Int} {ls : List (List UInt8)} (h : chkP B K ≠ 0) : joinCode B K ls = chkP B K := by simp [joinCode, h]

set_option maxHeartbeats 400000 in
/-- cut.Join where the plan, or the number of blocks, is wrong -/
theorem join_bad1 (B K : Int) (a : Option Addr) (cap : Nat) (bl : List Blk) (w : World) (hB : I64 B) (hK : I64 K) (hn : bl.length ≤ maxLen) (hbad : chkP B K ≠ 0 ∨ (bl.length : Int) ≠ nB B K) :
    Calls Tryd.prog 65 #[.agg #[.int .i64 B, .int .i64 K], .slice a bl.length cap] w fun e w' => e = .returned (.tuple #[.slice none 0 0, .int .i64 (joinCode B K (bl.map Blk.l))]) ∧ Below w.heap.size w w' := by
  unfold maxLen at hn
  by_cases hc : chkP B K = 0
  · have hne : ((bl.length : Int) != nB B K) = true := by
      have := hbad.resolve_left (by simp [hc])
      simpa using this
    have HA : Hid (joinCode B K (bl.map Blk.l) = 8) := by
      show joinCode B K (bl.map Blk.l) = 8
      have : (bl.length : Int) ≠ nB B K := by simpa using hne
      simp [joinCode, hc, this]
    clear hbad
    go_enter Tryd.func65, Tryd.ntmps65
    go_wp2_with fail
    refine (cutCheck_any B K _ hB hK).mono ?_
    rintro e w1 ⟨rfl, hb⟩
    obtain ⟨x0, x1⟩ := (Boxed.mk w B K 32).below hb
    have hb := boxBelow hb
    rw [hc]
    go_wp2_with fail
    refine (cutBlocks_any B K _ hB hK).mono ?_
    rintro e w2 ⟨rfl, hb2⟩
    have hb := hb.trans (hb2.mono hb.size)
    go_wp2
    go_ret2
    exact ⟨ret2 rfl (congrArg (Value.int .i64) HA.out.symm), hb⟩
  · have hc' : (chkP B K != 0) = true := by simpa using hc
    have HA : Hid (joinCode B K (bl.map Blk.l) = chkP B K) := joinCode_chk hc
    clear hc hbad
    go_enter Tryd.func65, Tryd.ntmps65
    go_wp2_with fail
    refine (cutCheck_any B K _ hB hK).mono ?_
    rintro e w1 ⟨rfl, hb⟩
    have hb := boxBelow hb
    go_wp2
    go_ret2
    exact ⟨ret2 rfl (congrArg (Value.int .i64) HA.out.symm), hb⟩

/-- as far as i all have k bytes -/
def lenTo (k : Nat) (bl : List Blk) (i : Nat) : Prop := ∀ j (h : j < bl.length), j < i → bl[j].l.length = k

theorem lenTo_all {k : Nat} {bl : List Blk} {i : Nat} (h : lenTo k bl i) (hi : bl.length ≤ i) : ∀ b ∈ bl.map Blk.l, b.length = k := by
  intro b hb
  obtain ⟨c, hc, rfl⟩ := List.mem_map.1 hb
  obtain ⟨j, hj, rfl⟩ := List.mem_iff_getElem.1 hc
  exact h j hj (by omega)

theorem lenTo_succ {k : Nat} {bl : List Blk} {i : Nat} (h : lenTo k bl i) (hi : i < bl.length) (e : bl[i].l.length = k) : lenTo k bl (i + 1) := by
  intro j hj hji
  by_cases ej : j = i
  · subst ej; exact e
  · exact h j hj (by omega)

theorem joinCode_len {B K : Int} {n k nb : Nat} (g : Good B K n k nb) {bl : List Blk} (hl : bl.length = nb) {i : Nat} (hi : i < bl.length) (hne : ¬ bl[i].l.length = k) : joinCode B K (bl.map Blk.l) = 4 := by
  have ha : (bl.map Blk.l).all (fun b => (b.length : Int) == K) = false := by
    rw [Bool.eq_false_iff]
    intro h
    rw [g.eK] at h
    exact hne (all_len_iff.1 h bl[i].l (List.mem_map.2 ⟨bl[i], by simp, rfl⟩))
  unfold joinCode
  rw [if_neg (by rw [chkP_good g]; simp), if_neg (by rw [g.eN]; simp [hl]), if_pos ha]

/-- what lies behind the cargo is the last block's -/
theorem drop_last {n k nb : Nat} {ls : List (List UInt8)} (h : ∀ b ∈ ls, b.length = k) (hl : ls.length = nb) (b1 : 1 ≤ nb) (lo : (nb - 1) * k < n) : ls.flatten.drop n = (ls[nb - 1]'(by omega)).drop (n - (nb - 1) * k) := by
  have hf := take_flatten_length h (show nb - 1 ≤ ls.length by omega)
  have e : ls.flatten = (ls.take (nb - 1)).flatten ++ ls[nb - 1]'(by omega) := by
    have h2 : ls = ls.take (nb - 1) ++ [ls[nb - 1]'(by omega)] := by
      rw [← List.take_succ_eq_append_getElem (by omega), List.take_of_length_le (by omega)]
    have h3 := congrArg List.flatten h2
    rw [List.flatten_append, List.flatten_cons, List.flatten_nil, List.append_nil] at h3
    exact h3
  rw [e, List.drop_append, List.drop_of_length_le (by rw [hf]; omega), List.nil_append, hf]

theorem joinCode_zero4 {B K : Int} {n k nb : Nat} (g : Good B K n k nb) {ls : List (List UInt8)} (hl : ls.length = nb) (ha : ∀ b ∈ ls, b.length = k) (hz : allZero (ls.flatten.drop n) = false) : joinCode B K ls = 4 := by
  have eB : B.toNat = n := by have := g.eB; omega
  unfold joinCode
  rw [if_neg (by rw [chkP_good g]; simp), if_neg (by rw [g.eN, hl]; simp), if_neg (by rw [g.eK, all_len_iff.2 ha]; simp), if_pos (by rw [eB]; exact hz)]

theorem noughts_q (a : Option Addr) (m cap : Nat) (l : List UInt8) (v : Bool) (w : World) (hm : l.length = m) (hv : allZero l = v) (hn : m ≤ maxLen) (ha : Lies w a (bs l)) :
    Calls Tryd.prog 75 #[.slice a m cap] w fun e w' => e = .returned (.bool v) ∧ w' = w := by
  subst hm hv
  exact (noughts_any a cap l w hn ha).mono fun e w' ⟨h1, h2⟩ => ⟨h1, h2.symm⟩

theorem Lies.drop {w : World} {b o : Nat} {l : List UInt8} (h : Lies w (.some ⟨b, o, none⟩) (bs l)) (r : Nat) : Lies w (.some ⟨b, o + r, none⟩) (bs (l.drop r)) := by
  intro k u hu
  have hu' : (bs l)[r + k]? = .some u := by
    simpa [bs, List.getElem?_drop] using hu
  exact ⟨b, o + r, rfl, by rw [Nat.add_assoc]; exact h.at hu'⟩

def JoinInv (w3 wr : World) (n k : Nat) (ls : List (List UInt8)) (m : Nat) : Prop :=
  wr.heap[w3.heap.size]? = some (.cells (bs (joinTo n k ls m)).toArray 5 (0, 0)) ∧ Below w3.heap.size w3 wr

theorem JoinInv.start (w3 : World) (n k : Nat) (ls : List (List UInt8)) : JoinInv w3 (w3.alloc (.cells (madeCells #[.int .u8 0] n) 5)) n k ls 0 := by
  refine ⟨?_, (Below.refl _ _).alloc (Nat.le_refl _) _⟩
  rw [heap_alloc_eq, if_pos rfl, joinTo_zero]
  congr 2
  apply Array.ext'
  rw [toList_madeCells_one]
  simp [bs, zeros]

theorem lies_take {w : World} {b o q : Nat} {l : List UInt8} {cs : List Value} (h : Lies w (some ⟨b, o, none⟩) (bs l)) (HCS : Hid (cs = bs (l.take q))) : ∀ j v, cs[j]? = some v → w.cell? ((⟨b, o, none⟩ : Addr).add j) = some v := by
  intro j v hj
  rw [HCS.out] at hj
  have hj' : (bs l)[j]? = some v := by
    simp only [bs, List.map_take, List.getElem?_take] at hj ⊢
    split at hj
    · exact hj
    · cases hj
  simpa [Addr.add_lit] using h.at hj'

theorem run_copy_spl {P : Program} (w : World) (dT sT ty elem : TypeId) (g o dLen dCap : Nat) (a : Addr) (sLen sCap : Nat) (cur cs : List Value) (t : TypeId)
    (hu : P.underlying dT = some (.slice elem)) (hs : (P.info? elem).map (·.size) = some 1)
    (hg : w.heap[g]? = some (.cells cur.toArray t (0, 0))) (hn : cs.length = Nat.min sLen dLen)
    (hsrc : ∀ j v, cs[j]? = some v → w.cell? (a.add j) = some v) (hfit : o + cs.length ≤ cur.length) (h1 : ∀ v ∈ cs, v.oneCell' = true) :
    (Builtin.copy_ #[dT, sT] ty #[.slice (some ⟨g, o, none⟩) dLen dCap, .slice (some a) sLen sCap]).run P w = .ok (.int .i64 (cs.length : Int)) (w.setRow g (splice cur o cs).toArray) := by
  rw [run_copy_row P w dT sT ty elem g o dLen dCap a sLen sCap cur.toArray t cs hu hs hg hn hsrc (by simpa using hfit) h1]
  simp [splice, goInt]

theorem join_next {w3 wr : World} {n k m p : Nat} {bl : List Blk} {cur cs : List Value} (HA : Hid (∀ b ∈ bl.map Blk.l, b.length = k)) (HCU : Hid (cur = bs (joinTo n k (bl.map Blk.l) m))) (hml : m < bl.length) (HCS : Hid (cs = bs (bl[m].l.take (n - p)))) (HP : Hid (p = m * k)) (hpn : p < n)
    (hg : wr.heap[w3.heap.size]? = some (.cells cur.toArray 5 (0, 0))) (hb : Below w3.heap.size w3 wr) : JoinInv w3 (wr.setRow w3.heap.size (splice cur p cs).toArray) n k (bl.map Blk.l) (m + 1) := by
  refine ⟨?_, below_setRow hb (Nat.le_refl _) _⟩
  rw [setRow_heap wr _ _ _ _ _ hg, HCU.out, HCS.out, bs_splice]
  have e := joinTo_step (n := n) HA.out (i := m) (by simpa using hml) (by rw [← HP.out]; exact hpn)
  simp only [List.getElem_map] at e
  rw [← e, HP.out]

set_option maxHeartbeats 2000000 in
/-- cut.Join of a plan that fits, and as many blocks -/
theorem join_good (B K : Int) (n k nb : Nat) (a : Option Addr) (cap : Nat) (bl : List Blk) (w : World) (hg : Good B K n k nb) (hl : bl.length = nb) (ha : Lies w a (bl.map Blk.val)) (hall : AllIn w bl) (hcaps : Caps bl) :
    Calls Tryd.prog 65 #[.agg #[.int .i64 B, .int .i64 K], .slice a nb cap] w fun e w' => ∃ a', e = .returned (.tuple #[.slice a' (joinRes B K (bl.map Blk.l)).length (joinRes B K (bl.map Blk.l)).length, .int .i64 (joinCode B K (bl.map Blk.l))]) ∧
      Lies w' a' (bs (joinRes B K (bl.map Blk.l))) ∧ Below w.heap.size w w' := by
  have G : Hid (Good B K n k nb) := hg
  obtain ⟨rfl, rfl, n1, n2, k1, k2, eN, b1, b2, lo, hi⟩ := hg
  have hB : I64 n := ⟨by omega, by omega⟩
  have hK : I64 k := ⟨by omega, by omega⟩
  have HC : Hid (chkP n k = 0) := chkP_good G.out
  have HL : Hid (bl.length = nb) := hl
  have HN : Hid (nB n k = nb) := eN
  have hmk := run_make_row' (P := Tryd.prog) 35 5 (.int .u8 0) 1 Tryd.underlying35 infoU8 rfl .i64 .i64 n (by omega) (by omega)
  have hself : ((nb : Int) != (nb : Int)) = false := by simp
  obtain ⟨b1', o1', rfl⟩ := ha.some (k := 0) (by simp; omega)
  clear hl eN
  go_enter Tryd.func65, Tryd.ntmps65
  go_wp2_with fail
  refine (cutCheck_any n k _ hB hK).mono ?_
  rintro e w1 ⟨rfl, hb⟩
  obtain ⟨x0, x1⟩ := (Boxed.mk w n k 32).below hb
  have HX : Hid (Boxed w1 w.heap.size n k) := ⟨x0, x1⟩
  have hb := boxBelow hb
  rw [HC.out]
  go_wp2_with fail
  refine (cutBlocks_any n k _ hB hK).mono ?_
  rintro e w2 ⟨rfl, hb2⟩
  rw [HN.out]
  obtain ⟨x0, x1⟩ := HX.out.below hb2
  have hb := hb.trans (hb2.mono hb.size)
  clear hb2 HX
  go_wp2
  go_loop [25] (fun i => ∃ m : Nat, m ≤ nb ∧ i = .int .i64 m ∧ Hid (lenTo k bl m)) (fun i => nb - (intOf i).toNat)
  case atStart => exact ⟨0, Nat.zero_le _, rfl, fun j hj h => by omega⟩
  case round =>
    obtain ⟨m, hm, rfl, hlen⟩ := hrel
    by_cases hlt : m < nb
    · have hml : m < bl.length := by rw [HL.out]; exact hlt
      have hc1 : w2.cell? ⟨b1', o1' + m, none⟩ = some (.slice bl[m].a bl[m].l.length bl[m].cap) := (ha.below hb (Nat.le_refl _)).at (by simp [hml, Blk.val])
      have hbb := (hall bl[m] (by simp)).2
      unfold maxLen at hbb
      cases hne : ((bl[m].l.length : Int) != (k : Int)) with
      | true =>
        have HJ : Hid (joinCode n k (bl.map Blk.l) = 4) := joinCode_len G.out HL.out hml (by simp at hne; omega)
        go_wp2
        go_ret2
        exact ⟨none, by simp [joinRes, HJ.out], by simp [joinRes, HJ.out, bs, Lies.nil], hb⟩
      | false =>
        have HE : Hid (bl[m].l.length = k) := by
          show bl[m].l.length = k
          simp at hne
          omega
        go_wp2
        go_round
        case rel => exact ⟨m + 1, by omega, by go_num, lenTo_succ hlen.out hml HE.out⟩
        case measure => simp [intOf]; omega
    · have HA : Hid (∀ b ∈ bl.map Blk.l, b.length = k) := lenTo_all hlen.out (by rw [HL.out]; omega)
      clear hlen
      have hml : nb - 1 < bl.length := by rw [HL.out]; omega
      have hlk : bl[nb - 1].l.length = k := HA.out _ (List.mem_map.2 ⟨bl[nb - 1], by simp, rfl⟩)
      have hc1 : w2.cell? ⟨b1', o1' + (nb - 1), none⟩ = some (.slice bl[nb - 1].a k bl[nb - 1].cap) := (ha.below hb (Nat.le_refl _)).at (by simp [hml, Blk.val, hlk])
      have hla := (hall bl[nb - 1] (by simp)).1.below hb (Nat.le_refl _)
      have hcl := hcaps bl[nb - 1] (by simp)
      obtain ⟨lb, lof, hle⟩ := hla.some (k := 0) (by rw [bs_length, hlk]; omega)
      rw [hle] at hc1 hla
      obtain ⟨q, hq⟩ : ∃ q, q = (nb - 1) * k := ⟨_, rfl⟩
      obtain ⟨r, hr⟩ : ∃ r, r = n - q := ⟨_, rfl⟩
      have e1 : ((nb : Int) - 1).toNat = nb - 1 := by omega
      have e2 : ((nb : Int) - 1) * (k : Int) = (q : Int) := by
        rw [hq]
        have : ((nb : Int) - 1) = ((nb - 1 : Nat) : Int) := by omega
        rw [this]
        simp
      have hmul : nb * k = (nb - 1) * k + k := by
        have := Nat.add_mul (nb - 1) 1 k
        rw [Nat.one_mul] at this
        rw [← this]
        congr 1
        omega
      have f1 : q < n := by omega
      have f2 : r ≤ k := by omega
      have e3 : (n : Int) - (q : Int) = (r : Int) := by omega
      have HZ : Hid ((bl.map Blk.l).flatten.drop n = bl[nb - 1].l.drop r) := by
        have := drop_last HA.out (by simpa using HL.out) b1 lo
        show (bl.map Blk.l).flatten.drop n = bl[nb - 1].l.drop r
        rw [hr, hq]
        simpa using this
      have HLK : Hid (bl[nb - 1].l.length = k) := hlk
      rw [hlk] at hcl
      obtain ⟨lc, hlc⟩ : ∃ lc, lc = bl[nb - 1].cap := ⟨_, rfl⟩
      rw [← hlc] at hc1 hcl
      have HD : Hid ((bl[nb - 1].l.drop r).length = k - r) := by
        show (bl[nb - 1].l.drop r).length = k - r
        rw [List.length_drop, HLK.out]
      have hld := hla.drop r
      clear hle hlk hq hr hmul hlc hla
      cases hz : allZero (bl[nb - 1].l.drop r) with
      | false =>
        have HZF : Hid (allZero (bl[nb - 1].l.drop r) = false) := hz
        have hcr : ¬ lc = r := fun e => by
          rw [List.drop_eq_nil_of_le (by rw [HLK.out]; omega)] at hz
          simp [allZero] at hz
        clear hz
        go_wp2
        go_quiet ((go_at_call 75; exact Calls.quiet_of_same (noughts_q _ _ _ _ _ _ HD.out HZF.out (by unfold maxLen; omega) (hld.drewN _))))
        go_wp2
        go_ret2
        have HJ : joinCode n k (bl.map Blk.l) = 4 := joinCode_zero4 G.out (by simpa using HL.out) HA.out (by rw [HZ.out]; exact HZF.out)
        exact ⟨none, by simp [joinRes, HJ], by simp [joinRes, HJ, bs, Lies.nil], hb.trans (bdn _ _ _)⟩
      | true =>
        have HZT : Hid (allZero (bl[nb - 1].l.drop r) = true) := hz
        have HJ : Hid (joinCode n k (bl.map Blk.l) = 0 ∧ joinRes n k (bl.map Blk.l) = (bl.map Blk.l).flatten.take n) := joinCode_good G.out (by simpa using HL.out) HA.out (by rw [HZ.out]; exact hz)
        clear hz
        by_cases hcr : lc = r
        all_goals
          go_wp2
          go_quiet ((go_at_call 75; first | exact Calls.quiet_of_same (noughts_q _ _ _ _ _ _ HD.out HZT.out (by unfold maxLen; omega) (hld.drewN _)) | exact Calls.quiet_of_same (noughts_q _ _ _ [] true _ (by simp; omega) rfl (by unfold maxLen; omega) (Lies.nil _ _))))
          have hx : Boxed (w2.drewN nq) w.heap.size n k := ⟨x0, x1⟩
          have hb := hb.trans (bdn w2 nq w.heap.size)
          clear x0 x1 hc1 HD hld e1 e2 e3 f1 f2 hcr HZ HLK HZT hcl
          generalize w2.drewN nq = w3 at *
          have HX : Hid (Boxed w3 w.heap.size n k) := hx
          obtain ⟨x0, x1⟩ := hx
          clear hm hlt
          have hI0 := JoinInv.start w3 n k (bl.map Blk.l)
          go_wp2
          clear x0 x1
          go_loopw [57] (fun i wr => ∃ m : Nat, m ≤ nb ∧ i = .int .i64 m ∧ Hid (JoinInv w3 wr n k (bl.map Blk.l) m)) (fun i _ => nb - (intOf i).toNat)
          case atStart => exact ⟨0, Nat.zero_le _, rfl, hI0⟩
          case round =>
            clear hI0
            obtain ⟨m, hm, rfl, hI⟩ := hrel
            by_cases hlt : m < nb
            · have hml : m < bl.length := by rw [HL.out]; exact hlt
              have HLK : Hid (bl[m].l.length = k) := HA.out _ (List.mem_map.2 ⟨bl[m], by simp, rfl⟩)
              have hbw := hb.trans (hI.out.2.mono hb.size)
              have hc1 : wr.cell? ⟨b1', o1' + m, none⟩ = some (.slice bl[m].a k bl[m].cap) := (ha.below hbw (Nat.le_refl _)).at (by simp [hml, Blk.val, HLK.out])
              have x1 := (HX.out.below hI.out.2).2
              have hla := (hall bl[m] (by simp)).1.below hbw (Nat.le_refl _)
              obtain ⟨lb, lof, hle⟩ := hla.some (k := 0) (by rw [bs_length, HLK.out]; omega)
              rw [hle] at hc1 hla
              obtain ⟨p, hp⟩ : ∃ p, p = m * k := ⟨_, rfl⟩
              have hpi : (m : Int) * (k : Int) = (p : Int) := by rw [hp]; simp
              have hpn : p < n := by
                have := Nat.mul_le_mul_right k (show m ≤ nb - 1 by omega)
                omega
              have HP : Hid (p = m * k) := hp
              have hw3 : ¬ n = p := by omega
              obtain ⟨cur, hcur⟩ : ∃ cur, cur = bs (joinTo n k (bl.map Blk.l) m) := ⟨_, rfl⟩
              obtain ⟨cs, hcs⟩ : ∃ cs, cs = bs (bl[m].l.take (n - p)) := ⟨_, rfl⟩
              have HCU : Hid (cur = bs (joinTo n k (bl.map Blk.l) m)) := hcur
              have HCS : Hid (cs = bs (bl[m].l.take (n - p))) := hcs
              have S0 : Hid (wr.heap[w3.heap.size]? = some (.cells cur.toArray 5 (0, 0))) := by
                have := hI.out.1
                rw [← hcur] at this
                exact this
              have S1 : Hid (cs.length = Nat.min k (n - p)) := by
                show cs.length = Nat.min k (n - p)
                rw [hcs, bs_length, List.length_take, HLK.out]
                exact Nat.min_comm _ _
              have S2 : Hid (∀ j v, cs[j]? = some v → wr.cell? ((⟨lb, lof, none⟩ : Addr).add j) = some v) := lies_take hla HCS
              have S3 : Hid (p + cs.length ≤ cur.length) := by
                show p + cs.length ≤ cur.length
                rw [S1.out, hcur, bs_length, joinTo_length HA.out (by simp; omega)]
                have : Nat.min k (n - p) ≤ n - p := Nat.min_le_right _ _
                omega
              have S4 : Hid (∀ v ∈ cs, v.oneCell' = true) := bs_one HCS
              have S5 : Hid (Below w3.heap.size w3 wr) := hI.out.2
              clear hp hcur hcs hla hle hI hbw
              have hrun := run_copy_spl wr 35 36 3 5 w3.heap.size p (n - p) (n - p) ⟨lb, lof, none⟩ k bl[m].cap cur cs 5 Tryd.underlying35 sizeU8 S0.out S1.out S2.out S3.out S4.out
              have HI : Hid (JoinInv w3 (wr.setRow w3.heap.size (splice cur p cs).toArray) n k (bl.map Blk.l) (m + 1)) := join_next HA HCU hml HCS HP hpn S0.out S5.out
              clear S0 S1 S2 S3 S4 S5
              go_wp2
              clear hrun
              generalize wr.setRow w3.heap.size (splice cur p cs).toArray = w4 at *
              go_roundw
              case rel => exact ⟨m + 1, by omega, by go_num, HI⟩
              case measure => simp [intOf]; omega
            · have hmn : m = nb := by omega
              have HMN : Hid (m = nb) := hmn
              clear hmn
              go_wp2
              go_ret2
              have h := hI.out
              rw [HMN.out] at h
              obtain ⟨h1, h2⟩ := h
              have hll : (joinRes n k (bl.map Blk.l)).length = n := by
                rw [HJ.out.2, ← joinTo_all (by simpa using HL.out) hi, joinTo_length HA.out (by simp [HL.out])]
              rw [hll, HJ.out.1, HJ.out.2, ← joinTo_all (by simpa using HL.out) hi]
              refine ⟨some ⟨w3.heap.size, 0, none⟩, rfl, ?_, hb.trans (h2.mono hb.size)⟩
              have := Lies.of_block h1
              simpa using this

/-- cut.Join -/
theorem join_any (B K : Int) (a : Option Addr) (cap : Nat) (bl : List Blk) (w : World) (hB : I64 B) (hK : I64 K) (hn : bl.length ≤ maxLen) (ha : Lies w a (bl.map Blk.val)) (hall : AllIn w bl) (hcaps : Caps bl) :
    Calls Tryd.prog 65 #[.agg #[.int .i64 B, .int .i64 K], .slice a bl.length cap] w fun e w' => ∃ a', e = .returned (.tuple #[.slice a' (joinRes B K (bl.map Blk.l)).length (joinRes B K (bl.map Blk.l)).length, .int .i64 (joinCode B K (bl.map Blk.l))]) ∧
      Lies w' a' (bs (joinRes B K (bl.map Blk.l))) ∧ Below w.heap.size w w' := by
  by_cases hbad : chkP B K ≠ 0 ∨ (bl.length : Int) ≠ nB B K
  · have hne : joinCode B K (bl.map Blk.l) ≠ 0 := by
      by_cases hc : chkP B K = 0
      · have := hbad.resolve_left (by simp [hc])
        simp [joinCode, hc, this]
      · rw [joinCode_chk hc]; exact hc
    refine (join_bad1 B K a cap bl w hB hK hn hbad).mono ?_
    rintro e w' ⟨rfl, hb⟩
    have er : joinRes B K (bl.map Blk.l) = [] := if_neg hne
    rw [er]
    exact ⟨none, rfl, Lies.nil _ _, hb⟩
  · have h1 : chkP B K = 0 := Classical.byContradiction fun h => hbad (.inl h)
    have h2 : (bl.length : Int) = nB B K := Classical.byContradiction fun h => hbad (.inr h)
    obtain ⟨n, k, nb, g⟩ := good_of h1
    have hl : bl.length = nb := by have := g.eN; omega
    rw [hl]
    exact join_good B K n k nb a cap bl w g hl ha hall hcaps

end Go.Proofs.YtpmgmddicbpgjaaDoor
