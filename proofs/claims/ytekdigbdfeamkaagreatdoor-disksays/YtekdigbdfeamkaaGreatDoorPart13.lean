/-
  Chapter 7, the reference: RecRead, where a text has thirteen words.
-/
import Derived.Test.YtekdigbdfeamkaaGreatDoorPart12
import Derived.Deep.RegionHeld3
namespace Go.Proofs.YtekdigbdfeamkaaGreatDoor
open Go.RowKit
set_option linter.unusedVariables false
set_option linter.unusedSimpArgs false

theorem pCode_none {s : List UInt8} (hs : s.length ≤ 60000) (h : readL s = none) : pCode s = 1 := by
  rw [pCode, if_neg (by omega), h]

theorem cellAN {w : World} {b o : Nat} {v : Value} (h : w.cell? ⟨b, o, none⟩ = some v) (ob : Obj) : (w.alloc ob).cell? ⟨b, o, none⟩ = some v := cellW h ((Below.refl _ _).alloc (Nat.le_refl _) ob)

theorem infoInt : (Tryz.prog.info? 3).map (fun i => (i.zero, i.size, i.bytes)) = some (some (.int .i64 0), 1, 8) := by kernel_rfl

/-- the numbers read so far, in a list of their own; the words and the answer's box as they were -/
def RrInv (w W1 wr : World) (v : Value) (ws : List ByteArray) (q : Nat) : Prop :=
  ∃ l : List Int, numsW ((ws.map (·.data.toList)).take q) = some l ∧ wr.ownsRow W1.heap.size 3 1 v q (ns l) ∧ wr.heap[w.heap.size]? = some (.cells #[.int .i64 0, .int .i64 0, .int .i64 0, .int .i64 0, .int .i64 0, .int .i64 0, .int .i64 0, .int .i64 0, .int .i64 0, .int .i64 0, .int .i64 0, .slice none 0 0, .slice none 0 0] 33 (0, 0)) ∧ Lies wr (some ⟨w.heap.size + 1, 0, none⟩) (ws.map Value.string) ∧ Below W1.heap.size W1 wr

set_option maxHeartbeats 4000000 in
set_option maxRecDepth 8000 in
theorem recRead_full (s : ByteArray) (w : World) (hs : s.size ≤ 60000) (hL : LaidN w) (hl : (wordsL s.data.toList).length = 13) :
    Calls Tryz.prog 38 #[.string s] w fun e w' => Below w.heap.size w w' ∧ ParseF w.heap.size s.data.toList e w' := by
  have hsl : s.data.toList.length ≤ 60000 := by rw [sizeB]; exact hs
  obtain ⟨W, hW⟩ : ∃ W, w.alloc (.cells #[.int .i64 0, .int .i64 0, .int .i64 0, .int .i64 0, .int .i64 0, .int .i64 0, .int .i64 0, .int .i64 0, .int .i64 0, .int .i64 0, .int .i64 0, .slice none 0 0, .slice none 0 0] 33) = W := ⟨_, rfl⟩
  have hBW : Below w.heap.size w W := by rw [← hW]; exact (Below.refl _ _).alloc (Nat.le_refl _) _
  have hbW : W.heap[w.heap.size]? = some (.cells #[.int .i64 0, .int .i64 0, .int .i64 0, .int .i64 0, .int .i64 0, .int .i64 0, .int .i64 0, .int .i64 0, .int .i64 0, .int .i64 0, .int .i64 0, .slice none 0 0, .slice none 0 0] 33 (0, 0)) := by rw [← hW, heap_alloc_eq, if_pos rfl]
  have hWs : W.heap.size = w.heap.size + 1 := by rw [← hW]; simp
  have hS := split_any s W hs (hL.below hBW)
  have eg := entersBad
  obtain ⟨i0, hii, hz0, hz1, hz2⟩ := info_parts infoInt
  obtain ⟨i8, hii8, hz80, hz81, hz82⟩ := info_parts infoU8
  go_enter Tryz.func38, Tryz.ntmps38
  go_wp2_with fail
  refine hS.mono ?_
  rintro e W1 ⟨ws, rfl, hlw, hb1, hws⟩
  have hl2 : ws.length = 13 := by rw [← hws, List.length_map] at hl; exact hl
  have hL1 := (hL.below hBW).below hb1
  have hg1 := blkB hbW hb1
  have hF1 := hBW.trans (hb1.mono hBW.size)
  have hsz1 : w.heap.size + 1 < W1.heap.size := by
    have h1 := hlw.lt rfl 0 (by rw [List.length_map, hl2]; decide)
    have h2 := World.block_lt_of_cell? W1 _ h1
    rw [hWs] at h2
    exact h2
  rw [hWs] at hlw ⊢
  rw [hl2]
  have hshort : ∀ x ∈ ws, x.size ≤ 60000 := by
    intro x hx
    have h1 : x.data.toList ∈ wordsL s.data.toList := by rw [← hws]; exact List.mem_map_of_mem hx
    have h2 := wordsL_short _ _ h1
    rw [sizeB, sizeB] at h2
    omega
  have HWS := Shut.mk hws
  have HL13 := Shut.mk hl
  have H0 : Shut (RrInv w W1 W1 (.slice none 0 0) ws 0) := ⟨[], rfl, World.ownsRow_nil _ _ _ _, hg1, hlw, Below.refl _ _⟩
  clear hS hbW hW hWs hL hBW hb1 hws hl
  go_wp2_with fail
  go_loopw [6, 31] (fun v m wr => ∃ q : Nat, q ≤ 11 ∧ m = .int .i64 q ∧ Shut (RrInv w W1 wr v ws q)) (fun _ m _ => 11 - (intOf m).toNat)
  case atStart => exact ⟨0, Nat.zero_le _, rfl, H0⟩
  case round =>
    clear H0
    obtain ⟨q, hq, rfl, hI⟩ := hrel
    by_cases hlt : q < 11
    · obtain ⟨l, hnum, hown, hg2, hlr, hbr⟩ := hI.out
      have hq13 : q < ws.length := by omega
      obtain ⟨x, hx⟩ : ∃ x, ws[q]? = some x := ⟨ws[q], List.getElem?_eq_getElem hq13⟩
      have hxm : (ws.map (·.data.toList))[q]? = some x.data.toList := by rw [List.getElem?_map, hx]; rfl
      have hxs := hshort x (List.mem_of_getElem? hx)
      have cx : wr.cell? ⟨w.heap.size + 1, q, none⟩ = some (.string x) := by
        have := hlr.at (k := q) (u := .string x) (by rw [List.getElem?_map, hx]; rfl)
        simpa using this
      have hLr := hL1.below hbr
      have hFr := hF1.trans (hbr.mono hF1.size)
      cases hnx : numW x.data.toList with
      | none =>
        have HN : Shut (pCode s.data.toList = 1) := ⟨pCode_none hsl (readL_nums (by rw [← HWS.out]; exact numsW_stop hnum hxm hnx hlt))⟩
        cases ha : Lib.atoiAll x.data.toList with
        | ok v =>
          have hA := parseI_good x wr v hxs ha
          have hcmp : ((⟨(Lib.itoa v).toArray⟩ : ByteArray).toList == x.toList) = false := by
            rw [strEq]
            refine decide_eq_false fun e => ?_
            simp only [numW, ha] at hnx
            rw [if_pos (by simpa using e)] at hnx
            cases hnx
          have hI64 : I64 v := Lib.atoiAll_bounds ha
          clear hnx ha hnum hxm hown
          go_wp2_with fail
          refine hA.mono ?_
          rintro e wa ⟨rfl, hba⟩
          have hFm := format_any v wa hI64 (hLr.below hba)
          clear hA
          generalize (⟨(Lib.itoa v).toArray⟩ : ByteArray) = A2 at hcmp hFm
          go_wp2_with fail
          refine hFm.mono ?_
          rintro e wb ⟨rfl, hbb⟩
          have hgb := blkB (blkB hg2 hba) hbb
          have hBb := hFr.trans ((hba.trans (hbb.mono hba.size)).mono hFr.size)
          have hcmp2 : ¬ A2.toList = x.toList := by simpa using hcmp
          clear hFm hba hbb
          go_wp2_with fail
          refine (bad_any 1 wb).mono ?_
          rintro e wz ⟨rfl, hbz⟩
          have hgz := blkB hgb hbz
          have hFz := (hBb).trans (hbz.mono (hBb).size)
          simp only [rcV, rc0, List.length_nil]
          have z0 : wz.cell? ⟨w.heap.size, 0, none⟩ = some (.int .i64 0) := cellB hgz 0 _ rfl
          have f0 : wz.frozen? ⟨w.heap.size, 0, none⟩ = false := by simp [World.frozen?, hgz]
          have z1 : wz.cell? ⟨w.heap.size, 1, none⟩ = some (.int .i64 0) := cellB hgz 1 _ rfl
          have f1 : wz.frozen? ⟨w.heap.size, 1, none⟩ = false := by simp [World.frozen?, hgz]
          have z2 : wz.cell? ⟨w.heap.size, 2, none⟩ = some (.int .i64 0) := cellB hgz 2 _ rfl
          have f2 : wz.frozen? ⟨w.heap.size, 2, none⟩ = false := by simp [World.frozen?, hgz]
          have z3 : wz.cell? ⟨w.heap.size, 3, none⟩ = some (.int .i64 0) := cellB hgz 3 _ rfl
          have f3 : wz.frozen? ⟨w.heap.size, 3, none⟩ = false := by simp [World.frozen?, hgz]
          have z4 : wz.cell? ⟨w.heap.size, 4, none⟩ = some (.int .i64 0) := cellB hgz 4 _ rfl
          have f4 : wz.frozen? ⟨w.heap.size, 4, none⟩ = false := by simp [World.frozen?, hgz]
          have z5 : wz.cell? ⟨w.heap.size, 5, none⟩ = some (.int .i64 0) := cellB hgz 5 _ rfl
          have f5 : wz.frozen? ⟨w.heap.size, 5, none⟩ = false := by simp [World.frozen?, hgz]
          have z6 : wz.cell? ⟨w.heap.size, 6, none⟩ = some (.int .i64 0) := cellB hgz 6 _ rfl
          have f6 : wz.frozen? ⟨w.heap.size, 6, none⟩ = false := by simp [World.frozen?, hgz]
          have z7 : wz.cell? ⟨w.heap.size, 7, none⟩ = some (.int .i64 0) := cellB hgz 7 _ rfl
          have f7 : wz.frozen? ⟨w.heap.size, 7, none⟩ = false := by simp [World.frozen?, hgz]
          have z8 : wz.cell? ⟨w.heap.size, 8, none⟩ = some (.int .i64 0) := cellB hgz 8 _ rfl
          have f8 : wz.frozen? ⟨w.heap.size, 8, none⟩ = false := by simp [World.frozen?, hgz]
          have z9 : wz.cell? ⟨w.heap.size, 9, none⟩ = some (.int .i64 0) := cellB hgz 9 _ rfl
          have f9 : wz.frozen? ⟨w.heap.size, 9, none⟩ = false := by simp [World.frozen?, hgz]
          have z10 : wz.cell? ⟨w.heap.size, 10, none⟩ = some (.int .i64 0) := cellB hgz 10 _ rfl
          have f10 : wz.frozen? ⟨w.heap.size, 10, none⟩ = false := by simp [World.frozen?, hgz]
          have z11 : wz.cell? ⟨w.heap.size, 11, none⟩ = some (.slice none 0 0) := cellB hgz 11 _ rfl
          have f11 : wz.frozen? ⟨w.heap.size, 11, none⟩ = false := by simp [World.frozen?, hgz]
          have z12 : wz.cell? ⟨w.heap.size, 12, none⟩ = some (.slice none 0 0) := cellB hgz 12 _ rfl
          have f12 : wz.frozen? ⟨w.heap.size, 12, none⟩ = false := by simp [World.frozen?, hgz]
          clear hbz
          go_wp2
          obtain ⟨W9, hW9, hb9, hk9, hB9⟩ := box13 wz w.heap.size 33 _ _ _ _ _ _ _ _ _ _ _ _ _ (.int .i64 0) (.int .i64 0) (.int .i64 0) (.int .i64 0) (.int .i64 0) (.int .i64 0) (.int .i64 0) (.int .i64 0) (.int .i64 0) (.int .i64 0) (.int .i64 0) (.slice none 0 0) (.slice none 0 0) hgz
          rw [hW9]
          have hF9 := hB9 _ _ (Nat.le_refl _) hFz
          clear hW9 hB9 z0 f0 z1 f1 z2 f2 z3 f3 z4 f4 z5 f5 z6 f6 z7 f7 z8 f8 z9 f9 z10 f10 z11 f11 z12 f12
          have z0 : W9.cell? ⟨w.heap.size, 0, none⟩ = some (.int .i64 0) := cellB hb9 0 _ rfl
          have z1 : W9.cell? ⟨w.heap.size, 1, none⟩ = some (.int .i64 0) := cellB hb9 1 _ rfl
          have z2 : W9.cell? ⟨w.heap.size, 2, none⟩ = some (.int .i64 0) := cellB hb9 2 _ rfl
          have z3 : W9.cell? ⟨w.heap.size, 3, none⟩ = some (.int .i64 0) := cellB hb9 3 _ rfl
          have z4 : W9.cell? ⟨w.heap.size, 4, none⟩ = some (.int .i64 0) := cellB hb9 4 _ rfl
          have z5 : W9.cell? ⟨w.heap.size, 5, none⟩ = some (.int .i64 0) := cellB hb9 5 _ rfl
          have z6 : W9.cell? ⟨w.heap.size, 6, none⟩ = some (.int .i64 0) := cellB hb9 6 _ rfl
          have z7 : W9.cell? ⟨w.heap.size, 7, none⟩ = some (.int .i64 0) := cellB hb9 7 _ rfl
          have z8 : W9.cell? ⟨w.heap.size, 8, none⟩ = some (.int .i64 0) := cellB hb9 8 _ rfl
          have z9 : W9.cell? ⟨w.heap.size, 9, none⟩ = some (.int .i64 0) := cellB hb9 9 _ rfl
          have z10 : W9.cell? ⟨w.heap.size, 10, none⟩ = some (.int .i64 0) := cellB hb9 10 _ rfl
          have z11 : W9.cell? ⟨w.heap.size, 11, none⟩ = some (.slice none 0 0) := cellB hb9 11 _ rfl
          have z12 : W9.cell? ⟨w.heap.size, 12, none⟩ = some (.slice none 0 0) := cellB hb9 12 _ rfl
          refine bodyPost_ret (v := .tuple #[rcV rc0 none 0 none 0, .int .i64 1]) (by simp [results, Tryz.results38, go_sem, rcV, rc0, z0, z1, z2, z3, z4, z5, z6, z7, z8, z9, z10, z11, z12]) rfl ?_
          exact ⟨hF9, Or.inl ⟨by rw [HN.out]; decide, by rw [HN.out]⟩⟩
        | «syntax» =>
          have hA := parseI_bad x wr hxs (by intro v; rw [ha]; intro e; cases e) hLr
          clear hnx ha hnum hxm hown
          go_wp2_with fail
          refine hA.mono ?_
          rintro e wb ⟨v, te, pe, rfl, hba⟩
          have hgb := blkB hg2 hba
          have hBb := hFr.trans (hba.mono hFr.size)
          clear hA hba
          go_wp2_with fail
          refine (bad_any 1 wb).mono ?_
          rintro e wz ⟨rfl, hbz⟩
          have hgz := blkB hgb hbz
          have hFz := (hBb).trans (hbz.mono (hBb).size)
          simp only [rcV, rc0, List.length_nil]
          have z0 : wz.cell? ⟨w.heap.size, 0, none⟩ = some (.int .i64 0) := cellB hgz 0 _ rfl
          have f0 : wz.frozen? ⟨w.heap.size, 0, none⟩ = false := by simp [World.frozen?, hgz]
          have z1 : wz.cell? ⟨w.heap.size, 1, none⟩ = some (.int .i64 0) := cellB hgz 1 _ rfl
          have f1 : wz.frozen? ⟨w.heap.size, 1, none⟩ = false := by simp [World.frozen?, hgz]
          have z2 : wz.cell? ⟨w.heap.size, 2, none⟩ = some (.int .i64 0) := cellB hgz 2 _ rfl
          have f2 : wz.frozen? ⟨w.heap.size, 2, none⟩ = false := by simp [World.frozen?, hgz]
          have z3 : wz.cell? ⟨w.heap.size, 3, none⟩ = some (.int .i64 0) := cellB hgz 3 _ rfl
          have f3 : wz.frozen? ⟨w.heap.size, 3, none⟩ = false := by simp [World.frozen?, hgz]
          have z4 : wz.cell? ⟨w.heap.size, 4, none⟩ = some (.int .i64 0) := cellB hgz 4 _ rfl
          have f4 : wz.frozen? ⟨w.heap.size, 4, none⟩ = false := by simp [World.frozen?, hgz]
          have z5 : wz.cell? ⟨w.heap.size, 5, none⟩ = some (.int .i64 0) := cellB hgz 5 _ rfl
          have f5 : wz.frozen? ⟨w.heap.size, 5, none⟩ = false := by simp [World.frozen?, hgz]
          have z6 : wz.cell? ⟨w.heap.size, 6, none⟩ = some (.int .i64 0) := cellB hgz 6 _ rfl
          have f6 : wz.frozen? ⟨w.heap.size, 6, none⟩ = false := by simp [World.frozen?, hgz]
          have z7 : wz.cell? ⟨w.heap.size, 7, none⟩ = some (.int .i64 0) := cellB hgz 7 _ rfl
          have f7 : wz.frozen? ⟨w.heap.size, 7, none⟩ = false := by simp [World.frozen?, hgz]
          have z8 : wz.cell? ⟨w.heap.size, 8, none⟩ = some (.int .i64 0) := cellB hgz 8 _ rfl
          have f8 : wz.frozen? ⟨w.heap.size, 8, none⟩ = false := by simp [World.frozen?, hgz]
          have z9 : wz.cell? ⟨w.heap.size, 9, none⟩ = some (.int .i64 0) := cellB hgz 9 _ rfl
          have f9 : wz.frozen? ⟨w.heap.size, 9, none⟩ = false := by simp [World.frozen?, hgz]
          have z10 : wz.cell? ⟨w.heap.size, 10, none⟩ = some (.int .i64 0) := cellB hgz 10 _ rfl
          have f10 : wz.frozen? ⟨w.heap.size, 10, none⟩ = false := by simp [World.frozen?, hgz]
          have z11 : wz.cell? ⟨w.heap.size, 11, none⟩ = some (.slice none 0 0) := cellB hgz 11 _ rfl
          have f11 : wz.frozen? ⟨w.heap.size, 11, none⟩ = false := by simp [World.frozen?, hgz]
          have z12 : wz.cell? ⟨w.heap.size, 12, none⟩ = some (.slice none 0 0) := cellB hgz 12 _ rfl
          have f12 : wz.frozen? ⟨w.heap.size, 12, none⟩ = false := by simp [World.frozen?, hgz]
          clear hbz
          go_wp2
          obtain ⟨W9, hW9, hb9, hk9, hB9⟩ := box13 wz w.heap.size 33 _ _ _ _ _ _ _ _ _ _ _ _ _ (.int .i64 0) (.int .i64 0) (.int .i64 0) (.int .i64 0) (.int .i64 0) (.int .i64 0) (.int .i64 0) (.int .i64 0) (.int .i64 0) (.int .i64 0) (.int .i64 0) (.slice none 0 0) (.slice none 0 0) hgz
          rw [hW9]
          have hF9 := hB9 _ _ (Nat.le_refl _) hFz
          clear hW9 hB9 z0 f0 z1 f1 z2 f2 z3 f3 z4 f4 z5 f5 z6 f6 z7 f7 z8 f8 z9 f9 z10 f10 z11 f11 z12 f12
          have z0 : W9.cell? ⟨w.heap.size, 0, none⟩ = some (.int .i64 0) := cellB hb9 0 _ rfl
          have z1 : W9.cell? ⟨w.heap.size, 1, none⟩ = some (.int .i64 0) := cellB hb9 1 _ rfl
          have z2 : W9.cell? ⟨w.heap.size, 2, none⟩ = some (.int .i64 0) := cellB hb9 2 _ rfl
          have z3 : W9.cell? ⟨w.heap.size, 3, none⟩ = some (.int .i64 0) := cellB hb9 3 _ rfl
          have z4 : W9.cell? ⟨w.heap.size, 4, none⟩ = some (.int .i64 0) := cellB hb9 4 _ rfl
          have z5 : W9.cell? ⟨w.heap.size, 5, none⟩ = some (.int .i64 0) := cellB hb9 5 _ rfl
          have z6 : W9.cell? ⟨w.heap.size, 6, none⟩ = some (.int .i64 0) := cellB hb9 6 _ rfl
          have z7 : W9.cell? ⟨w.heap.size, 7, none⟩ = some (.int .i64 0) := cellB hb9 7 _ rfl
          have z8 : W9.cell? ⟨w.heap.size, 8, none⟩ = some (.int .i64 0) := cellB hb9 8 _ rfl
          have z9 : W9.cell? ⟨w.heap.size, 9, none⟩ = some (.int .i64 0) := cellB hb9 9 _ rfl
          have z10 : W9.cell? ⟨w.heap.size, 10, none⟩ = some (.int .i64 0) := cellB hb9 10 _ rfl
          have z11 : W9.cell? ⟨w.heap.size, 11, none⟩ = some (.slice none 0 0) := cellB hb9 11 _ rfl
          have z12 : W9.cell? ⟨w.heap.size, 12, none⟩ = some (.slice none 0 0) := cellB hb9 12 _ rfl
          refine bodyPost_ret (v := .tuple #[rcV rc0 none 0 none 0, .int .i64 1]) (by simp [results, Tryz.results38, go_sem, rcV, rc0, z0, z1, z2, z3, z4, z5, z6, z7, z8, z9, z10, z11, z12]) rfl ?_
          exact ⟨hF9, Or.inl ⟨by rw [HN.out]; decide, by rw [HN.out]⟩⟩
        | range =>
          have hA := parseI_bad x wr hxs (by intro v; rw [ha]; intro e; cases e) hLr
          clear hnx ha hnum hxm hown
          go_wp2_with fail
          refine hA.mono ?_
          rintro e wb ⟨v, te, pe, rfl, hba⟩
          have hgb := blkB hg2 hba
          have hBb := hFr.trans (hba.mono hFr.size)
          clear hA hba
          go_wp2_with fail
          refine (bad_any 1 wb).mono ?_
          rintro e wz ⟨rfl, hbz⟩
          have hgz := blkB hgb hbz
          have hFz := (hBb).trans (hbz.mono (hBb).size)
          simp only [rcV, rc0, List.length_nil]
          have z0 : wz.cell? ⟨w.heap.size, 0, none⟩ = some (.int .i64 0) := cellB hgz 0 _ rfl
          have f0 : wz.frozen? ⟨w.heap.size, 0, none⟩ = false := by simp [World.frozen?, hgz]
          have z1 : wz.cell? ⟨w.heap.size, 1, none⟩ = some (.int .i64 0) := cellB hgz 1 _ rfl
          have f1 : wz.frozen? ⟨w.heap.size, 1, none⟩ = false := by simp [World.frozen?, hgz]
          have z2 : wz.cell? ⟨w.heap.size, 2, none⟩ = some (.int .i64 0) := cellB hgz 2 _ rfl
          have f2 : wz.frozen? ⟨w.heap.size, 2, none⟩ = false := by simp [World.frozen?, hgz]
          have z3 : wz.cell? ⟨w.heap.size, 3, none⟩ = some (.int .i64 0) := cellB hgz 3 _ rfl
          have f3 : wz.frozen? ⟨w.heap.size, 3, none⟩ = false := by simp [World.frozen?, hgz]
          have z4 : wz.cell? ⟨w.heap.size, 4, none⟩ = some (.int .i64 0) := cellB hgz 4 _ rfl
          have f4 : wz.frozen? ⟨w.heap.size, 4, none⟩ = false := by simp [World.frozen?, hgz]
          have z5 : wz.cell? ⟨w.heap.size, 5, none⟩ = some (.int .i64 0) := cellB hgz 5 _ rfl
          have f5 : wz.frozen? ⟨w.heap.size, 5, none⟩ = false := by simp [World.frozen?, hgz]
          have z6 : wz.cell? ⟨w.heap.size, 6, none⟩ = some (.int .i64 0) := cellB hgz 6 _ rfl
          have f6 : wz.frozen? ⟨w.heap.size, 6, none⟩ = false := by simp [World.frozen?, hgz]
          have z7 : wz.cell? ⟨w.heap.size, 7, none⟩ = some (.int .i64 0) := cellB hgz 7 _ rfl
          have f7 : wz.frozen? ⟨w.heap.size, 7, none⟩ = false := by simp [World.frozen?, hgz]
          have z8 : wz.cell? ⟨w.heap.size, 8, none⟩ = some (.int .i64 0) := cellB hgz 8 _ rfl
          have f8 : wz.frozen? ⟨w.heap.size, 8, none⟩ = false := by simp [World.frozen?, hgz]
          have z9 : wz.cell? ⟨w.heap.size, 9, none⟩ = some (.int .i64 0) := cellB hgz 9 _ rfl
          have f9 : wz.frozen? ⟨w.heap.size, 9, none⟩ = false := by simp [World.frozen?, hgz]
          have z10 : wz.cell? ⟨w.heap.size, 10, none⟩ = some (.int .i64 0) := cellB hgz 10 _ rfl
          have f10 : wz.frozen? ⟨w.heap.size, 10, none⟩ = false := by simp [World.frozen?, hgz]
          have z11 : wz.cell? ⟨w.heap.size, 11, none⟩ = some (.slice none 0 0) := cellB hgz 11 _ rfl
          have f11 : wz.frozen? ⟨w.heap.size, 11, none⟩ = false := by simp [World.frozen?, hgz]
          have z12 : wz.cell? ⟨w.heap.size, 12, none⟩ = some (.slice none 0 0) := cellB hgz 12 _ rfl
          have f12 : wz.frozen? ⟨w.heap.size, 12, none⟩ = false := by simp [World.frozen?, hgz]
          clear hbz
          go_wp2
          obtain ⟨W9, hW9, hb9, hk9, hB9⟩ := box13 wz w.heap.size 33 _ _ _ _ _ _ _ _ _ _ _ _ _ (.int .i64 0) (.int .i64 0) (.int .i64 0) (.int .i64 0) (.int .i64 0) (.int .i64 0) (.int .i64 0) (.int .i64 0) (.int .i64 0) (.int .i64 0) (.int .i64 0) (.slice none 0 0) (.slice none 0 0) hgz
          rw [hW9]
          have hF9 := hB9 _ _ (Nat.le_refl _) hFz
          clear hW9 hB9 z0 f0 z1 f1 z2 f2 z3 f3 z4 f4 z5 f5 z6 f6 z7 f7 z8 f8 z9 f9 z10 f10 z11 f11 z12 f12
          have z0 : W9.cell? ⟨w.heap.size, 0, none⟩ = some (.int .i64 0) := cellB hb9 0 _ rfl
          have z1 : W9.cell? ⟨w.heap.size, 1, none⟩ = some (.int .i64 0) := cellB hb9 1 _ rfl
          have z2 : W9.cell? ⟨w.heap.size, 2, none⟩ = some (.int .i64 0) := cellB hb9 2 _ rfl
          have z3 : W9.cell? ⟨w.heap.size, 3, none⟩ = some (.int .i64 0) := cellB hb9 3 _ rfl
          have z4 : W9.cell? ⟨w.heap.size, 4, none⟩ = some (.int .i64 0) := cellB hb9 4 _ rfl
          have z5 : W9.cell? ⟨w.heap.size, 5, none⟩ = some (.int .i64 0) := cellB hb9 5 _ rfl
          have z6 : W9.cell? ⟨w.heap.size, 6, none⟩ = some (.int .i64 0) := cellB hb9 6 _ rfl
          have z7 : W9.cell? ⟨w.heap.size, 7, none⟩ = some (.int .i64 0) := cellB hb9 7 _ rfl
          have z8 : W9.cell? ⟨w.heap.size, 8, none⟩ = some (.int .i64 0) := cellB hb9 8 _ rfl
          have z9 : W9.cell? ⟨w.heap.size, 9, none⟩ = some (.int .i64 0) := cellB hb9 9 _ rfl
          have z10 : W9.cell? ⟨w.heap.size, 10, none⟩ = some (.int .i64 0) := cellB hb9 10 _ rfl
          have z11 : W9.cell? ⟨w.heap.size, 11, none⟩ = some (.slice none 0 0) := cellB hb9 11 _ rfl
          have z12 : W9.cell? ⟨w.heap.size, 12, none⟩ = some (.slice none 0 0) := cellB hb9 12 _ rfl
          refine bodyPost_ret (v := .tuple #[rcV rc0 none 0 none 0, .int .i64 1]) (by simp [results, Tryz.results38, go_sem, rcV, rc0, z0, z1, z2, z3, z4, z5, z6, z7, z8, z9, z10, z11, z12]) rfl ?_
          exact ⟨hF9, Or.inl ⟨by rw [HN.out]; decide, by rw [HN.out]⟩⟩
      | some v =>
        obtain ⟨hix, hI64⟩ := numW_back hnx
        have ha : Lib.atoiAll x.data.toList = .ok v := by rw [← hix]; exact atoi_itoa v hI64.1 hI64.2
        have hA := parseI_good x wr v hxs ha
        have hcmp : ((⟨(Lib.itoa v).toArray⟩ : ByteArray).toList == x.toList) = true := by
          rw [strEq]
          exact decide_eq_true (by simpa using hix)
        have hnum2 := numsW_next hnum hxm v hnx
        clear hnx ha hxm hix
        go_wp2_with fail
        refine hA.mono ?_
        rintro e wa ⟨rfl, hba⟩
        have hFm := format_any v wa hI64 (hLr.below hba)
        clear hA
        generalize (⟨(Lib.itoa v).toArray⟩ : ByteArray) = A2 at hcmp hFm
        go_wp2_with fail
        refine hFm.mono ?_
        rintro e wb ⟨rfl, hbb⟩
        have hbu := hba.trans (hbb.mono hba.size)
        have hB1 := hbr.trans (hbu.mono hbr.size)
        have hownb := ownB hown hbu
        have hcmp2 : A2.toList = x.toList := by simpa using hcmp
        have hsz := hB1.size
        clear hFm hba hbb hbu hLr hFr hlr hg2 hbr hown hI
        go_wp2_with (first | (at_builtin; refine wpList_append_own _ rfl _ _ 75 rfl W1.heap.size 3 i0 (.int .i64 0) 1 8 Tryz.underlying75 hii hz0 hz1 hz2 rfl (by decide) _ _ _ rfl (hownb.alloc _) ⟨wb.heap.size, 0, none⟩ 1 1 [.int .i64 v] rfl rfl ?c1 ?c2 ?c3 ?c4 ?c5 ?_) | fail)
        case c1 =>
          intro j u hj
          match j, hj with
          | 0, hj => simp at hj; subst hj; simp [Addr.add]
        case c2 => intro u hu; simp at hu; subst hu; rfl
        case c3 => unfold maxLen; omega
        case c4 => omega
        case c5 => simp; omega
        intro v' w4 hown' hgrow _
        have hB4 : Below W1.heap.size W1 w4 := (hB1.alloc hB1.size _).grown hgrow (by simp; omega) (fun g hg' => (hownb.lt g hg').1)
        have R : Shut (RrInv w W1 w4 v' ws (q + 1)) := ⟨l ++ [v], hnum2, by rw [ns, List.map_append]; exact hown', blkB hg1 hB4, hlw.below hB4 (Nat.le_refl _), hB4⟩
        clear hown' hgrow hownb hB1 hB4 hnum hnum2 cx hsz
        go_wp2
        go_roundw
        case rel => exact ⟨q + 1, by omega, by go_num, R⟩
        case measure => simp [intOf]; omega
    · obtain rfl : q = 11 := by omega
      rw [show ((11 : Nat) : Int) = 11 from rfl]
      obtain ⟨l, hnum, hown, hg2, hlr, hbr⟩ := hI.out
      have hll : l.length = 11 := by rw [numsW_len hnum, List.length_take, List.length_map, hl2]; rfl
      obtain ⟨np, ncp, rfl, hnl, hn0⟩ := own_lies hown
      clear hn0 hI hown
      obtain ⟨wn, hwn⟩ : ∃ wn, wn = wr := ⟨_, rfl⟩
      subst hwn
      have hFr := hF1.trans (hbr.mono hF1.size)
      have HNL := Shut.mk hnum
      clear hnum
      go_upto_region 15 with fail
      generalize hW2 : wn.alloc (.cells #[.slice none 0 0, .slice none 0 0] 102) = W2
      have hb2 : Below wn.heap.size wn W2 := by rw [← hW2]; exact (Below.refl _ _).alloc (Nat.le_refl _) _
      have ha2 : W2.heap[wn.heap.size]? = some (.cells #[.slice none 0 0, .slice none 0 0] 102 (0, 0)) := by rw [← hW2, heap_alloc_eq, if_pos rfl]
      have hgw : w.heap.size < wn.heap.size := (Array.getElem?_eq_some_iff.1 hg2).1
      have H2 : Shut (BArr wn W2 ws 0) := ⟨#[.slice none 0 0, .slice none 0 0], ha2, rfl, fun i _ hi => by match i, hi with | 0, _ => rfl | 1, _ => rfl, fun i x hi => absurd hi (by omega), hb2⟩
      clear hW2 hb2 ha2 hbr
      go_wp2_with fail
      go_loopw [60] (fun m wx => ∃ q : Nat, q ≤ 2 ∧ m = .int .i64 q ∧ Shut (BArr wn wx ws q)) (fun m _ => 2 - (intOf m).toNat)
      case atStart => exact ⟨0, Nat.zero_le _, rfl, H2⟩
      case round =>
        clear H2
        obtain ⟨wx, hwx⟩ : ∃ wx, wx = wr := ⟨_, rfl⟩
        subst hwx
        obtain ⟨q, hq, rfl, hI⟩ := hrel
        by_cases hlt : q < 2
        · obtain ⟨R, har, hR2, hRn, hRs, hbx⟩ := hI.out
          obtain ⟨x, hx⟩ : ∃ x, ws[11 + q]? = some x := ⟨ws[11 + q], List.getElem?_eq_getElem (by omega)⟩
          have hxs := hshort x (List.mem_of_getElem? hx)
          have cx : wx.cell? ⟨w.heap.size + 1, 11 + q, none⟩ = some (.string x) := by
            have := (hlr.below hbx (Nat.le_refl _)).at (k := 11 + q) (u := .string x) (by rw [List.getElem?_map, hx]; rfl)
            simpa using this
          have hFx := hFr.trans (hbx.mono hFr.size)
          have hgx := blkB hg2 hbx
          have HXW : Shut ((wordsL s.data.toList).getD (11 + q) [] = x.data.toList) := ⟨by rw [← HWS.out, List.getD_eq_getElem?_getD, List.getElem?_map, hx]; rfl⟩
          have hqa : R[q]? = some (.slice none 0 0) := hRn q (Nat.le_refl _) hlt
          have hwx : wn.heap.size < wx.heap.size := (Array.getElem?_eq_some_iff.1 har).1
          by_cases hev : x.size % 2 = 0
          · have hev2 : (x.size : Int) % 2 = 0 := by omega
            have HN : Shut (pCode s.data.toList = 1) := ⟨pCode_none hsl (readL_bytes hlt (by rw [HXW.out]; exact byW_even (by rw [sizeB]; exact hev)))⟩
            clear hI hqa har hRn hRs hbx hnl hlr
            go_wp2_with fail
            refine (bad_any 1 wx).mono ?_
            rintro e wz ⟨rfl, hbz⟩
            have hgz := blkB hgx hbz
            have hFz := (hFx).trans (hbz.mono (hFx).size)
            simp only [rcV, rc0, List.length_nil]
            have z0 : wz.cell? ⟨w.heap.size, 0, none⟩ = some (.int .i64 0) := cellB hgz 0 _ rfl
            have f0 : wz.frozen? ⟨w.heap.size, 0, none⟩ = false := by simp [World.frozen?, hgz]
            have z1 : wz.cell? ⟨w.heap.size, 1, none⟩ = some (.int .i64 0) := cellB hgz 1 _ rfl
            have f1 : wz.frozen? ⟨w.heap.size, 1, none⟩ = false := by simp [World.frozen?, hgz]
            have z2 : wz.cell? ⟨w.heap.size, 2, none⟩ = some (.int .i64 0) := cellB hgz 2 _ rfl
            have f2 : wz.frozen? ⟨w.heap.size, 2, none⟩ = false := by simp [World.frozen?, hgz]
            have z3 : wz.cell? ⟨w.heap.size, 3, none⟩ = some (.int .i64 0) := cellB hgz 3 _ rfl
            have f3 : wz.frozen? ⟨w.heap.size, 3, none⟩ = false := by simp [World.frozen?, hgz]
            have z4 : wz.cell? ⟨w.heap.size, 4, none⟩ = some (.int .i64 0) := cellB hgz 4 _ rfl
            have f4 : wz.frozen? ⟨w.heap.size, 4, none⟩ = false := by simp [World.frozen?, hgz]
            have z5 : wz.cell? ⟨w.heap.size, 5, none⟩ = some (.int .i64 0) := cellB hgz 5 _ rfl
            have f5 : wz.frozen? ⟨w.heap.size, 5, none⟩ = false := by simp [World.frozen?, hgz]
            have z6 : wz.cell? ⟨w.heap.size, 6, none⟩ = some (.int .i64 0) := cellB hgz 6 _ rfl
            have f6 : wz.frozen? ⟨w.heap.size, 6, none⟩ = false := by simp [World.frozen?, hgz]
            have z7 : wz.cell? ⟨w.heap.size, 7, none⟩ = some (.int .i64 0) := cellB hgz 7 _ rfl
            have f7 : wz.frozen? ⟨w.heap.size, 7, none⟩ = false := by simp [World.frozen?, hgz]
            have z8 : wz.cell? ⟨w.heap.size, 8, none⟩ = some (.int .i64 0) := cellB hgz 8 _ rfl
            have f8 : wz.frozen? ⟨w.heap.size, 8, none⟩ = false := by simp [World.frozen?, hgz]
            have z9 : wz.cell? ⟨w.heap.size, 9, none⟩ = some (.int .i64 0) := cellB hgz 9 _ rfl
            have f9 : wz.frozen? ⟨w.heap.size, 9, none⟩ = false := by simp [World.frozen?, hgz]
            have z10 : wz.cell? ⟨w.heap.size, 10, none⟩ = some (.int .i64 0) := cellB hgz 10 _ rfl
            have f10 : wz.frozen? ⟨w.heap.size, 10, none⟩ = false := by simp [World.frozen?, hgz]
            have z11 : wz.cell? ⟨w.heap.size, 11, none⟩ = some (.slice none 0 0) := cellB hgz 11 _ rfl
            have f11 : wz.frozen? ⟨w.heap.size, 11, none⟩ = false := by simp [World.frozen?, hgz]
            have z12 : wz.cell? ⟨w.heap.size, 12, none⟩ = some (.slice none 0 0) := cellB hgz 12 _ rfl
            have f12 : wz.frozen? ⟨w.heap.size, 12, none⟩ = false := by simp [World.frozen?, hgz]
            clear hbz
            go_wp2
            obtain ⟨W9, hW9, hb9, hk9, hB9⟩ := box13 wz w.heap.size 33 _ _ _ _ _ _ _ _ _ _ _ _ _ (.int .i64 0) (.int .i64 0) (.int .i64 0) (.int .i64 0) (.int .i64 0) (.int .i64 0) (.int .i64 0) (.int .i64 0) (.int .i64 0) (.int .i64 0) (.int .i64 0) (.slice none 0 0) (.slice none 0 0) hgz
            rw [hW9]
            have hF9 := hB9 _ _ (Nat.le_refl _) hFz
            clear hW9 hB9 z0 f0 z1 f1 z2 f2 z3 f3 z4 f4 z5 f5 z6 f6 z7 f7 z8 f8 z9 f9 z10 f10 z11 f11 z12 f12
            have z0 : W9.cell? ⟨w.heap.size, 0, none⟩ = some (.int .i64 0) := cellB hb9 0 _ rfl
            have z1 : W9.cell? ⟨w.heap.size, 1, none⟩ = some (.int .i64 0) := cellB hb9 1 _ rfl
            have z2 : W9.cell? ⟨w.heap.size, 2, none⟩ = some (.int .i64 0) := cellB hb9 2 _ rfl
            have z3 : W9.cell? ⟨w.heap.size, 3, none⟩ = some (.int .i64 0) := cellB hb9 3 _ rfl
            have z4 : W9.cell? ⟨w.heap.size, 4, none⟩ = some (.int .i64 0) := cellB hb9 4 _ rfl
            have z5 : W9.cell? ⟨w.heap.size, 5, none⟩ = some (.int .i64 0) := cellB hb9 5 _ rfl
            have z6 : W9.cell? ⟨w.heap.size, 6, none⟩ = some (.int .i64 0) := cellB hb9 6 _ rfl
            have z7 : W9.cell? ⟨w.heap.size, 7, none⟩ = some (.int .i64 0) := cellB hb9 7 _ rfl
            have z8 : W9.cell? ⟨w.heap.size, 8, none⟩ = some (.int .i64 0) := cellB hb9 8 _ rfl
            have z9 : W9.cell? ⟨w.heap.size, 9, none⟩ = some (.int .i64 0) := cellB hb9 9 _ rfl
            have z10 : W9.cell? ⟨w.heap.size, 10, none⟩ = some (.int .i64 0) := cellB hb9 10 _ rfl
            have z11 : W9.cell? ⟨w.heap.size, 11, none⟩ = some (.slice none 0 0) := cellB hb9 11 _ rfl
            have z12 : W9.cell? ⟨w.heap.size, 12, none⟩ = some (.slice none 0 0) := cellB hb9 12 _ rfl
            refine bodyPost_ret (v := .tuple #[rcV rc0 none 0 none 0, .int .i64 1]) (by simp [results, Tryz.results38, go_sem, rcV, rc0, z0, z1, z2, z3, z4, z5, z6, z7, z8, z9, z10, z11, z12]) rfl ?_
            exact ⟨hF9, Or.inl ⟨by rw [HN.out]; decide, by rw [HN.out]⟩⟩
          · have hev2 : (x.size : Int) % 2 = 1 := by omega
            have hx0 : 0 < x.size := by omega
            cases hxl : x.data.toList with
            | nil => rw [← sizeB, hxl] at hx0; simp at hx0
            | cons c r =>
            have hc0 : x[0] = c := by rw [getB x 0 hx0]; simp [hxl]
            have hrl : r.length + 1 = x.size := by rw [← sizeB, hxl, List.length_cons]
            by_cases hc : c = 45
            · subst hc
              have b0 : ((x[0].toNat : Int) != 45) = false := by rw [hc0]; rfl
              have K0 : Shut (BIn wn wx wx R q r 0) := ⟨BIn.start r har hqa hbx⟩
              have HX2 := Shut.mk (And.intro hRn (And.intro hRs (And.intro hx hxl)))
              clear hqa har hI hRn hRs hbx hx hxl
              go_wp2_with fail
              have dq : decide ((q : Int) < 2) = true := decide_eq_true (by omega)
              rw [dq, hev2]
              go_loopw [14] (fun v wy => ∃ j : Nat, v = .int .i64 ((1 + 2 * j : Nat) : Int) ∧ 1 + 2 * j ≤ x.size ∧ Shut (BIn wn wx wy R q r j)) (fun v _ => x.size - (intOf v).toNat)
              case atStart => exact ⟨0, rfl, by omega, K0⟩
              case round =>
                clear K0
                obtain ⟨wy, hwy⟩ : ∃ wy, wy = wr := ⟨_, rfl⟩
                subst hwy
                obtain ⟨j, rfl, hj, hJ⟩ := hrel
                obtain ⟨k, hk⟩ : ∃ k, 1 + 2 * j = k := ⟨_, rfl⟩
                rw [hk] at hj ⊢
                have HK := Shut.mk hk
                clear hk
                by_cases hk1 : k < x.size
                · obtain ⟨k2, hk2e⟩ : ∃ k2, k2 = k + 1 := ⟨_, rfl⟩
                  have hkc : (k : Int) + 1 = (k2 : Int) := by omega
                  have hk2 : k2 < x.size := by have := HK.out; omega
                  have HK2 := Shut.mk hk2e
                  clear hk2e
                  obtain ⟨v, a, ha, hav, hown, hun, hby, hsy, hky⟩ := hJ.out
                  have hxl := HX2.out.2.2.2
                  have e1 : x[k] = r[2 * j]'(by have := HK.out; omega) := by
                    rw [getB x k hk1, List.getElem_of_eq hxl]
                    have hkj : k = 2 * j + 1 := by have := HK.out; omega
                    subst hkj
                    rfl
                  have e2 : x[k2] = r[2 * j + 1]'(by have := HK.out; omega) := by
                    rw [getB x k2 hk2, List.getElem_of_eq hxl]
                    have hkj : k2 = 2 * j + 1 + 1 := by have := HK.out; have := HK2.out; omega
                    subst hkj
                    rfl
                  rw [drop_two (ds := r) (q := j) (by have := HK.out; omega), ← e1, ← e2, unhex] at hun
                  have HU := Shut.mk hun
                  have HBW : Shut (byW x.data.toList = unhex r) := ⟨by rw [hxl]; rfl⟩
                  have hFy := hFr.trans (hby.mono hFr.size)
                  have hgy := blkB hg2 hby
                  have HY := Shut.mk (And.intro ha (And.intro hav (And.intro hown (And.intro hby (And.intro hsy hky)))))
                  have hNo : unhex r = none → pCode s.data.toList = 1 := fun h => pCode_none hsl (readL_bytes hlt (by rw [HXW.out, HBW.out, h]))
                  have HNo := Shut.mk hNo
                  clear hun hJ hxl ha hav hown hby hsy hky e1 e2 hNo
                  obtain ⟨z1, hz1⟩ : ∃ z, digI x[k] = z := ⟨_, rfl⟩
                  obtain ⟨z2, hz2⟩ : ∃ z, digI x[k2] = z := ⟨_, rfl⟩
                  have i1 := fun W => digIndexQ (x[k]) z1 hz1 W
                  have i2 := fun W => digIndexQ (x[k2]) z2 hz2 W
                  have a1 := digI_all (x[k])
                  have a2 := digI_all (x[k2])
                  rw [hz1, hz2] at HU
                  simp only [hz1] at a1
                  simp only [hz2] at a2
                  clear hz1 hz2
                  go_upto_region 23 with fail
                  go_quiet ((go_at_call 60; first | exact Calls.quiet_of_same (i1 _) | exact Calls.quiet_of_same (i2 _)))
                  have hbd := bdn wy nq wy.heap.size
                  have hgd := blkB hgy hbd
                  have hFd := hFy.trans (hbd.mono hFy.size)
                  clear hgy hFy i1 i2
                  generalize wy.drewN nq = wd at *
                  rcases a1 with rfl | ⟨m1, m2, _⟩
                  · have HN : Shut (pCode s.data.toList = 1) := ⟨HNo.out (by rw [HU.out, if_pos (Or.inl (by omega))]; rfl)⟩
                    go_wp2_with fail
                    refine (bad_any 1 wd).mono ?_
                    rintro e wz ⟨rfl, hbz⟩
                    have hgz := blkB hgd hbz
                    have hFz := (hFd).trans (hbz.mono (hFd).size)
                    simp only [rcV, rc0, List.length_nil]
                    have z0 : wz.cell? ⟨w.heap.size, 0, none⟩ = some (.int .i64 0) := cellB hgz 0 _ rfl
                    have f0 : wz.frozen? ⟨w.heap.size, 0, none⟩ = false := by simp [World.frozen?, hgz]
                    have z1 : wz.cell? ⟨w.heap.size, 1, none⟩ = some (.int .i64 0) := cellB hgz 1 _ rfl
                    have f1 : wz.frozen? ⟨w.heap.size, 1, none⟩ = false := by simp [World.frozen?, hgz]
                    have z2 : wz.cell? ⟨w.heap.size, 2, none⟩ = some (.int .i64 0) := cellB hgz 2 _ rfl
                    have f2 : wz.frozen? ⟨w.heap.size, 2, none⟩ = false := by simp [World.frozen?, hgz]
                    have z3 : wz.cell? ⟨w.heap.size, 3, none⟩ = some (.int .i64 0) := cellB hgz 3 _ rfl
                    have f3 : wz.frozen? ⟨w.heap.size, 3, none⟩ = false := by simp [World.frozen?, hgz]
                    have z4 : wz.cell? ⟨w.heap.size, 4, none⟩ = some (.int .i64 0) := cellB hgz 4 _ rfl
                    have f4 : wz.frozen? ⟨w.heap.size, 4, none⟩ = false := by simp [World.frozen?, hgz]
                    have z5 : wz.cell? ⟨w.heap.size, 5, none⟩ = some (.int .i64 0) := cellB hgz 5 _ rfl
                    have f5 : wz.frozen? ⟨w.heap.size, 5, none⟩ = false := by simp [World.frozen?, hgz]
                    have z6 : wz.cell? ⟨w.heap.size, 6, none⟩ = some (.int .i64 0) := cellB hgz 6 _ rfl
                    have f6 : wz.frozen? ⟨w.heap.size, 6, none⟩ = false := by simp [World.frozen?, hgz]
                    have z7 : wz.cell? ⟨w.heap.size, 7, none⟩ = some (.int .i64 0) := cellB hgz 7 _ rfl
                    have f7 : wz.frozen? ⟨w.heap.size, 7, none⟩ = false := by simp [World.frozen?, hgz]
                    have z8 : wz.cell? ⟨w.heap.size, 8, none⟩ = some (.int .i64 0) := cellB hgz 8 _ rfl
                    have f8 : wz.frozen? ⟨w.heap.size, 8, none⟩ = false := by simp [World.frozen?, hgz]
                    have z9 : wz.cell? ⟨w.heap.size, 9, none⟩ = some (.int .i64 0) := cellB hgz 9 _ rfl
                    have f9 : wz.frozen? ⟨w.heap.size, 9, none⟩ = false := by simp [World.frozen?, hgz]
                    have z10 : wz.cell? ⟨w.heap.size, 10, none⟩ = some (.int .i64 0) := cellB hgz 10 _ rfl
                    have f10 : wz.frozen? ⟨w.heap.size, 10, none⟩ = false := by simp [World.frozen?, hgz]
                    have z11 : wz.cell? ⟨w.heap.size, 11, none⟩ = some (.slice none 0 0) := cellB hgz 11 _ rfl
                    have f11 : wz.frozen? ⟨w.heap.size, 11, none⟩ = false := by simp [World.frozen?, hgz]
                    have z12 : wz.cell? ⟨w.heap.size, 12, none⟩ = some (.slice none 0 0) := cellB hgz 12 _ rfl
                    have f12 : wz.frozen? ⟨w.heap.size, 12, none⟩ = false := by simp [World.frozen?, hgz]
                    clear hbz
                    go_wp2
                    obtain ⟨W9, hW9, hb9, hk9, hB9⟩ := box13 wz w.heap.size 33 _ _ _ _ _ _ _ _ _ _ _ _ _ (.int .i64 0) (.int .i64 0) (.int .i64 0) (.int .i64 0) (.int .i64 0) (.int .i64 0) (.int .i64 0) (.int .i64 0) (.int .i64 0) (.int .i64 0) (.int .i64 0) (.slice none 0 0) (.slice none 0 0) hgz
                    rw [hW9]
                    have hF9 := hB9 _ _ (Nat.le_refl _) hFz
                    clear hW9 hB9 z0 f0 z1 f1 z2 f2 z3 f3 z4 f4 z5 f5 z6 f6 z7 f7 z8 f8 z9 f9 z10 f10 z11 f11 z12 f12
                    have z0 : W9.cell? ⟨w.heap.size, 0, none⟩ = some (.int .i64 0) := cellB hb9 0 _ rfl
                    have z1 : W9.cell? ⟨w.heap.size, 1, none⟩ = some (.int .i64 0) := cellB hb9 1 _ rfl
                    have z2 : W9.cell? ⟨w.heap.size, 2, none⟩ = some (.int .i64 0) := cellB hb9 2 _ rfl
                    have z3 : W9.cell? ⟨w.heap.size, 3, none⟩ = some (.int .i64 0) := cellB hb9 3 _ rfl
                    have z4 : W9.cell? ⟨w.heap.size, 4, none⟩ = some (.int .i64 0) := cellB hb9 4 _ rfl
                    have z5 : W9.cell? ⟨w.heap.size, 5, none⟩ = some (.int .i64 0) := cellB hb9 5 _ rfl
                    have z6 : W9.cell? ⟨w.heap.size, 6, none⟩ = some (.int .i64 0) := cellB hb9 6 _ rfl
                    have z7 : W9.cell? ⟨w.heap.size, 7, none⟩ = some (.int .i64 0) := cellB hb9 7 _ rfl
                    have z8 : W9.cell? ⟨w.heap.size, 8, none⟩ = some (.int .i64 0) := cellB hb9 8 _ rfl
                    have z9 : W9.cell? ⟨w.heap.size, 9, none⟩ = some (.int .i64 0) := cellB hb9 9 _ rfl
                    have z10 : W9.cell? ⟨w.heap.size, 10, none⟩ = some (.int .i64 0) := cellB hb9 10 _ rfl
                    have z11 : W9.cell? ⟨w.heap.size, 11, none⟩ = some (.slice none 0 0) := cellB hb9 11 _ rfl
                    have z12 : W9.cell? ⟨w.heap.size, 12, none⟩ = some (.slice none 0 0) := cellB hb9 12 _ rfl
                    refine bodyPost_ret (v := .tuple #[rcV rc0 none 0 none 0, .int .i64 1]) (by simp [results, Tryz.results38, go_sem, rcV, rc0, z0, z1, z2, z3, z4, z5, z6, z7, z8, z9, z10, z11, z12]) rfl ?_
                    exact ⟨hF9, Or.inl ⟨by rw [HN.out]; decide, by rw [HN.out]⟩⟩
                  · rcases a2 with rfl | ⟨n1, n2, _⟩
                    · have HN : Shut (pCode s.data.toList = 1) := ⟨HNo.out (by rw [HU.out, if_pos (Or.inr (by omega))]; rfl)⟩
                      have b1 : ¬ z1 < 0 := by omega
                      go_wp2_with fail
                      refine (bad_any 1 wd).mono ?_
                      rintro e wz ⟨rfl, hbz⟩
                      have hgz := blkB hgd hbz
                      have hFz := (hFd).trans (hbz.mono (hFd).size)
                      simp only [rcV, rc0, List.length_nil]
                      have z0 : wz.cell? ⟨w.heap.size, 0, none⟩ = some (.int .i64 0) := cellB hgz 0 _ rfl
                      have f0 : wz.frozen? ⟨w.heap.size, 0, none⟩ = false := by simp [World.frozen?, hgz]
                      have z1 : wz.cell? ⟨w.heap.size, 1, none⟩ = some (.int .i64 0) := cellB hgz 1 _ rfl
                      have f1 : wz.frozen? ⟨w.heap.size, 1, none⟩ = false := by simp [World.frozen?, hgz]
                      have z2 : wz.cell? ⟨w.heap.size, 2, none⟩ = some (.int .i64 0) := cellB hgz 2 _ rfl
                      have f2 : wz.frozen? ⟨w.heap.size, 2, none⟩ = false := by simp [World.frozen?, hgz]
                      have z3 : wz.cell? ⟨w.heap.size, 3, none⟩ = some (.int .i64 0) := cellB hgz 3 _ rfl
                      have f3 : wz.frozen? ⟨w.heap.size, 3, none⟩ = false := by simp [World.frozen?, hgz]
                      have z4 : wz.cell? ⟨w.heap.size, 4, none⟩ = some (.int .i64 0) := cellB hgz 4 _ rfl
                      have f4 : wz.frozen? ⟨w.heap.size, 4, none⟩ = false := by simp [World.frozen?, hgz]
                      have z5 : wz.cell? ⟨w.heap.size, 5, none⟩ = some (.int .i64 0) := cellB hgz 5 _ rfl
                      have f5 : wz.frozen? ⟨w.heap.size, 5, none⟩ = false := by simp [World.frozen?, hgz]
                      have z6 : wz.cell? ⟨w.heap.size, 6, none⟩ = some (.int .i64 0) := cellB hgz 6 _ rfl
                      have f6 : wz.frozen? ⟨w.heap.size, 6, none⟩ = false := by simp [World.frozen?, hgz]
                      have z7 : wz.cell? ⟨w.heap.size, 7, none⟩ = some (.int .i64 0) := cellB hgz 7 _ rfl
                      have f7 : wz.frozen? ⟨w.heap.size, 7, none⟩ = false := by simp [World.frozen?, hgz]
                      have z8 : wz.cell? ⟨w.heap.size, 8, none⟩ = some (.int .i64 0) := cellB hgz 8 _ rfl
                      have f8 : wz.frozen? ⟨w.heap.size, 8, none⟩ = false := by simp [World.frozen?, hgz]
                      have z9 : wz.cell? ⟨w.heap.size, 9, none⟩ = some (.int .i64 0) := cellB hgz 9 _ rfl
                      have f9 : wz.frozen? ⟨w.heap.size, 9, none⟩ = false := by simp [World.frozen?, hgz]
                      have z10 : wz.cell? ⟨w.heap.size, 10, none⟩ = some (.int .i64 0) := cellB hgz 10 _ rfl
                      have f10 : wz.frozen? ⟨w.heap.size, 10, none⟩ = false := by simp [World.frozen?, hgz]
                      have z11 : wz.cell? ⟨w.heap.size, 11, none⟩ = some (.slice none 0 0) := cellB hgz 11 _ rfl
                      have f11 : wz.frozen? ⟨w.heap.size, 11, none⟩ = false := by simp [World.frozen?, hgz]
                      have z12 : wz.cell? ⟨w.heap.size, 12, none⟩ = some (.slice none 0 0) := cellB hgz 12 _ rfl
                      have f12 : wz.frozen? ⟨w.heap.size, 12, none⟩ = false := by simp [World.frozen?, hgz]
                      clear hbz
                      go_wp2
                      obtain ⟨W9, hW9, hb9, hk9, hB9⟩ := box13 wz w.heap.size 33 _ _ _ _ _ _ _ _ _ _ _ _ _ (.int .i64 0) (.int .i64 0) (.int .i64 0) (.int .i64 0) (.int .i64 0) (.int .i64 0) (.int .i64 0) (.int .i64 0) (.int .i64 0) (.int .i64 0) (.int .i64 0) (.slice none 0 0) (.slice none 0 0) hgz
                      rw [hW9]
                      have hF9 := hB9 _ _ (Nat.le_refl _) hFz
                      clear hW9 hB9 z0 f0 z1 f1 z2 f2 z3 f3 z4 f4 z5 f5 z6 f6 z7 f7 z8 f8 z9 f9 z10 f10 z11 f11 z12 f12
                      have z0 : W9.cell? ⟨w.heap.size, 0, none⟩ = some (.int .i64 0) := cellB hb9 0 _ rfl
                      have z1 : W9.cell? ⟨w.heap.size, 1, none⟩ = some (.int .i64 0) := cellB hb9 1 _ rfl
                      have z2 : W9.cell? ⟨w.heap.size, 2, none⟩ = some (.int .i64 0) := cellB hb9 2 _ rfl
                      have z3 : W9.cell? ⟨w.heap.size, 3, none⟩ = some (.int .i64 0) := cellB hb9 3 _ rfl
                      have z4 : W9.cell? ⟨w.heap.size, 4, none⟩ = some (.int .i64 0) := cellB hb9 4 _ rfl
                      have z5 : W9.cell? ⟨w.heap.size, 5, none⟩ = some (.int .i64 0) := cellB hb9 5 _ rfl
                      have z6 : W9.cell? ⟨w.heap.size, 6, none⟩ = some (.int .i64 0) := cellB hb9 6 _ rfl
                      have z7 : W9.cell? ⟨w.heap.size, 7, none⟩ = some (.int .i64 0) := cellB hb9 7 _ rfl
                      have z8 : W9.cell? ⟨w.heap.size, 8, none⟩ = some (.int .i64 0) := cellB hb9 8 _ rfl
                      have z9 : W9.cell? ⟨w.heap.size, 9, none⟩ = some (.int .i64 0) := cellB hb9 9 _ rfl
                      have z10 : W9.cell? ⟨w.heap.size, 10, none⟩ = some (.int .i64 0) := cellB hb9 10 _ rfl
                      have z11 : W9.cell? ⟨w.heap.size, 11, none⟩ = some (.slice none 0 0) := cellB hb9 11 _ rfl
                      have z12 : W9.cell? ⟨w.heap.size, 12, none⟩ = some (.slice none 0 0) := cellB hb9 12 _ rfl
                      refine bodyPost_ret (v := .tuple #[rcV rc0 none 0 none 0, .int .i64 1]) (by simp [results, Tryz.results38, go_sem, rcV, rc0, z0, z1, z2, z3, z4, z5, z6, z7, z8, z9, z10, z11, z12]) rfl ?_
                      exact ⟨hF9, Or.inl ⟨by rw [HN.out]; decide, by rw [HN.out]⟩⟩
                    · have hun := HU.out
                      rw [if_neg (by omega)] at hun
                      have U := Shut.mk hun
                      clear hun HU HNo
                      obtain ⟨c1, rfl⟩ : ∃ c1 : Nat, z1 = c1 := ⟨z1.toNat, by omega⟩
                      obtain ⟨c2, rfl⟩ : ∃ c2 : Nat, z2 = c2 := ⟨z2.toNat, by omega⟩
                      have x1 : c1 < 16 := by omega
                      have y1 : c2 < 16 := by omega
                      clear m1 m2 n1 n2
                      obtain ⟨ha, hav, hown, hby, hsy, hky⟩ := HY.out
                      have hav5 := blkB hav hbd
                      have hown5 := ownB hown hbd
                      have hsz5 : wx.heap.size ≤ wd.heap.size := Nat.le_trans hsy hbd.size
                      have cv : wd.cell? ⟨wn.heap.size, q, none⟩ = some v := cellB hav5 q _ (by rw [Array.getElem?_setIfInBounds, if_pos rfl, if_pos (by omega)])
                      have HY2 := Shut.mk (And.intro ha (And.intro hav5 (And.intro (hby.trans (hbd.mono hby.size)) (fun (kk : Nat) (h1 : kk < wx.heap.size) (h2 : kk ≠ wn.heap.size) => (hbd.block kk (Nat.lt_of_lt_of_le h1 hsy)).trans (hky kk h1 h2)))))
                      clear ha hav hown hby hsy hky hav5 HY
                      go_wp2_with (first | (at_builtin; refine wpList_append_own _ rfl _ _ 22 rfl wx.heap.size 5 i8 (.int .u8 0) 1 1 Tryz.underlying22 hii8 hz80 hz81 hz82 rfl (by decide) _ _ _ rfl (hown5.alloc _) ⟨wd.heap.size, 0, none⟩ 1 1 [.int .u8 ((c1 : Int) * 16 + (c2 : Int))] rfl rfl ?c1 ?c2 ?c3 ?c4 ?c5 ?_) | fail)
                      case c1 =>
                        intro jj u hj
                        match jj, hj with
                        | 0, hj => simp at hj; subst hj; simp [Addr.add]
                      case c2 => intro u hu; simp at hu; subst hu; rfl
                      case c3 => unfold maxLen; have := HK.out; omega
                      case c4 => have := HK.out; omega
                      case c5 => simp; omega
                      intro v' w4 hown' hgrow _
                      obtain ⟨p', cp', rfl, -, -⟩ := own_lies hown'
                      have hval : (c1 : Int) * 16 + (c2 : Int) = ((UInt8.ofNat (c1 * 16 + c2)).toNat : Int) := by
                        rw [UInt8.toNat_ofNat']
                        omega
                      rw [hval] at hown'
                      have hB4 : Below wx.heap.size wd w4 := ((Below.refl _ wd).alloc hsz5 _).grown hgrow (by simp; omega) (fun g hg' => (hown5.lt g hg').1)
                      have R5 : Shut (BIn wn wx (w4.setCell ⟨wn.heap.size, q, none⟩ (.slice p' (j + 1) cp')) R q r (j + 1)) := ⟨BIn.step (b := UInt8.ofNat (c1 * 16 + c2)) hwx HY2.out.1 HY2.out.2.1 HY2.out.2.2.1 hsz5 HY2.out.2.2.2 hB4 (by rw [bs, List.map_append]; exact hown') (by
                        rw [U.out]
                        simp only [Int.toNat_natCast]
                        cases unhex (List.drop (2 * (j + 1)) r) <;> simp)⟩
                      have h4b : w4.heap[wn.heap.size]? = _ := (hB4.block _ hwx).trans HY2.out.2.1
                      have cv4 : w4.cell? ⟨wn.heap.size, q, none⟩ = some v := cellB h4b q _ (by rw [Array.getElem?_setIfInBounds, if_pos rfl, if_pos (by omega)])
                      have fv4 : w4.frozen? ⟨wn.heap.size, q, none⟩ = false := by simp [World.frozen?, h4b]
                      clear hown' hgrow hown5 hB4 hval h4b U hsz5 cv
                      go_wp2
                      go_roundw
                      case rel => exact ⟨j + 1, congrArg (Value.int .i64) (by have := HK.out; omega), by have := HK.out; omega, R5⟩
                      case measure => have := HK.out; simp [intOf]; omega
                · have hke : r.length ≤ 2 * j := by have := HK.out; omega
                  have R6 : Shut (BArr wn wy ws (q + 1)) := ⟨BIn.done hwx hlt hR2 HX2.out.1 HX2.out.2.1 HX2.out.2.2.1 HX2.out.2.2.2 hke hJ.out⟩
                  clear hJ HX2 hke
                  go_wp2
                  go_roundw
                  case rel => exact ⟨q + 1, by omega, by go_num, R6⟩
                  case measure => simp [intOf]; omega
            · have b0 : ((x[0].toNat : Int) != 45) = true := by
                rw [hc0]
                simp only [bne_iff_ne, ne_eq]
                intro e
                exact hc (UInt8.toNat_inj.1 (by rw [show (45 : UInt8).toNat = 45 from rfl]; omega))
              have HN : Shut (pCode s.data.toList = 1) := ⟨pCode_none hsl (readL_bytes hlt (by rw [HXW.out, hxl]; exact byW_dash hc))⟩
              clear hI hqa har hRn hRs hbx hnl hlr hxl hc0
              go_wp2_with fail
              refine (bad_any 1 wx).mono ?_
              rintro e wz ⟨rfl, hbz⟩
              have hgz := blkB hgx hbz
              have hFz := (hFx).trans (hbz.mono (hFx).size)
              simp only [rcV, rc0, List.length_nil]
              have z0 : wz.cell? ⟨w.heap.size, 0, none⟩ = some (.int .i64 0) := cellB hgz 0 _ rfl
              have f0 : wz.frozen? ⟨w.heap.size, 0, none⟩ = false := by simp [World.frozen?, hgz]
              have z1 : wz.cell? ⟨w.heap.size, 1, none⟩ = some (.int .i64 0) := cellB hgz 1 _ rfl
              have f1 : wz.frozen? ⟨w.heap.size, 1, none⟩ = false := by simp [World.frozen?, hgz]
              have z2 : wz.cell? ⟨w.heap.size, 2, none⟩ = some (.int .i64 0) := cellB hgz 2 _ rfl
              have f2 : wz.frozen? ⟨w.heap.size, 2, none⟩ = false := by simp [World.frozen?, hgz]
              have z3 : wz.cell? ⟨w.heap.size, 3, none⟩ = some (.int .i64 0) := cellB hgz 3 _ rfl
              have f3 : wz.frozen? ⟨w.heap.size, 3, none⟩ = false := by simp [World.frozen?, hgz]
              have z4 : wz.cell? ⟨w.heap.size, 4, none⟩ = some (.int .i64 0) := cellB hgz 4 _ rfl
              have f4 : wz.frozen? ⟨w.heap.size, 4, none⟩ = false := by simp [World.frozen?, hgz]
              have z5 : wz.cell? ⟨w.heap.size, 5, none⟩ = some (.int .i64 0) := cellB hgz 5 _ rfl
              have f5 : wz.frozen? ⟨w.heap.size, 5, none⟩ = false := by simp [World.frozen?, hgz]
              have z6 : wz.cell? ⟨w.heap.size, 6, none⟩ = some (.int .i64 0) := cellB hgz 6 _ rfl
              have f6 : wz.frozen? ⟨w.heap.size, 6, none⟩ = false := by simp [World.frozen?, hgz]
              have z7 : wz.cell? ⟨w.heap.size, 7, none⟩ = some (.int .i64 0) := cellB hgz 7 _ rfl
              have f7 : wz.frozen? ⟨w.heap.size, 7, none⟩ = false := by simp [World.frozen?, hgz]
              have z8 : wz.cell? ⟨w.heap.size, 8, none⟩ = some (.int .i64 0) := cellB hgz 8 _ rfl
              have f8 : wz.frozen? ⟨w.heap.size, 8, none⟩ = false := by simp [World.frozen?, hgz]
              have z9 : wz.cell? ⟨w.heap.size, 9, none⟩ = some (.int .i64 0) := cellB hgz 9 _ rfl
              have f9 : wz.frozen? ⟨w.heap.size, 9, none⟩ = false := by simp [World.frozen?, hgz]
              have z10 : wz.cell? ⟨w.heap.size, 10, none⟩ = some (.int .i64 0) := cellB hgz 10 _ rfl
              have f10 : wz.frozen? ⟨w.heap.size, 10, none⟩ = false := by simp [World.frozen?, hgz]
              have z11 : wz.cell? ⟨w.heap.size, 11, none⟩ = some (.slice none 0 0) := cellB hgz 11 _ rfl
              have f11 : wz.frozen? ⟨w.heap.size, 11, none⟩ = false := by simp [World.frozen?, hgz]
              have z12 : wz.cell? ⟨w.heap.size, 12, none⟩ = some (.slice none 0 0) := cellB hgz 12 _ rfl
              have f12 : wz.frozen? ⟨w.heap.size, 12, none⟩ = false := by simp [World.frozen?, hgz]
              clear hbz
              go_wp2
              obtain ⟨W9, hW9, hb9, hk9, hB9⟩ := box13 wz w.heap.size 33 _ _ _ _ _ _ _ _ _ _ _ _ _ (.int .i64 0) (.int .i64 0) (.int .i64 0) (.int .i64 0) (.int .i64 0) (.int .i64 0) (.int .i64 0) (.int .i64 0) (.int .i64 0) (.int .i64 0) (.int .i64 0) (.slice none 0 0) (.slice none 0 0) hgz
              rw [hW9]
              have hF9 := hB9 _ _ (Nat.le_refl _) hFz
              clear hW9 hB9 z0 f0 z1 f1 z2 f2 z3 f3 z4 f4 z5 f5 z6 f6 z7 f7 z8 f8 z9 f9 z10 f10 z11 f11 z12 f12
              have z0 : W9.cell? ⟨w.heap.size, 0, none⟩ = some (.int .i64 0) := cellB hb9 0 _ rfl
              have z1 : W9.cell? ⟨w.heap.size, 1, none⟩ = some (.int .i64 0) := cellB hb9 1 _ rfl
              have z2 : W9.cell? ⟨w.heap.size, 2, none⟩ = some (.int .i64 0) := cellB hb9 2 _ rfl
              have z3 : W9.cell? ⟨w.heap.size, 3, none⟩ = some (.int .i64 0) := cellB hb9 3 _ rfl
              have z4 : W9.cell? ⟨w.heap.size, 4, none⟩ = some (.int .i64 0) := cellB hb9 4 _ rfl
              have z5 : W9.cell? ⟨w.heap.size, 5, none⟩ = some (.int .i64 0) := cellB hb9 5 _ rfl
              have z6 : W9.cell? ⟨w.heap.size, 6, none⟩ = some (.int .i64 0) := cellB hb9 6 _ rfl
              have z7 : W9.cell? ⟨w.heap.size, 7, none⟩ = some (.int .i64 0) := cellB hb9 7 _ rfl
              have z8 : W9.cell? ⟨w.heap.size, 8, none⟩ = some (.int .i64 0) := cellB hb9 8 _ rfl
              have z9 : W9.cell? ⟨w.heap.size, 9, none⟩ = some (.int .i64 0) := cellB hb9 9 _ rfl
              have z10 : W9.cell? ⟨w.heap.size, 10, none⟩ = some (.int .i64 0) := cellB hb9 10 _ rfl
              have z11 : W9.cell? ⟨w.heap.size, 11, none⟩ = some (.slice none 0 0) := cellB hb9 11 _ rfl
              have z12 : W9.cell? ⟨w.heap.size, 12, none⟩ = some (.slice none 0 0) := cellB hb9 12 _ rfl
              refine bodyPost_ret (v := .tuple #[rcV rc0 none 0 none 0, .int .i64 1]) (by simp [results, Tryz.results38, go_sem, rcV, rc0, z0, z1, z2, z3, z4, z5, z6, z7, z8, z9, z10, z11, z12]) rfl ?_
              exact ⟨hF9, Or.inl ⟨by rw [HN.out]; decide, by rw [HN.out]⟩⟩
        · obtain rfl : q = 2 := by omega
          obtain ⟨R, har, hR2, _, hRs, hbx⟩ := hI.out
          obtain ⟨x0, hx0⟩ : ∃ x, ws[11 + 0]? = some x := ⟨ws[11], List.getElem?_eq_getElem (by omega)⟩
          obtain ⟨x1, hx1⟩ : ∃ x, ws[11 + 1]? = some x := ⟨ws[12], List.getElem?_eq_getElem (by omega)⟩
          obtain ⟨d, da, dc, hd1, hd2, hld, hfd⟩ := hRs 0 x0 (by omega) hx0
          obtain ⟨c, ca, cc, hc1, hc2, hlc, hfc⟩ := hRs 1 x1 (by omega) hx1
          obtain rfl := arr2 hR2 hd2 hc2
          have HRD : Shut (readL s.data.toList = some (recOf l d c)) := ⟨by
            rw [readL, if_pos HL13.out, ← HWS.out, HNL.out]
            rw [show (ws.map (·.data.toList)).getD 11 [] = x0.data.toList from by rw [List.getD_eq_getElem?_getD, List.getElem?_map, show ws[11]? = some x0 from hx0]; rfl, show (ws.map (·.data.toList)).getD 12 [] = x1.data.toList from by rw [List.getD_eq_getElem?_getD, List.getElem?_map, show ws[12]? = some x1 from hx1]; rfl, hd1, hc1]⟩
          have hgx := blkB hg2 hbx
          have hFx := hFr.trans (hbx.mono hFr.size)
          obtain ⟨nb, no, rfl⟩ := hnl.some (k := 0) (by simp [ns, hll])
          have hnx := hnl.below hbx (Nat.le_refl _)
          have hNI := (itoa_numsW _ _ HNL.out).2
          match l, hll with
          | [n0, n1, n2, n3, n4, n5, n6, n7, n8, n9, n10], _ =>
            have m0 : wx.cell? ⟨nb, no, none⟩ = some (.int .i64 n0) := hnx.at (k := 0) rfl
            have m1 : wx.cell? ⟨nb, no + 1, none⟩ = some (.int .i64 n1) := hnx.at rfl
            have m2 : wx.cell? ⟨nb, no + 2, none⟩ = some (.int .i64 n2) := hnx.at rfl
            have m3 : wx.cell? ⟨nb, no + 3, none⟩ = some (.int .i64 n3) := hnx.at rfl
            have m4 : wx.cell? ⟨nb, no + 4, none⟩ = some (.int .i64 n4) := hnx.at rfl
            have m5 : wx.cell? ⟨nb, no + 5, none⟩ = some (.int .i64 n5) := hnx.at rfl
            have m6 : wx.cell? ⟨nb, no + 6, none⟩ = some (.int .i64 n6) := hnx.at rfl
            have m7 : wx.cell? ⟨nb, no + 7, none⟩ = some (.int .i64 n7) := hnx.at rfl
            have m8 : wx.cell? ⟨nb, no + 8, none⟩ = some (.int .i64 n8) := hnx.at rfl
            have m9 : wx.cell? ⟨nb, no + 9, none⟩ = some (.int .i64 n9) := hnx.at rfl
            have m10 : wx.cell? ⟨nb, no + 10, none⟩ = some (.int .i64 n10) := hnx.at rfl
            have a0 : wx.cell? ⟨wn.heap.size, 0, none⟩ = some (.slice da d.length dc) := cellB har 0 _ rfl
            have a1 : wx.cell? ⟨wn.heap.size, 1, none⟩ = some (.slice ca c.length cc) := cellB har 1 _ rfl
            clear hI hRs hnl hlr hnx hd1 hd2 hc1 hc2
            go_upto_region 28 with fail
            have hnb : nb < wx.heap.size := World.block_lt_of_cell? wx _ m0
            have hwx2 : wn.heap.size < wx.heap.size := (Array.getElem?_eq_some_iff.1 har).1
            go_cut [17] from 116 (fun s17 wc => ∃ g, s17 = .pointer (some ⟨g, 0, none⟩) ∧ Shut (wx.heap.size ≤ g ∧ Below wx.heap.size wx wc ∧ wc.heap[g]? = some (.cells #[.int .i64 n0, .int .i64 n1, .int .i64 n2, .int .i64 n3, .int .i64 n4, .int .i64 n5, .int .i64 n6, .int .i64 n7, .int .i64 n8, .int .i64 n9, .int .i64 n10, .slice da d.length dc, .slice ca c.length cc] 33 (0, 0))))
            case first =>
              go_region_held3 (fun w' => w'.cell? ⟨nb, no, none⟩ = some (.int .i64 n0) ∧ w'.cell? ⟨nb, no + 1, none⟩ = some (.int .i64 n1) ∧ w'.cell? ⟨nb, no + 2, none⟩ = some (.int .i64 n2) ∧ w'.cell? ⟨nb, no + 3, none⟩ = some (.int .i64 n3) ∧ w'.cell? ⟨nb, no + 4, none⟩ = some (.int .i64 n4) ∧ w'.cell? ⟨nb, no + 5, none⟩ = some (.int .i64 n5) ∧ w'.cell? ⟨nb, no + 6, none⟩ = some (.int .i64 n6) ∧ w'.cell? ⟨nb, no + 7, none⟩ = some (.int .i64 n7) ∧ w'.cell? ⟨nb, no + 8, none⟩ = some (.int .i64 n8) ∧ w'.cell? ⟨nb, no + 9, none⟩ = some (.int .i64 n9) ∧ w'.cell? ⟨nb, no + 10, none⟩ = some (.int .i64 n10) ∧ w'.cell? ⟨wn.heap.size, 0, none⟩ = some (.slice da d.length dc) ∧ w'.cell? ⟨wn.heap.size, 1, none⟩ = some (.slice ca c.length cc)) (first | exact ⟨by assumption, by assumption, by assumption, by assumption, by assumption, by assumption, by assumption, by assumption, by assumption, by assumption, by assumption, by assumption, by assumption⟩ | exact ⟨cellAN (by assumption) _, cellAN (by assumption) _, cellAN (by assumption) _, cellAN (by assumption) _, cellAN (by assumption) _, cellAN (by assumption) _, cellAN (by assumption) _, cellAN (by assumption) _, cellAN (by assumption) _, cellAN (by assumption) _, cellAN (by assumption) _, cellAN (by assumption) _, cellAN (by assumption) _⟩) (fail)
              have R7 : Shut (wx.heap.size ≤ wx.heap.size ∧ Below wx.heap.size wx ((wx.alloc (.cells #[.int .i64 n0, .int .i64 n1, .int .i64 n2, .int .i64 n3, .int .i64 n4, .int .i64 n5, .int .i64 n6, .int .i64 n7, .int .i64 n8, .int .i64 n9, .int .i64 n10, .slice da d.length dc, .slice ca c.length cc] 33)).drew) ∧ ((wx.alloc (.cells #[.int .i64 n0, .int .i64 n1, .int .i64 n2, .int .i64 n3, .int .i64 n4, .int .i64 n5, .int .i64 n6, .int .i64 n7, .int .i64 n8, .int .i64 n9, .int .i64 n10, .slice da d.length dc, .slice ca c.length cc] 33)).drew).heap[wx.heap.size]? = some (.cells #[.int .i64 n0, .int .i64 n1, .int .i64 n2, .int .i64 n3, .int .i64 n4, .int .i64 n5, .int .i64 n6, .int .i64 n7, .int .i64 n8, .int .i64 n9, .int .i64 n10, .slice da d.length dc, .slice ca c.length cc] 33 (0, 0))) := ⟨Nat.le_refl _, ((Below.refl _ _).alloc (Nat.le_refl _) _).drew, by
                show (wx.alloc _).heap[_]? = _
                rw [heap_alloc_eq, if_pos rfl]⟩
              go_wp2
              go_meet
              exact ⟨_, rfl, R7⟩
            case rest =>
              obtain ⟨g, rfl, hcw⟩ := hcut
              obtain ⟨hge, hbc, hq5⟩ := hcw.out
              obtain ⟨r, hr⟩ : ∃ r, r = recOf [n0, n1, n2, n3, n4, n5, n6, n7, n8, n9, n10] d c := ⟨_, rfl⟩
              have HRR : Shut (readL s.data.toList = some r) := ⟨by rw [hr]; exact HRD.out⟩
              have hq6 : wc.heap[g]? = some (.cells #[.int .i64 r.k, .int .i64 r.p, .int .i64 r.n, .int .i64 r.y, .int .i64 r.h.F, .int .i64 r.h.Q, .int .i64 r.h.T, .int .i64 r.h.L, .int .i64 r.h.B, .int .i64 r.h.K, .int .i64 r.id, .slice da r.d.length dc, .slice ca r.c.length cc] 33 (0, 0)) := by rw [hr]; exact hq5
              replace hld : Lies wc da (bs r.d) := by rw [hr]; exact hld.below hbc (Nat.le_refl _)
              replace hlc : Lies wc ca (bs r.c) := by rw [hr]; exact hlc.below hbc (Nat.le_refl _)
              have hgc := blkB hgx hbc
              have hFc := hFx.trans (hbc.mono hFx.size)
              obtain ⟨_, hri⟩ := text_read HRR.out
              obtain ⟨sd, sc⟩ := read_short HRR.out
              have HP : Shut (pCode s.data.toList = r.code) := ⟨by rw [pCode, if_neg (by omega), HRR.out]⟩
              have HFD : Shut (∀ b o, da = some ⟨b, o, none⟩ → w.heap.size < b) := ⟨fun b o e => by have := hfd b o e; omega⟩
              have HFC : Shut (∀ b o, ca = some ⟨b, o, none⟩ → w.heap.size < b) := ⟨fun b o e => by have := hfc b o e; omega⟩
              have hC := checkRec_any r da dc ca cc wc hri (by unfold maxLen; omega)
              simp only [rcV] at hC
              clear hq5 hbc hcw hr HRD hgx hFx hri sd sc hfd hfc m0 m1 m2 m3 m4 m5 m6 m7 m8 m9 m10 a0 a1 har hnb hwx2 hNI HNL
              have q0 : wc.cell? ⟨g, 0, none⟩ = some (.int .i64 r.k) := cellB hq6 0 _ rfl
              have q1 : wc.cell? ⟨g, 1, none⟩ = some (.int .i64 r.p) := cellB hq6 1 _ rfl
              have q2 : wc.cell? ⟨g, 2, none⟩ = some (.int .i64 r.n) := cellB hq6 2 _ rfl
              have q3 : wc.cell? ⟨g, 3, none⟩ = some (.int .i64 r.y) := cellB hq6 3 _ rfl
              have q4 : wc.cell? ⟨g, 4, none⟩ = some (.int .i64 r.h.F) := cellB hq6 4 _ rfl
              have q5 : wc.cell? ⟨g, 5, none⟩ = some (.int .i64 r.h.Q) := cellB hq6 5 _ rfl
              have q6 : wc.cell? ⟨g, 6, none⟩ = some (.int .i64 r.h.T) := cellB hq6 6 _ rfl
              have q7 : wc.cell? ⟨g, 7, none⟩ = some (.int .i64 r.h.L) := cellB hq6 7 _ rfl
              have q8 : wc.cell? ⟨g, 8, none⟩ = some (.int .i64 r.h.B) := cellB hq6 8 _ rfl
              have q9 : wc.cell? ⟨g, 9, none⟩ = some (.int .i64 r.h.K) := cellB hq6 9 _ rfl
              have q10 : wc.cell? ⟨g, 10, none⟩ = some (.int .i64 r.id) := cellB hq6 10 _ rfl
              have q11 : wc.cell? ⟨g, 11, none⟩ = some (.slice da r.d.length dc) := cellB hq6 11 _ rfl
              have q12 : wc.cell? ⟨g, 12, none⟩ = some (.slice ca r.c.length cc) := cellB hq6 12 _ rfl
              go_wp2_with fail
              refine hC.mono ?_
              rintro e W3 ⟨rfl, hb3⟩
              have hg3 := blkB hgc hb3
              have hq3 := blkB hq6 hb3
              have hF3 := hFc.trans (hb3.mono hFc.size)
              replace hld := hld.below hb3 (Nat.le_refl _)
              replace hlc := hlc.below hb3 (Nat.le_refl _)
              clear hC hb3 hgc hq6 hFc q0 q1 q2 q3 q4 q5 q6 q7 q8 q9 q10 q11 q12
              cases bz : (r.code != 0) with
              | true =>
                have sz : Shut (r.code ≠ 0) := ⟨by simpa using bz⟩
                obtain ⟨z, hz⟩ : ∃ z, r.code = z := ⟨_, rfl⟩
                rw [hz] at bz sz HP ⊢
                clear hz hq3
                go_wp2_with fail
                refine (bad_any z W3).mono ?_
                rintro e wz ⟨rfl, hbz⟩
                have hgz := blkB hg3 hbz
                have hFz := (hF3).trans (hbz.mono (hF3).size)
                simp only [rcV, rc0, List.length_nil]
                have z0 : wz.cell? ⟨w.heap.size, 0, none⟩ = some (.int .i64 0) := cellB hgz 0 _ rfl
                have f0 : wz.frozen? ⟨w.heap.size, 0, none⟩ = false := by simp [World.frozen?, hgz]
                have z1 : wz.cell? ⟨w.heap.size, 1, none⟩ = some (.int .i64 0) := cellB hgz 1 _ rfl
                have f1 : wz.frozen? ⟨w.heap.size, 1, none⟩ = false := by simp [World.frozen?, hgz]
                have z2 : wz.cell? ⟨w.heap.size, 2, none⟩ = some (.int .i64 0) := cellB hgz 2 _ rfl
                have f2 : wz.frozen? ⟨w.heap.size, 2, none⟩ = false := by simp [World.frozen?, hgz]
                have z3 : wz.cell? ⟨w.heap.size, 3, none⟩ = some (.int .i64 0) := cellB hgz 3 _ rfl
                have f3 : wz.frozen? ⟨w.heap.size, 3, none⟩ = false := by simp [World.frozen?, hgz]
                have z4 : wz.cell? ⟨w.heap.size, 4, none⟩ = some (.int .i64 0) := cellB hgz 4 _ rfl
                have f4 : wz.frozen? ⟨w.heap.size, 4, none⟩ = false := by simp [World.frozen?, hgz]
                have z5 : wz.cell? ⟨w.heap.size, 5, none⟩ = some (.int .i64 0) := cellB hgz 5 _ rfl
                have f5 : wz.frozen? ⟨w.heap.size, 5, none⟩ = false := by simp [World.frozen?, hgz]
                have z6 : wz.cell? ⟨w.heap.size, 6, none⟩ = some (.int .i64 0) := cellB hgz 6 _ rfl
                have f6 : wz.frozen? ⟨w.heap.size, 6, none⟩ = false := by simp [World.frozen?, hgz]
                have z7 : wz.cell? ⟨w.heap.size, 7, none⟩ = some (.int .i64 0) := cellB hgz 7 _ rfl
                have f7 : wz.frozen? ⟨w.heap.size, 7, none⟩ = false := by simp [World.frozen?, hgz]
                have z8 : wz.cell? ⟨w.heap.size, 8, none⟩ = some (.int .i64 0) := cellB hgz 8 _ rfl
                have f8 : wz.frozen? ⟨w.heap.size, 8, none⟩ = false := by simp [World.frozen?, hgz]
                have z9 : wz.cell? ⟨w.heap.size, 9, none⟩ = some (.int .i64 0) := cellB hgz 9 _ rfl
                have f9 : wz.frozen? ⟨w.heap.size, 9, none⟩ = false := by simp [World.frozen?, hgz]
                have z10 : wz.cell? ⟨w.heap.size, 10, none⟩ = some (.int .i64 0) := cellB hgz 10 _ rfl
                have f10 : wz.frozen? ⟨w.heap.size, 10, none⟩ = false := by simp [World.frozen?, hgz]
                have z11 : wz.cell? ⟨w.heap.size, 11, none⟩ = some (.slice none 0 0) := cellB hgz 11 _ rfl
                have f11 : wz.frozen? ⟨w.heap.size, 11, none⟩ = false := by simp [World.frozen?, hgz]
                have z12 : wz.cell? ⟨w.heap.size, 12, none⟩ = some (.slice none 0 0) := cellB hgz 12 _ rfl
                have f12 : wz.frozen? ⟨w.heap.size, 12, none⟩ = false := by simp [World.frozen?, hgz]
                clear hbz
                go_wp2
                obtain ⟨W9, hW9, hb9, hk9, hB9⟩ := box13 wz w.heap.size 33 _ _ _ _ _ _ _ _ _ _ _ _ _ (.int .i64 0) (.int .i64 0) (.int .i64 0) (.int .i64 0) (.int .i64 0) (.int .i64 0) (.int .i64 0) (.int .i64 0) (.int .i64 0) (.int .i64 0) (.int .i64 0) (.slice none 0 0) (.slice none 0 0) hgz
                rw [hW9]
                have hF9 := hB9 _ _ (Nat.le_refl _) hFz
                clear hW9 hB9 z0 f0 z1 f1 z2 f2 z3 f3 z4 f4 z5 f5 z6 f6 z7 f7 z8 f8 z9 f9 z10 f10 z11 f11 z12 f12
                have z0 : W9.cell? ⟨w.heap.size, 0, none⟩ = some (.int .i64 0) := cellB hb9 0 _ rfl
                have z1 : W9.cell? ⟨w.heap.size, 1, none⟩ = some (.int .i64 0) := cellB hb9 1 _ rfl
                have z2 : W9.cell? ⟨w.heap.size, 2, none⟩ = some (.int .i64 0) := cellB hb9 2 _ rfl
                have z3 : W9.cell? ⟨w.heap.size, 3, none⟩ = some (.int .i64 0) := cellB hb9 3 _ rfl
                have z4 : W9.cell? ⟨w.heap.size, 4, none⟩ = some (.int .i64 0) := cellB hb9 4 _ rfl
                have z5 : W9.cell? ⟨w.heap.size, 5, none⟩ = some (.int .i64 0) := cellB hb9 5 _ rfl
                have z6 : W9.cell? ⟨w.heap.size, 6, none⟩ = some (.int .i64 0) := cellB hb9 6 _ rfl
                have z7 : W9.cell? ⟨w.heap.size, 7, none⟩ = some (.int .i64 0) := cellB hb9 7 _ rfl
                have z8 : W9.cell? ⟨w.heap.size, 8, none⟩ = some (.int .i64 0) := cellB hb9 8 _ rfl
                have z9 : W9.cell? ⟨w.heap.size, 9, none⟩ = some (.int .i64 0) := cellB hb9 9 _ rfl
                have z10 : W9.cell? ⟨w.heap.size, 10, none⟩ = some (.int .i64 0) := cellB hb9 10 _ rfl
                have z11 : W9.cell? ⟨w.heap.size, 11, none⟩ = some (.slice none 0 0) := cellB hb9 11 _ rfl
                have z12 : W9.cell? ⟨w.heap.size, 12, none⟩ = some (.slice none 0 0) := cellB hb9 12 _ rfl
                refine bodyPost_ret (v := .tuple #[rcV rc0 none 0 none 0, .int .i64 z]) (by simp [results, Tryz.results38, go_sem, rcV, rc0, z0, z1, z2, z3, z4, z5, z6, z7, z8, z9, z10, z11, z12]) rfl ?_
                exact ⟨hF9, Or.inl ⟨by rw [HP.out]; exact sz.out, by rw [HP.out]⟩⟩
              | false =>
                have sz : Shut (r.code = 0) := ⟨by simpa using bz⟩
                rw [sz.out]
                have q0 : W3.cell? ⟨g, 0, none⟩ = some (.int .i64 r.k) := cellB hq3 0 _ rfl
                have q1 : W3.cell? ⟨g, 1, none⟩ = some (.int .i64 r.p) := cellB hq3 1 _ rfl
                have q2 : W3.cell? ⟨g, 2, none⟩ = some (.int .i64 r.n) := cellB hq3 2 _ rfl
                have q3 : W3.cell? ⟨g, 3, none⟩ = some (.int .i64 r.y) := cellB hq3 3 _ rfl
                have q4 : W3.cell? ⟨g, 4, none⟩ = some (.int .i64 r.h.F) := cellB hq3 4 _ rfl
                have q5 : W3.cell? ⟨g, 5, none⟩ = some (.int .i64 r.h.Q) := cellB hq3 5 _ rfl
                have q6 : W3.cell? ⟨g, 6, none⟩ = some (.int .i64 r.h.T) := cellB hq3 6 _ rfl
                have q7 : W3.cell? ⟨g, 7, none⟩ = some (.int .i64 r.h.L) := cellB hq3 7 _ rfl
                have q8 : W3.cell? ⟨g, 8, none⟩ = some (.int .i64 r.h.B) := cellB hq3 8 _ rfl
                have q9 : W3.cell? ⟨g, 9, none⟩ = some (.int .i64 r.h.K) := cellB hq3 9 _ rfl
                have q10 : W3.cell? ⟨g, 10, none⟩ = some (.int .i64 r.id) := cellB hq3 10 _ rfl
                have q11 : W3.cell? ⟨g, 11, none⟩ = some (.slice da r.d.length dc) := cellB hq3 11 _ rfl
                have q12 : W3.cell? ⟨g, 12, none⟩ = some (.slice ca r.c.length cc) := cellB hq3 12 _ rfl
                have z0 : W3.cell? ⟨w.heap.size, 0, none⟩ = some (.int .i64 0) := cellB hg3 0 _ rfl
                have f0 : W3.frozen? ⟨w.heap.size, 0, none⟩ = false := by simp [World.frozen?, hg3]
                have z1 : W3.cell? ⟨w.heap.size, 1, none⟩ = some (.int .i64 0) := cellB hg3 1 _ rfl
                have f1 : W3.frozen? ⟨w.heap.size, 1, none⟩ = false := by simp [World.frozen?, hg3]
                have z2 : W3.cell? ⟨w.heap.size, 2, none⟩ = some (.int .i64 0) := cellB hg3 2 _ rfl
                have f2 : W3.frozen? ⟨w.heap.size, 2, none⟩ = false := by simp [World.frozen?, hg3]
                have z3 : W3.cell? ⟨w.heap.size, 3, none⟩ = some (.int .i64 0) := cellB hg3 3 _ rfl
                have f3 : W3.frozen? ⟨w.heap.size, 3, none⟩ = false := by simp [World.frozen?, hg3]
                have z4 : W3.cell? ⟨w.heap.size, 4, none⟩ = some (.int .i64 0) := cellB hg3 4 _ rfl
                have f4 : W3.frozen? ⟨w.heap.size, 4, none⟩ = false := by simp [World.frozen?, hg3]
                have z5 : W3.cell? ⟨w.heap.size, 5, none⟩ = some (.int .i64 0) := cellB hg3 5 _ rfl
                have f5 : W3.frozen? ⟨w.heap.size, 5, none⟩ = false := by simp [World.frozen?, hg3]
                have z6 : W3.cell? ⟨w.heap.size, 6, none⟩ = some (.int .i64 0) := cellB hg3 6 _ rfl
                have f6 : W3.frozen? ⟨w.heap.size, 6, none⟩ = false := by simp [World.frozen?, hg3]
                have z7 : W3.cell? ⟨w.heap.size, 7, none⟩ = some (.int .i64 0) := cellB hg3 7 _ rfl
                have f7 : W3.frozen? ⟨w.heap.size, 7, none⟩ = false := by simp [World.frozen?, hg3]
                have z8 : W3.cell? ⟨w.heap.size, 8, none⟩ = some (.int .i64 0) := cellB hg3 8 _ rfl
                have f8 : W3.frozen? ⟨w.heap.size, 8, none⟩ = false := by simp [World.frozen?, hg3]
                have z9 : W3.cell? ⟨w.heap.size, 9, none⟩ = some (.int .i64 0) := cellB hg3 9 _ rfl
                have f9 : W3.frozen? ⟨w.heap.size, 9, none⟩ = false := by simp [World.frozen?, hg3]
                have z10 : W3.cell? ⟨w.heap.size, 10, none⟩ = some (.int .i64 0) := cellB hg3 10 _ rfl
                have f10 : W3.frozen? ⟨w.heap.size, 10, none⟩ = false := by simp [World.frozen?, hg3]
                have z11 : W3.cell? ⟨w.heap.size, 11, none⟩ = some (.slice none 0 0) := cellB hg3 11 _ rfl
                have f11 : W3.frozen? ⟨w.heap.size, 11, none⟩ = false := by simp [World.frozen?, hg3]
                have z12 : W3.cell? ⟨w.heap.size, 12, none⟩ = some (.slice none 0 0) := cellB hg3 12 _ rfl
                have f12 : W3.frozen? ⟨w.heap.size, 12, none⟩ = false := by simp [World.frozen?, hg3]
                go_wp2
                obtain ⟨W9, hW9, hb9, hk9, hB9⟩ := box13 W3 w.heap.size 33 _ _ _ _ _ _ _ _ _ _ _ _ _ (.int .i64 r.k) (.int .i64 r.p) (.int .i64 r.n) (.int .i64 r.y) (.int .i64 r.h.F) (.int .i64 r.h.Q) (.int .i64 r.h.T) (.int .i64 r.h.L) (.int .i64 r.h.B) (.int .i64 r.h.K) (.int .i64 r.id) (.slice da r.d.length dc) (.slice ca r.c.length cc) hg3
                rw [hW9]
                have hF9 := hB9 _ _ (Nat.le_refl _) hF3
                clear hW9 hB9 z0 f0 z1 f1 z2 f2 z3 f3 z4 f4 z5 f5 z6 f6 z7 f7 z8 f8 z9 f9 z10 f10 z11 f11 z12 f12
                have z0 : W9.cell? ⟨w.heap.size, 0, none⟩ = some (.int .i64 r.k) := cellB hb9 0 _ rfl
                have z1 : W9.cell? ⟨w.heap.size, 1, none⟩ = some (.int .i64 r.p) := cellB hb9 1 _ rfl
                have z2 : W9.cell? ⟨w.heap.size, 2, none⟩ = some (.int .i64 r.n) := cellB hb9 2 _ rfl
                have z3 : W9.cell? ⟨w.heap.size, 3, none⟩ = some (.int .i64 r.y) := cellB hb9 3 _ rfl
                have z4 : W9.cell? ⟨w.heap.size, 4, none⟩ = some (.int .i64 r.h.F) := cellB hb9 4 _ rfl
                have z5 : W9.cell? ⟨w.heap.size, 5, none⟩ = some (.int .i64 r.h.Q) := cellB hb9 5 _ rfl
                have z6 : W9.cell? ⟨w.heap.size, 6, none⟩ = some (.int .i64 r.h.T) := cellB hb9 6 _ rfl
                have z7 : W9.cell? ⟨w.heap.size, 7, none⟩ = some (.int .i64 r.h.L) := cellB hb9 7 _ rfl
                have z8 : W9.cell? ⟨w.heap.size, 8, none⟩ = some (.int .i64 r.h.B) := cellB hb9 8 _ rfl
                have z9 : W9.cell? ⟨w.heap.size, 9, none⟩ = some (.int .i64 r.h.K) := cellB hb9 9 _ rfl
                have z10 : W9.cell? ⟨w.heap.size, 10, none⟩ = some (.int .i64 r.id) := cellB hb9 10 _ rfl
                have z11 : W9.cell? ⟨w.heap.size, 11, none⟩ = some (.slice da r.d.length dc) := cellB hb9 11 _ rfl
                have z12 : W9.cell? ⟨w.heap.size, 12, none⟩ = some (.slice ca r.c.length cc) := cellB hb9 12 _ rfl
                refine bodyPost_ret (v := .tuple #[rcV r da dc ca cc, .int .i64 0]) (by simp [results, Tryz.results38, go_sem, rcV, rc0, z0, z1, z2, z3, z4, z5, z6, z7, z8, z9, z10, z11, z12]) rfl ?_
                exact ⟨hF9, Or.inr ⟨by rw [HP.out]; exact sz.out, r, da, dc, ca, cc, HRR.out, sz.out, rfl, liesFar hld hk9 (fun b o e => Nat.ne_of_gt (HFD.out b o e)), liesFar hlc hk9 (fun b o e => Nat.ne_of_gt (HFC.out b o e)), fun b o e => Nat.le_of_lt (HFD.out b o e), fun b o e => Nat.le_of_lt (HFC.out b o e)⟩⟩


theorem recReadF_any (s : ByteArray) (w : World) (hs : s.size ≤ 60000) (hL : LaidN w) :
    Calls Tryz.prog 38 #[.string s] w fun e w' => Below w.heap.size w w' ∧ ParseF w.heap.size s.data.toList e w' := by
  by_cases hl : (wordsL s.data.toList).length = 13
  · exact recRead_full s w hs hL hl
  · have hp : pCode s.data.toList = 1 := pCode_none (by rw [sizeB]; exact hs) (by rw [readL, if_neg hl])
    refine (recRead_len s w hs hL hl).mono ?_
    rintro e w' ⟨hb, rfl⟩
    exact ⟨hb, Or.inl ⟨by rw [hp]; decide, by rw [hp]⟩⟩

theorem recRead_any (s : ByteArray) (w : World) (hs : s.size ≤ 60000) (hL : LaidN w) :
    Calls Tryz.prog 38 #[.string s] w fun e w' => Below w.heap.size w w' ∧ ParseR s.data.toList e w' :=
  (recReadF_any s w hs hL).mono fun _ _ h => ⟨h.1, h.2.weak⟩

end Go.Proofs.YtekdigbdfeamkaaGreatDoor
