import Derived.Test.YtakkajjoeimkdaaGreatDoorPart32
import Derived.Test.YtakkajjoeimkdaaGreatDoorPart5
namespace Go.Proofs.YtakkajjoeimkdaaGreatDoor
open Go.RowKit
set_option linter.unusedVariables false
set_option linter.unusedSimpArgs false

def ReadR (B : Nat) (o : Option Rc) (e : Ending) (w' : World) : Prop :=
 match o with
 | none => e = .returned (.tuple #[rcV rc0 none 0 none 0, .bool false])
 | some r => ∃ (da : Option Addr) (dc : Nat) (ca : Option Addr) (cc : Nat), e = .returned (.tuple #[rcV r da dc ca cc, .bool true]) ∧ Lies w' da (bs r.d) ∧ Lies w' ca (bs r.c) ∧ (∀ b o, da = some ⟨b, o, none⟩ → B ≤ b) ∧ (∀ b o, ca = some ⟨b, o, none⟩ → B ≤ b)

set_option maxHeartbeats 1000000 in
set_option maxRecDepth 8000 in
theorem read_len (s : ByteArray) (w : World) (hs : s.size ≤ 60000) (hL : LaidN w) (hl : (wordsL s.data.toList).length ≠ 13) :
  Calls Tryz.prog 142 #[.string s] w fun e w' => Below w.heap.size w w' ∧ ReadR w.heap.size none e w' := by
 obtain ⟨W, hW⟩ : ∃ W, w.alloc (.cells #[.int .i64 0, .int .i64 0, .int .i64 0, .int .i64 0, .int .i64 0, .int .i64 0, .int .i64 0, .int .i64 0, .int .i64 0, .int .i64 0, .int .i64 0, .slice none 0 0, .slice none 0 0] 40) = W := ⟨_, rfl⟩
 have hBW : Below w.heap.size w W := by rw [← hW]; exact (Below.refl _ _).alloc (Nat.le_refl _) _
 have hbW : W.heap[w.heap.size]? = some (.cells #[.int .i64 0, .int .i64 0, .int .i64 0, .int .i64 0, .int .i64 0, .int .i64 0, .int .i64 0, .int .i64 0, .int .i64 0, .int .i64 0, .int .i64 0, .slice none 0 0, .slice none 0 0] 40 (0, 0)) := by rw [← hW, heap_alloc_eq, if_pos rfl]
 have hS := split_any s W hs (hL.below hBW)
 go_enter Tryz.func142, Tryz.ntmps142
 go_wp2_with fail
 refine hS.mono ?_
 rintro e W1 ⟨ws, rfl, hlw, hb1, hws⟩
 have hl2 : ws.length ≠ 13 := by rw [← hws, List.length_map] at hl; exact hl
 have bl : ((ws.length : Int) != 13) = true := by simp; omega
 have hbk := blkB hbW hb1
 have hF := hBW.trans (hb1.mono hBW.size)
 have z0 : W1.cell? ⟨w.heap.size, 0, none⟩ = some (.int .i64 0) := cellB hbk 0 _ rfl
 have f0 : W1.frozen? ⟨w.heap.size, 0, none⟩ = false := by simp [World.frozen?, hbk]
 have z1 : W1.cell? ⟨w.heap.size, 1, none⟩ = some (.int .i64 0) := cellB hbk 1 _ rfl
 have f1 : W1.frozen? ⟨w.heap.size, 1, none⟩ = false := by simp [World.frozen?, hbk]
 have z2 : W1.cell? ⟨w.heap.size, 2, none⟩ = some (.int .i64 0) := cellB hbk 2 _ rfl
 have f2 : W1.frozen? ⟨w.heap.size, 2, none⟩ = false := by simp [World.frozen?, hbk]
 have z3 : W1.cell? ⟨w.heap.size, 3, none⟩ = some (.int .i64 0) := cellB hbk 3 _ rfl
 have f3 : W1.frozen? ⟨w.heap.size, 3, none⟩ = false := by simp [World.frozen?, hbk]
 have z4 : W1.cell? ⟨w.heap.size, 4, none⟩ = some (.int .i64 0) := cellB hbk 4 _ rfl
 have f4 : W1.frozen? ⟨w.heap.size, 4, none⟩ = false := by simp [World.frozen?, hbk]
 have z5 : W1.cell? ⟨w.heap.size, 5, none⟩ = some (.int .i64 0) := cellB hbk 5 _ rfl
 have f5 : W1.frozen? ⟨w.heap.size, 5, none⟩ = false := by simp [World.frozen?, hbk]
 have z6 : W1.cell? ⟨w.heap.size, 6, none⟩ = some (.int .i64 0) := cellB hbk 6 _ rfl
 have f6 : W1.frozen? ⟨w.heap.size, 6, none⟩ = false := by simp [World.frozen?, hbk]
 have z7 : W1.cell? ⟨w.heap.size, 7, none⟩ = some (.int .i64 0) := cellB hbk 7 _ rfl
 have f7 : W1.frozen? ⟨w.heap.size, 7, none⟩ = false := by simp [World.frozen?, hbk]
 have z8 : W1.cell? ⟨w.heap.size, 8, none⟩ = some (.int .i64 0) := cellB hbk 8 _ rfl
 have f8 : W1.frozen? ⟨w.heap.size, 8, none⟩ = false := by simp [World.frozen?, hbk]
 have z9 : W1.cell? ⟨w.heap.size, 9, none⟩ = some (.int .i64 0) := cellB hbk 9 _ rfl
 have f9 : W1.frozen? ⟨w.heap.size, 9, none⟩ = false := by simp [World.frozen?, hbk]
 have z10 : W1.cell? ⟨w.heap.size, 10, none⟩ = some (.int .i64 0) := cellB hbk 10 _ rfl
 have f10 : W1.frozen? ⟨w.heap.size, 10, none⟩ = false := by simp [World.frozen?, hbk]
 have z11 : W1.cell? ⟨w.heap.size, 11, none⟩ = some (.slice none 0 0) := cellB hbk 11 _ rfl
 have f11 : W1.frozen? ⟨w.heap.size, 11, none⟩ = false := by simp [World.frozen?, hbk]
 have z12 : W1.cell? ⟨w.heap.size, 12, none⟩ = some (.slice none 0 0) := cellB hbk 12 _ rfl
 have f12 : W1.frozen? ⟨w.heap.size, 12, none⟩ = false := by simp [World.frozen?, hbk]
 clear hS hlw hws hl hl2 hb1 hbW
 go_wp2
 obtain ⟨W9, hW9, hb9, _, hB9⟩ := box13 W1 w.heap.size 40 _ _ _ _ _ _ _ _ _ _ _ _ _ (.int .i64 0) (.int .i64 0) (.int .i64 0) (.int .i64 0) (.int .i64 0) (.int .i64 0) (.int .i64 0) (.int .i64 0) (.int .i64 0) (.int .i64 0) (.int .i64 0) (.slice none 0 0) (.slice none 0 0) hbk
 rw [hW9]
 have hF9 := hB9 _ _ (Nat.le_refl _) hF
 clear hW9 hB9 hF hbk z0 f0 z1 f1 z2 f2 z3 f3 z4 f4 z5 f5 z6 f6 z7 f7 z8 f8 z9 f9 z10 f10 z11 f11 z12 f12
 obtain ⟨z0, z1, z2, z3, z4, z5, z6, z7, z8, z9, z10, z11, z12⟩ := bx13 hb9
 refine bodyPost_ret (v := .tuple #[rcV rc0 none 0 none 0, .bool false]) (by simp [results, Tryz.results142, go_sem, rcV, rc0, z0, z1, z2, z3, z4, z5, z6, z7, z8, z9, z10, z11, z12]) rfl ?_
 exact ⟨hF9, rfl⟩

def RdInv (w W1 wr : World) (g5 : Nat) (ws : List ByteArray) (q : Nat) : Prop :=
 ∃ l : List Int, numsW ((ws.map (·.data.toList)).take q) = some l ∧ wr.heap[g5]? = some (.cells (ns (l ++ List.replicate (11 - q) 0)).toArray 138 (0, 0)) ∧ wr.heap[w.heap.size]? = some (.cells #[.int .i64 0, .int .i64 0, .int .i64 0, .int .i64 0, .int .i64 0, .int .i64 0, .int .i64 0, .int .i64 0, .int .i64 0, .int .i64 0, .int .i64 0, .slice none 0 0, .slice none 0 0] 40 (0, 0)) ∧ Lies wr (some ⟨w.heap.size + 1, 0, none⟩) (ws.map Value.string) ∧ Below W1.heap.size W1 wr

theorem strEq (a b : ByteArray) : (a.toList == b.toList) = decide (a.data.toList = b.data.toList) := by
 rw [Lib.toList_data, Lib.toList_data, Bool.eq_iff_iff]
 simp

theorem neqNil (W : World) : (binOp .neq 182 .nilIface .nilIface).run Tryz.prog W = .ok (.bool false) W := by kernel_rfl

theorem neqIface (te : TypeId) (pe : Value) (W : World) : (binOp .neq 182 (.iface te pe) .nilIface).run Tryz.prog W = .ok (.bool true) W := by kernel_rfl

theorem set_num (l : List Int) (q : Nat) (v : Int) (hl : l.length = q) (hq : q < 11) : (ns (l ++ List.replicate (11 - q) 0)).toArray.setIfInBounds q (.int .i64 v) = (ns ((l ++ [v]) ++ List.replicate (11 - (q + 1)) 0)).toArray := by
 subst hl
 rw [show 11 - l.length = (11 - (l.length + 1)) + 1 by omega, List.replicate_succ]
 simp [ns, List.set_append]

theorem zero_at (l : List Int) (q : Nat) (hl : l.length = q) (hq : q < 11) : (ns (l ++ List.replicate (11 - q) 0)).toArray[q]? = some (.int .i64 0) := by
 rw [List.getElem?_toArray, ns, List.getElem?_map, List.getElem?_append_right (by omega), hl, Nat.sub_self, List.getElem?_replicate, if_pos (by omega)]
 rfl

theorem numsW_next {ws : List (List UInt8)} {q : Nat} {x : List UInt8} {l : List Int} (h : numsW (ws.take q) = some l) (hx : ws[q]? = some x) (v : Int) (hv : numW x = some v) : numsW (ws.take (q + 1)) = some (l ++ [v]) := by
 have e : ws.take (q + 1) = ws.take q ++ [x] := by rw [List.take_add_one, hx]; rfl
 rw [e, numsW_append _ _ _ h]
 simp [numsW, hv]

theorem numsW_stop {ws : List (List UInt8)} {q : Nat} {x : List UInt8} {l : List Int} (h : numsW (ws.take q) = some l) (hx : ws[q]? = some x) (hv : numW x = none) (hq : q < 11) : numsW (ws.take 11) = none := by
 have e : ws.take 11 = (ws.take q ++ [x]) ++ (ws.drop (q + 1)).take (11 - (q + 1)) := by
  have e1 : ws.take (q + 1) = ws.take q ++ [x] := by rw [List.take_add_one, hx]; rfl
  rw [← e1, ← List.take_add]
  congr 1
  omega
 rw [e]
 refine numsW_none _ _ ?_
 rw [numsW_append _ _ _ h]
 simp [numsW, hv]

theorem readL_nums {s : List UInt8} (h : numsW ((wordsL s).take 11) = none) : readL s = none := by
 unfold readL
 rw [h]
 split <;> rfl

set_option maxHeartbeats 2000000 in
set_option maxRecDepth 8000 in
theorem read_full (s : ByteArray) (w : World) (hs : s.size ≤ 60000) (hL : LaidN w) (hl : (wordsL s.data.toList).length = 13) :
  Calls Tryz.prog 142 #[.string s] w fun e w' => Below w.heap.size w w' ∧ ReadR w.heap.size (readL s.data.toList) e w' := by
 obtain ⟨W, hW⟩ : ∃ W, w.alloc (.cells #[.int .i64 0, .int .i64 0, .int .i64 0, .int .i64 0, .int .i64 0, .int .i64 0, .int .i64 0, .int .i64 0, .int .i64 0, .int .i64 0, .int .i64 0, .slice none 0 0, .slice none 0 0] 40) = W := ⟨_, rfl⟩
 have hBW : Below w.heap.size w W := by rw [← hW]; exact (Below.refl _ _).alloc (Nat.le_refl _) _
 have hbW : W.heap[w.heap.size]? = some (.cells #[.int .i64 0, .int .i64 0, .int .i64 0, .int .i64 0, .int .i64 0, .int .i64 0, .int .i64 0, .int .i64 0, .int .i64 0, .int .i64 0, .int .i64 0, .slice none 0 0, .slice none 0 0] 40 (0, 0)) := by rw [← hW, heap_alloc_eq, if_pos rfl]
 have hWs : W.heap.size = w.heap.size + 1 := by rw [← hW]; simp
 have hS := split_any s W hs (hL.below hBW)
 go_enter Tryz.func142, Tryz.ntmps142
 go_wp2_with fail
 refine hS.mono ?_
 rintro e W1 ⟨ws, rfl, hlw, hb1, hws⟩
 have hl2 : ws.length = 13 := by rw [← hws, List.length_map] at hl; exact hl
 have hL1 := (hL.below hBW).below hb1
 have hbk := blkB hbW hb1
 have hF1 := hBW.trans (hb1.mono hBW.size)
 have hsz1 : w.heap.size + 1 < W1.heap.size := by
  have h1 := hlw.lt rfl 0 (by rw [List.length_map, hl2]; decide)
  have h2 := World.block_lt_of_cell? W1 _ h1
  rw [hWs] at h2
  exact h2
 rw [hWs] at hlw ⊢
 rw [hl2]
 have hshort : ∀ x ∈ ws, x.size ≤ 60000 := by
  intro x hx
  have h1 : x.data.toList ∈ wordsL s.data.toList := by rw [← hws]; exact List.mem_map_of_mem hx
  have h2 := wordsL_short _ _ h1
  rw [sizeB, sizeB] at h2
  omega
 have hrd : Shut (readL s.data.toList = readL s.data.toList) := ⟨rfl⟩
 have HWS := Shut.mk hws
 have HL13 := Shut.mk hl
 clear hS hbW hW hWs hL hBW hb1 hws hl
 have hB2 : Below W1.heap.size W1 (W1.alloc (.cells (ns (List.replicate 11 0)).toArray 138)) := (Below.refl _ _).alloc (Nat.le_refl _) _
 have H0 : Shut (RdInv w W1 (W1.alloc (.cells (ns (List.replicate 11 0)).toArray 138)) W1.heap.size ws 0) := ⟨[], rfl, by rw [heap_alloc_eq, if_pos rfl]; rfl, blkB hbk hB2, hlw.below hB2 (Nat.le_refl _), hB2⟩
 clear hB2
 go_wp2_with fail
 go_loopw [18] (fun m wr => ∃ q : Nat, q ≤ 11 ∧ m = .int .i64 q ∧ Shut (RdInv w W1 wr W1.heap.size ws q)) (fun m _ => 11 - (intOf m).toNat)
 case atStart => exact ⟨0, Nat.zero_le _, rfl, H0⟩
 case round =>
  clear H0
  obtain ⟨q, hq, rfl, hI⟩ := hrel
  by_cases hlt : q < 11
  ·obtain ⟨l, hnum, hg5, hg2, hlr, hbr⟩ := hI.out
   have hq13 : q < ws.length := by omega
   obtain ⟨x, hx⟩ : ∃ x, ws[q]? = some x := ⟨ws[q], List.getElem?_eq_getElem hq13⟩
   have hxm : (ws.map (·.data.toList))[q]? = some x.data.toList := by rw [List.getElem?_map, hx]; rfl
   have hxs := hshort x (List.mem_of_getElem? hx)
   have cx : wr.cell? ⟨w.heap.size + 1, q, none⟩ = some (.string x) := by
    have := hlr.at (k := q) (u := .string x) (by rw [List.getElem?_map, hx]; rfl)
    simpa using this
   have hLr := hL1.below hbr
   have hFr := hF1.trans (hbr.mono hF1.size)
   have hll : l.length = q := by rw [numsW_len hnum, List.length_take, List.length_map, hl2]; omega
   cases hnx : numW x.data.toList with
   | none =>
    have HN : Shut (readL s.data.toList = none) := ⟨readL_nums (by rw [← HWS.out]; exact numsW_stop hnum hxm hnx hlt)⟩
    cases ha : Lib.atoiAll x.data.toList with
    | ok v =>
     have hA := atoi_good x wr v hxs ha
     have hcmp : ((⟨(Lib.itoa v).toArray⟩ : ByteArray).toList == x.toList) = false := by
      rw [strEq]
      refine decide_eq_false fun e => ?_
      simp only [numW, ha] at hnx
      rw [if_pos (by simpa using e)] at hnx
      cases hnx
     have hI64 : I64 v := Lib.atoiAll_bounds ha
     clear hnx ha hnum hxm hg5
     go_wp2_with fail
     refine hA.mono ?_
     rintro e wa ⟨rfl, hba⟩
     clear hA
     have hLa := hLr.below hba
     have ux : ∀ u : Above wa, u.w.cell? ⟨w.heap.size + 1, q, none⟩ = some (.string x) := fun u => Above.cell (cellW cx hba) u
     have hIt : ∀ u : Above wa, Calls Tryz.prog 79 #[.int .i64 v] u.w fun e w' => e = .returned (.string ⟨(Lib.itoa v).toArray⟩) ∧ Below u.w.heap.size u.w w' := fun u => itoa_any v u.w hI64 (hLa.below u.below)
     generalize hA2 : (⟨(Lib.itoa v).toArray⟩ : ByteArray) = A2 at hcmp hIt
     go_upto_region 9 with fail
     refine wp_region_above (by kernel_rfl) (by kernel_rfl) ?_
     have hnil := neqNil
     repeat (go_big_quiet_step (first | rfl | (go_at_call 79; exact Calls.above (hIt _))))
     refine wpQuiet_nil ?_
     rintro _ ⟨u, rfl⟩
     have hbu := u.below
     have hBu := hFr.trans ((hba.trans (hbu.mono hba.size)).mono hFr.size)
     have hgu := blkB (blkB hg2 hba) hbu
     clear ux hIt hnil hcmp hba hbu hLa hLr
     generalize u.w = wb at hgu hBu ⊢
     have z0 : wb.cell? ⟨w.heap.size, 0, none⟩ = some (.int .i64 0) := cellB hgu 0 _ rfl
     have f0 : wb.frozen? ⟨w.heap.size, 0, none⟩ = false := by simp [World.frozen?, hgu]
     have z1 : wb.cell? ⟨w.heap.size, 1, none⟩ = some (.int .i64 0) := cellB hgu 1 _ rfl
     have f1 : wb.frozen? ⟨w.heap.size, 1, none⟩ = false := by simp [World.frozen?, hgu]
     have z2 : wb.cell? ⟨w.heap.size, 2, none⟩ = some (.int .i64 0) := cellB hgu 2 _ rfl
     have f2 : wb.frozen? ⟨w.heap.size, 2, none⟩ = false := by simp [World.frozen?, hgu]
     have z3 : wb.cell? ⟨w.heap.size, 3, none⟩ = some (.int .i64 0) := cellB hgu 3 _ rfl
     have f3 : wb.frozen? ⟨w.heap.size, 3, none⟩ = false := by simp [World.frozen?, hgu]
     have z4 : wb.cell? ⟨w.heap.size, 4, none⟩ = some (.int .i64 0) := cellB hgu 4 _ rfl
     have f4 : wb.frozen? ⟨w.heap.size, 4, none⟩ = false := by simp [World.frozen?, hgu]
     have z5 : wb.cell? ⟨w.heap.size, 5, none⟩ = some (.int .i64 0) := cellB hgu 5 _ rfl
     have f5 : wb.frozen? ⟨w.heap.size, 5, none⟩ = false := by simp [World.frozen?, hgu]
     have z6 : wb.cell? ⟨w.heap.size, 6, none⟩ = some (.int .i64 0) := cellB hgu 6 _ rfl
     have f6 : wb.frozen? ⟨w.heap.size, 6, none⟩ = false := by simp [World.frozen?, hgu]
     have z7 : wb.cell? ⟨w.heap.size, 7, none⟩ = some (.int .i64 0) := cellB hgu 7 _ rfl
     have f7 : wb.frozen? ⟨w.heap.size, 7, none⟩ = false := by simp [World.frozen?, hgu]
     have z8 : wb.cell? ⟨w.heap.size, 8, none⟩ = some (.int .i64 0) := cellB hgu 8 _ rfl
     have f8 : wb.frozen? ⟨w.heap.size, 8, none⟩ = false := by simp [World.frozen?, hgu]
     have z9 : wb.cell? ⟨w.heap.size, 9, none⟩ = some (.int .i64 0) := cellB hgu 9 _ rfl
     have f9 : wb.frozen? ⟨w.heap.size, 9, none⟩ = false := by simp [World.frozen?, hgu]
     have z10 : wb.cell? ⟨w.heap.size, 10, none⟩ = some (.int .i64 0) := cellB hgu 10 _ rfl
     have f10 : wb.frozen? ⟨w.heap.size, 10, none⟩ = false := by simp [World.frozen?, hgu]
     have z11 : wb.cell? ⟨w.heap.size, 11, none⟩ = some (.slice none 0 0) := cellB hgu 11 _ rfl
     have f11 : wb.frozen? ⟨w.heap.size, 11, none⟩ = false := by simp [World.frozen?, hgu]
     have z12 : wb.cell? ⟨w.heap.size, 12, none⟩ = some (.slice none 0 0) := cellB hgu 12 _ rfl
     have f12 : wb.frozen? ⟨w.heap.size, 12, none⟩ = false := by simp [World.frozen?, hgu]
     go_wp2
     obtain ⟨W9, hW9, hb9, _, hB9⟩ := box13 wb w.heap.size 40 _ _ _ _ _ _ _ _ _ _ _ _ _ (.int .i64 0) (.int .i64 0) (.int .i64 0) (.int .i64 0) (.int .i64 0) (.int .i64 0) (.int .i64 0) (.int .i64 0) (.int .i64 0) (.int .i64 0) (.int .i64 0) (.slice none 0 0) (.slice none 0 0) hgu
     rw [hW9]
     have hF9 := hB9 _ _ (Nat.le_refl _) hBu
     clear hW9 hB9 z0 f0 z1 f1 z2 f2 z3 f3 z4 f4 z5 f5 z6 f6 z7 f7 z8 f8 z9 f9 z10 f10 z11 f11 z12 f12
     obtain ⟨z0, z1, z2, z3, z4, z5, z6, z7, z8, z9, z10, z11, z12⟩ := bx13 hb9
     refine bodyPost_ret (v := .tuple #[rcV rc0 none 0 none 0, .bool false]) (by simp [results, Tryz.results142, go_sem, rcV, rc0, z0, z1, z2, z3, z4, z5, z6, z7, z8, z9, z10, z11, z12]) rfl ?_
     exact ⟨hF9, by rw [HN.out]; rfl⟩
    | «syntax» =>
     have hA := atoi_bad x wr hxs (by intro v; rw [ha]; intro e; cases e) hLr
     clear hnx ha hnum hxm hg5
     go_wp2_with fail
     refine hA.mono ?_
     rintro e wa ⟨v, te, pe, rfl, hba⟩
     clear hA
     have hnil := neqIface te pe
     go_upto_region 9 with fail
     refine wp_region_above (by kernel_rfl) (by kernel_rfl) ?_
     repeat (go_big_quiet_step (rfl))
     refine wpQuiet_nil ?_
     rintro _ ⟨u, rfl⟩
     have hbu := u.below
     have hBu := hFr.trans ((hba.trans (hbu.mono hba.size)).mono hFr.size)
     have hgu := blkB (blkB hg2 hba) hbu
     clear hnil hba hbu hLr
     generalize u.w = wb at hgu hBu ⊢
     have z0 : wb.cell? ⟨w.heap.size, 0, none⟩ = some (.int .i64 0) := cellB hgu 0 _ rfl
     have f0 : wb.frozen? ⟨w.heap.size, 0, none⟩ = false := by simp [World.frozen?, hgu]
     have z1 : wb.cell? ⟨w.heap.size, 1, none⟩ = some (.int .i64 0) := cellB hgu 1 _ rfl
     have f1 : wb.frozen? ⟨w.heap.size, 1, none⟩ = false := by simp [World.frozen?, hgu]
     have z2 : wb.cell? ⟨w.heap.size, 2, none⟩ = some (.int .i64 0) := cellB hgu 2 _ rfl
     have f2 : wb.frozen? ⟨w.heap.size, 2, none⟩ = false := by simp [World.frozen?, hgu]
     have z3 : wb.cell? ⟨w.heap.size, 3, none⟩ = some (.int .i64 0) := cellB hgu 3 _ rfl
     have f3 : wb.frozen? ⟨w.heap.size, 3, none⟩ = false := by simp [World.frozen?, hgu]
     have z4 : wb.cell? ⟨w.heap.size, 4, none⟩ = some (.int .i64 0) := cellB hgu 4 _ rfl
     have f4 : wb.frozen? ⟨w.heap.size, 4, none⟩ = false := by simp [World.frozen?, hgu]
     have z5 : wb.cell? ⟨w.heap.size, 5, none⟩ = some (.int .i64 0) := cellB hgu 5 _ rfl
     have f5 : wb.frozen? ⟨w.heap.size, 5, none⟩ = false := by simp [World.frozen?, hgu]
     have z6 : wb.cell? ⟨w.heap.size, 6, none⟩ = some (.int .i64 0) := cellB hgu 6 _ rfl
     have f6 : wb.frozen? ⟨w.heap.size, 6, none⟩ = false := by simp [World.frozen?, hgu]
     have z7 : wb.cell? ⟨w.heap.size, 7, none⟩ = some (.int .i64 0) := cellB hgu 7 _ rfl
     have f7 : wb.frozen? ⟨w.heap.size, 7, none⟩ = false := by simp [World.frozen?, hgu]
     have z8 : wb.cell? ⟨w.heap.size, 8, none⟩ = some (.int .i64 0) := cellB hgu 8 _ rfl
     have f8 : wb.frozen? ⟨w.heap.size, 8, none⟩ = false := by simp [World.frozen?, hgu]
     have z9 : wb.cell? ⟨w.heap.size, 9, none⟩ = some (.int .i64 0) := cellB hgu 9 _ rfl
     have f9 : wb.frozen? ⟨w.heap.size, 9, none⟩ = false := by simp [World.frozen?, hgu]
     have z10 : wb.cell? ⟨w.heap.size, 10, none⟩ = some (.int .i64 0) := cellB hgu 10 _ rfl
     have f10 : wb.frozen? ⟨w.heap.size, 10, none⟩ = false := by simp [World.frozen?, hgu]
     have z11 : wb.cell? ⟨w.heap.size, 11, none⟩ = some (.slice none 0 0) := cellB hgu 11 _ rfl
     have f11 : wb.frozen? ⟨w.heap.size, 11, none⟩ = false := by simp [World.frozen?, hgu]
     have z12 : wb.cell? ⟨w.heap.size, 12, none⟩ = some (.slice none 0 0) := cellB hgu 12 _ rfl
     have f12 : wb.frozen? ⟨w.heap.size, 12, none⟩ = false := by simp [World.frozen?, hgu]
     go_wp2
     obtain ⟨W9, hW9, hb9, _, hB9⟩ := box13 wb w.heap.size 40 _ _ _ _ _ _ _ _ _ _ _ _ _ (.int .i64 0) (.int .i64 0) (.int .i64 0) (.int .i64 0) (.int .i64 0) (.int .i64 0) (.int .i64 0) (.int .i64 0) (.int .i64 0) (.int .i64 0) (.int .i64 0) (.slice none 0 0) (.slice none 0 0) hgu
     rw [hW9]
     have hF9 := hB9 _ _ (Nat.le_refl _) hBu
     clear hW9 hB9 z0 f0 z1 f1 z2 f2 z3 f3 z4 f4 z5 f5 z6 f6 z7 f7 z8 f8 z9 f9 z10 f10 z11 f11 z12 f12
     obtain ⟨z0, z1, z2, z3, z4, z5, z6, z7, z8, z9, z10, z11, z12⟩ := bx13 hb9
     refine bodyPost_ret (v := .tuple #[rcV rc0 none 0 none 0, .bool false]) (by simp [results, Tryz.results142, go_sem, rcV, rc0, z0, z1, z2, z3, z4, z5, z6, z7, z8, z9, z10, z11, z12]) rfl ?_
     exact ⟨hF9, by rw [HN.out]; rfl⟩
    | range =>
     have hA := atoi_bad x wr hxs (by intro v; rw [ha]; intro e; cases e) hLr
     clear hnx ha hnum hxm hg5
     go_wp2_with fail
     refine hA.mono ?_
     rintro e wa ⟨v, te, pe, rfl, hba⟩
     clear hA
     have hnil := neqIface te pe
     go_upto_region 9 with fail
     refine wp_region_above (by kernel_rfl) (by kernel_rfl) ?_
     repeat (go_big_quiet_step (rfl))
     refine wpQuiet_nil ?_
     rintro _ ⟨u, rfl⟩
     have hbu := u.below
     have hBu := hFr.trans ((hba.trans (hbu.mono hba.size)).mono hFr.size)
     have hgu := blkB (blkB hg2 hba) hbu
     clear hnil hba hbu hLr
     generalize u.w = wb at hgu hBu ⊢
     have z0 : wb.cell? ⟨w.heap.size, 0, none⟩ = some (.int .i64 0) := cellB hgu 0 _ rfl
     have f0 : wb.frozen? ⟨w.heap.size, 0, none⟩ = false := by simp [World.frozen?, hgu]
     have z1 : wb.cell? ⟨w.heap.size, 1, none⟩ = some (.int .i64 0) := cellB hgu 1 _ rfl
     have f1 : wb.frozen? ⟨w.heap.size, 1, none⟩ = false := by simp [World.frozen?, hgu]
     have z2 : wb.cell? ⟨w.heap.size, 2, none⟩ = some (.int .i64 0) := cellB hgu 2 _ rfl
     have f2 : wb.frozen? ⟨w.heap.size, 2, none⟩ = false := by simp [World.frozen?, hgu]
     have z3 : wb.cell? ⟨w.heap.size, 3, none⟩ = some (.int .i64 0) := cellB hgu 3 _ rfl
     have f3 : wb.frozen? ⟨w.heap.size, 3, none⟩ = false := by simp [World.frozen?, hgu]
     have z4 : wb.cell? ⟨w.heap.size, 4, none⟩ = some (.int .i64 0) := cellB hgu 4 _ rfl
     have f4 : wb.frozen? ⟨w.heap.size, 4, none⟩ = false := by simp [World.frozen?, hgu]
     have z5 : wb.cell? ⟨w.heap.size, 5, none⟩ = some (.int .i64 0) := cellB hgu 5 _ rfl
     have f5 : wb.frozen? ⟨w.heap.size, 5, none⟩ = false := by simp [World.frozen?, hgu]
     have z6 : wb.cell? ⟨w.heap.size, 6, none⟩ = some (.int .i64 0) := cellB hgu 6 _ rfl
     have f6 : wb.frozen? ⟨w.heap.size, 6, none⟩ = false := by simp [World.frozen?, hgu]
     have z7 : wb.cell? ⟨w.heap.size, 7, none⟩ = some (.int .i64 0) := cellB hgu 7 _ rfl
     have f7 : wb.frozen? ⟨w.heap.size, 7, none⟩ = false := by simp [World.frozen?, hgu]
     have z8 : wb.cell? ⟨w.heap.size, 8, none⟩ = some (.int .i64 0) := cellB hgu 8 _ rfl
     have f8 : wb.frozen? ⟨w.heap.size, 8, none⟩ = false := by simp [World.frozen?, hgu]
     have z9 : wb.cell? ⟨w.heap.size, 9, none⟩ = some (.int .i64 0) := cellB hgu 9 _ rfl
     have f9 : wb.frozen? ⟨w.heap.size, 9, none⟩ = false := by simp [World.frozen?, hgu]
     have z10 : wb.cell? ⟨w.heap.size, 10, none⟩ = some (.int .i64 0) := cellB hgu 10 _ rfl
     have f10 : wb.frozen? ⟨w.heap.size, 10, none⟩ = false := by simp [World.frozen?, hgu]
     have z11 : wb.cell? ⟨w.heap.size, 11, none⟩ = some (.slice none 0 0) := cellB hgu 11 _ rfl
     have f11 : wb.frozen? ⟨w.heap.size, 11, none⟩ = false := by simp [World.frozen?, hgu]
     have z12 : wb.cell? ⟨w.heap.size, 12, none⟩ = some (.slice none 0 0) := cellB hgu 12 _ rfl
     have f12 : wb.frozen? ⟨w.heap.size, 12, none⟩ = false := by simp [World.frozen?, hgu]
     go_wp2
     obtain ⟨W9, hW9, hb9, _, hB9⟩ := box13 wb w.heap.size 40 _ _ _ _ _ _ _ _ _ _ _ _ _ (.int .i64 0) (.int .i64 0) (.int .i64 0) (.int .i64 0) (.int .i64 0) (.int .i64 0) (.int .i64 0) (.int .i64 0) (.int .i64 0) (.int .i64 0) (.int .i64 0) (.slice none 0 0) (.slice none 0 0) hgu
     rw [hW9]
     have hF9 := hB9 _ _ (Nat.le_refl _) hBu
     clear hW9 hB9 z0 f0 z1 f1 z2 f2 z3 f3 z4 f4 z5 f5 z6 f6 z7 f7 z8 f8 z9 f9 z10 f10 z11 f11 z12 f12
     obtain ⟨z0, z1, z2, z3, z4, z5, z6, z7, z8, z9, z10, z11, z12⟩ := bx13 hb9
     refine bodyPost_ret (v := .tuple #[rcV rc0 none 0 none 0, .bool false]) (by simp [results, Tryz.results142, go_sem, rcV, rc0, z0, z1, z2, z3, z4, z5, z6, z7, z8, z9, z10, z11, z12]) rfl ?_
     exact ⟨hF9, by rw [HN.out]; rfl⟩
   | some v =>
    obtain ⟨hix, hI64⟩ := numW_back hnx
    have ha : Lib.atoiAll x.data.toList = .ok v := by rw [← hix]; exact atoi_itoa v hI64.1 hI64.2
    have hA := atoi_good x wr v hxs ha
    have hcmp : ((⟨(Lib.itoa v).toArray⟩ : ByteArray).toList == x.toList) = true := by
     rw [strEq]
     exact decide_eq_true (by simpa using hix)
    have hnum2 := numsW_next hnum hxm v hnx
    clear hnx ha hxm hix
    go_wp2_with fail
    refine hA.mono ?_
    rintro e wa ⟨rfl, hba⟩
    clear hA
    have hLa := hLr.below hba
    have ux : ∀ u : Above wa, u.w.cell? ⟨w.heap.size + 1, q, none⟩ = some (.string x) := fun u => Above.cell (cellW cx hba) u
    have hIt : ∀ u : Above wa, Calls Tryz.prog 79 #[.int .i64 v] u.w fun e w' => e = .returned (.string ⟨(Lib.itoa v).toArray⟩) ∧ Below u.w.heap.size u.w w' := fun u => itoa_any v u.w hI64 (hLa.below u.below)
    generalize hA2 : (⟨(Lib.itoa v).toArray⟩ : ByteArray) = A2 at hcmp hIt
    go_upto_region 9 with fail
    refine wp_region_above (by kernel_rfl) (by kernel_rfl) ?_
    have hnil := neqNil
    repeat (go_big_quiet_step (first | rfl | (go_at_call 79; exact Calls.above (hIt _))))
    refine wpQuiet_nil ?_
    rintro _ ⟨u, rfl⟩
    have hbu := u.below
    have hbu2 := hba.trans (hbu.mono hba.size)
    have hB1 := hbr.trans (hbu2.mono hbr.size)
    have h5 := blkB (blkB hg5 hba) hbu
    have h2 := blkB (blkB hg2 hba) hbu
    have hlu := (hlr.below hba (Nat.le_refl _)).below hbu (Nat.le_refl _)
    clear ux hIt hnil hcmp hba hbu hLa hLr
    generalize u.w = wb at h5 h2 hlu hB1 ⊢
    have c5 : wb.cell? ⟨W1.heap.size, q, none⟩ = some (.int .i64 0) := cellB h5 q _ (zero_at l q hll hlt)
    have f5 : wb.frozen? ⟨W1.heap.size, q, none⟩ = false := by simp [World.frozen?, h5]
    have R : Shut (RdInv w W1 (wb.setCell ⟨W1.heap.size, q, none⟩ (.int .i64 v)) W1.heap.size ws (q + 1)) := ⟨l ++ [v], hnum2, by rw [setCell_blk h5, set_num l q v hll hlt], by rw [setCell_far _ _ (by omega)]; exact h2, liesFar hlu (fun k hk => setCell_far _ _ hk) (fun b o e => by injection e with e; injection e with e1 e2; omega), hB1.setCell (p := ⟨W1.heap.size, q, none⟩) (Nat.le_refl _) _⟩
    clear h5 h2 hlu hB1 hnum hnum2 hg5 hg2 hlr hbr hI cx
    go_wp2
    go_roundw
    case rel => exact ⟨q + 1, by omega, by go_num, R⟩
    case measure => simp [intOf]; omega
  ·obtain rfl : q = 11 := by omega
   obtain ⟨l, hnum, hg5, hg2, hlr, hbr⟩ := hI.out
   have hll : l.length = 11 := by rw [numsW_len hnum, List.length_take, List.length_map, hl2]; rfl
   clear hI
   obtain ⟨x, hx⟩ : ∃ x, ws[11]? = some x := ⟨ws[11], List.getElem?_eq_getElem (by omega)⟩
   obtain ⟨y, hy⟩ : ∃ y, ws[12]? = some y := ⟨ws[12], List.getElem?_eq_getElem (by omega)⟩
   have hxs := hshort x (List.mem_of_getElem? hx)
   have hys := hshort y (List.mem_of_getElem? hy)
   have cx : wr.cell? ⟨w.heap.size + 1, 11, none⟩ = some (.string x) := by
    have := hlr.at (k := 11) (u := .string x) (by rw [List.getElem?_map, hx]; rfl)
    simpa using this
   have cy : wr.cell? ⟨w.heap.size + 1, 12, none⟩ = some (.string y) := by
    have := hlr.at (k := 12) (u := .string y) (by rw [List.getElem?_map, hy]; rfl)
    simpa using this
   have HRD : Shut (readL s.data.toList = match byW x.data.toList, byW y.data.toList with
     | some d, some c => some (recOf l d c)
     | _, _ => none) := ⟨by
    have e1 : (wordsL s.data.toList).getD 11 [] = x.data.toList := by rw [← HWS.out, List.getD_eq_getElem?_getD, List.getElem?_map, hx]; rfl
    have e2 : (wordsL s.data.toList).getD 12 [] = y.data.toList := by rw [← HWS.out, List.getD_eq_getElem?_getD, List.getElem?_map, hy]; rfl
    rw [readL, if_pos HL13.out, e1, e2, ← HWS.out, hnum]
    cases byW x.data.toList <;> cases byW y.data.toList <;> rfl⟩
   have hFr := hF1.trans (hbr.mono hF1.size)
   have hD := bytesOf_any x wr hxs
   clear hx hy hnum hlr hshort HWS HL13
   go_wp2_with fail
   refine hD.mono ?_
   rintro e wc ⟨hbc, hR⟩
   have hFc := hFr.trans (hbc.mono hFr.size)
   have hgc := blkB hg2 hbc
   have h5c := blkB hg5 hbc
   have cyc := cellW cy hbc
   clear hD cx cy
   cases hbx : byW x.data.toList with
   | none =>
    rw [hbx] at hR
    have HN : Shut (readL s.data.toList = none) := ⟨by rw [HRD.out, hbx]⟩
    obtain rfl := (show e = .returned (.tuple #[.slice none 0 0, .bool false]) from hR)
    clear hR
    have z0 : wc.cell? ⟨w.heap.size, 0, none⟩ = some (.int .i64 0) := cellB hgc 0 _ rfl
    have f0 : wc.frozen? ⟨w.heap.size, 0, none⟩ = false := by simp [World.frozen?, hgc]
    have z1 : wc.cell? ⟨w.heap.size, 1, none⟩ = some (.int .i64 0) := cellB hgc 1 _ rfl
    have f1 : wc.frozen? ⟨w.heap.size, 1, none⟩ = false := by simp [World.frozen?, hgc]
    have z2 : wc.cell? ⟨w.heap.size, 2, none⟩ = some (.int .i64 0) := cellB hgc 2 _ rfl
    have f2 : wc.frozen? ⟨w.heap.size, 2, none⟩ = false := by simp [World.frozen?, hgc]
    have z3 : wc.cell? ⟨w.heap.size, 3, none⟩ = some (.int .i64 0) := cellB hgc 3 _ rfl
    have f3 : wc.frozen? ⟨w.heap.size, 3, none⟩ = false := by simp [World.frozen?, hgc]
    have z4 : wc.cell? ⟨w.heap.size, 4, none⟩ = some (.int .i64 0) := cellB hgc 4 _ rfl
    have f4 : wc.frozen? ⟨w.heap.size, 4, none⟩ = false := by simp [World.frozen?, hgc]
    have z5 : wc.cell? ⟨w.heap.size, 5, none⟩ = some (.int .i64 0) := cellB hgc 5 _ rfl
    have f5 : wc.frozen? ⟨w.heap.size, 5, none⟩ = false := by simp [World.frozen?, hgc]
    have z6 : wc.cell? ⟨w.heap.size, 6, none⟩ = some (.int .i64 0) := cellB hgc 6 _ rfl
    have f6 : wc.frozen? ⟨w.heap.size, 6, none⟩ = false := by simp [World.frozen?, hgc]
    have z7 : wc.cell? ⟨w.heap.size, 7, none⟩ = some (.int .i64 0) := cellB hgc 7 _ rfl
    have f7 : wc.frozen? ⟨w.heap.size, 7, none⟩ = false := by simp [World.frozen?, hgc]
    have z8 : wc.cell? ⟨w.heap.size, 8, none⟩ = some (.int .i64 0) := cellB hgc 8 _ rfl
    have f8 : wc.frozen? ⟨w.heap.size, 8, none⟩ = false := by simp [World.frozen?, hgc]
    have z9 : wc.cell? ⟨w.heap.size, 9, none⟩ = some (.int .i64 0) := cellB hgc 9 _ rfl
    have f9 : wc.frozen? ⟨w.heap.size, 9, none⟩ = false := by simp [World.frozen?, hgc]
    have z10 : wc.cell? ⟨w.heap.size, 10, none⟩ = some (.int .i64 0) := cellB hgc 10 _ rfl
    have f10 : wc.frozen? ⟨w.heap.size, 10, none⟩ = false := by simp [World.frozen?, hgc]
    have z11 : wc.cell? ⟨w.heap.size, 11, none⟩ = some (.slice none 0 0) := cellB hgc 11 _ rfl
    have f11 : wc.frozen? ⟨w.heap.size, 11, none⟩ = false := by simp [World.frozen?, hgc]
    have z12 : wc.cell? ⟨w.heap.size, 12, none⟩ = some (.slice none 0 0) := cellB hgc 12 _ rfl
    have f12 : wc.frozen? ⟨w.heap.size, 12, none⟩ = false := by simp [World.frozen?, hgc]
    go_wp2
    obtain ⟨W9, hW9, hb9, _, hB9⟩ := box13 wc w.heap.size 40 _ _ _ _ _ _ _ _ _ _ _ _ _ (.int .i64 0) (.int .i64 0) (.int .i64 0) (.int .i64 0) (.int .i64 0) (.int .i64 0) (.int .i64 0) (.int .i64 0) (.int .i64 0) (.int .i64 0) (.int .i64 0) (.slice none 0 0) (.slice none 0 0) hgc
    rw [hW9]
    have hF9 := hB9 _ _ (Nat.le_refl _) hFc
    clear hW9 hB9 z0 f0 z1 f1 z2 f2 z3 f3 z4 f4 z5 f5 z6 f6 z7 f7 z8 f8 z9 f9 z10 f10 z11 f11 z12 f12
    obtain ⟨z0, z1, z2, z3, z4, z5, z6, z7, z8, z9, z10, z11, z12⟩ := bx13 hb9
    refine bodyPost_ret (v := .tuple #[rcV rc0 none 0 none 0, .bool false]) (by simp [results, Tryz.results142, go_sem, rcV, rc0, z0, z1, z2, z3, z4, z5, z6, z7, z8, z9, z10, z11, z12]) rfl ?_
    exact ⟨hF9, by rw [HN.out]; rfl⟩
   | some d =>
    rw [hbx] at hR
    obtain ⟨da, dc, rfl, hld, hfd⟩ := hR
    have hE := bytesOf_any y wc hys
    go_wp2_with fail
    refine hE.mono ?_
    rintro e wd ⟨hbd, hR2⟩
    have hFd := hFc.trans (hbd.mono hFc.size)
    have hgd := blkB hgc hbd
    have h5d := blkB h5c hbd
    have hsd : wr.heap.size ≤ wc.heap.size := hbc.size
    have hse : w.heap.size < wr.heap.size := by have := hbr.size; omega
    replace hld := hld.below hbd (Nat.le_refl _)
    clear hE
    cases hby : byW y.data.toList with
    | none =>
     rw [hby] at hR2
     have HN : Shut (readL s.data.toList = none) := ⟨by rw [HRD.out, hbx, hby]⟩
     obtain rfl := (show e = .returned (.tuple #[.slice none 0 0, .bool false]) from hR2)
     clear hR2
     have z0 : wd.cell? ⟨w.heap.size, 0, none⟩ = some (.int .i64 0) := cellB hgd 0 _ rfl
     have f0 : wd.frozen? ⟨w.heap.size, 0, none⟩ = false := by simp [World.frozen?, hgd]
     have z1 : wd.cell? ⟨w.heap.size, 1, none⟩ = some (.int .i64 0) := cellB hgd 1 _ rfl
     have f1 : wd.frozen? ⟨w.heap.size, 1, none⟩ = false := by simp [World.frozen?, hgd]
     have z2 : wd.cell? ⟨w.heap.size, 2, none⟩ = some (.int .i64 0) := cellB hgd 2 _ rfl
     have f2 : wd.frozen? ⟨w.heap.size, 2, none⟩ = false := by simp [World.frozen?, hgd]
     have z3 : wd.cell? ⟨w.heap.size, 3, none⟩ = some (.int .i64 0) := cellB hgd 3 _ rfl
     have f3 : wd.frozen? ⟨w.heap.size, 3, none⟩ = false := by simp [World.frozen?, hgd]
     have z4 : wd.cell? ⟨w.heap.size, 4, none⟩ = some (.int .i64 0) := cellB hgd 4 _ rfl
     have f4 : wd.frozen? ⟨w.heap.size, 4, none⟩ = false := by simp [World.frozen?, hgd]
     have z5 : wd.cell? ⟨w.heap.size, 5, none⟩ = some (.int .i64 0) := cellB hgd 5 _ rfl
     have f5 : wd.frozen? ⟨w.heap.size, 5, none⟩ = false := by simp [World.frozen?, hgd]
     have z6 : wd.cell? ⟨w.heap.size, 6, none⟩ = some (.int .i64 0) := cellB hgd 6 _ rfl
     have f6 : wd.frozen? ⟨w.heap.size, 6, none⟩ = false := by simp [World.frozen?, hgd]
     have z7 : wd.cell? ⟨w.heap.size, 7, none⟩ = some (.int .i64 0) := cellB hgd 7 _ rfl
     have f7 : wd.frozen? ⟨w.heap.size, 7, none⟩ = false := by simp [World.frozen?, hgd]
     have z8 : wd.cell? ⟨w.heap.size, 8, none⟩ = some (.int .i64 0) := cellB hgd 8 _ rfl
     have f8 : wd.frozen? ⟨w.heap.size, 8, none⟩ = false := by simp [World.frozen?, hgd]
     have z9 : wd.cell? ⟨w.heap.size, 9, none⟩ = some (.int .i64 0) := cellB hgd 9 _ rfl
     have f9 : wd.frozen? ⟨w.heap.size, 9, none⟩ = false := by simp [World.frozen?, hgd]
     have z10 : wd.cell? ⟨w.heap.size, 10, none⟩ = some (.int .i64 0) := cellB hgd 10 _ rfl
     have f10 : wd.frozen? ⟨w.heap.size, 10, none⟩ = false := by simp [World.frozen?, hgd]
     have z11 : wd.cell? ⟨w.heap.size, 11, none⟩ = some (.slice none 0 0) := cellB hgd 11 _ rfl
     have f11 : wd.frozen? ⟨w.heap.size, 11, none⟩ = false := by simp [World.frozen?, hgd]
     have z12 : wd.cell? ⟨w.heap.size, 12, none⟩ = some (.slice none 0 0) := cellB hgd 12 _ rfl
     have f12 : wd.frozen? ⟨w.heap.size, 12, none⟩ = false := by simp [World.frozen?, hgd]
     go_wp2
     obtain ⟨W9, hW9, hb9, _, hB9⟩ := box13 wd w.heap.size 40 _ _ _ _ _ _ _ _ _ _ _ _ _ (.int .i64 0) (.int .i64 0) (.int .i64 0) (.int .i64 0) (.int .i64 0) (.int .i64 0) (.int .i64 0) (.int .i64 0) (.int .i64 0) (.int .i64 0) (.int .i64 0) (.slice none 0 0) (.slice none 0 0) hgd
     rw [hW9]
     have hF9 := hB9 _ _ (Nat.le_refl _) hFd
     clear hW9 hB9 z0 f0 z1 f1 z2 f2 z3 f3 z4 f4 z5 f5 z6 f6 z7 f7 z8 f8 z9 f9 z10 f10 z11 f11 z12 f12
     obtain ⟨z0, z1, z2, z3, z4, z5, z6, z7, z8, z9, z10, z11, z12⟩ := bx13 hb9
     refine bodyPost_ret (v := .tuple #[rcV rc0 none 0 none 0, .bool false]) (by simp [results, Tryz.results142, go_sem, rcV, rc0, z0, z1, z2, z3, z4, z5, z6, z7, z8, z9, z10, z11, z12]) rfl ?_
     exact ⟨hF9, by rw [HN.out]; rfl⟩
    | some c =>
     rw [hby] at hR2
     obtain ⟨ca, cc, rfl, hlc, hfc⟩ := hR2
     have HN : Shut (readL s.data.toList = some (recOf l d c)) := ⟨by rw [HRD.out, hbx, hby]⟩
     have hRO := recordOf_any l hll d c da dc ca cc wd
     match l, hll with
     | [n0, n1, n2, n3, n4, n5, n6, n7, n8, n9, n10], _ =>
      have h5e : wd.heap[W1.heap.size]? = some (.cells #[.int .i64 n0, .int .i64 n1, .int .i64 n2, .int .i64 n3, .int .i64 n4, .int .i64 n5, .int .i64 n6, .int .i64 n7, .int .i64 n8, .int .i64 n9, .int .i64 n10] 138 (0, 0)) := h5d
      have m0 : wd.cell? ⟨W1.heap.size, 0, none⟩ = some (.int .i64 n0) := cellB h5e 0 _ rfl
      have m1 : wd.cell? ⟨W1.heap.size, 1, none⟩ = some (.int .i64 n1) := cellB h5e 1 _ rfl
      have m2 : wd.cell? ⟨W1.heap.size, 2, none⟩ = some (.int .i64 n2) := cellB h5e 2 _ rfl
      have m3 : wd.cell? ⟨W1.heap.size, 3, none⟩ = some (.int .i64 n3) := cellB h5e 3 _ rfl
      have m4 : wd.cell? ⟨W1.heap.size, 4, none⟩ = some (.int .i64 n4) := cellB h5e 4 _ rfl
      have m5 : wd.cell? ⟨W1.heap.size, 5, none⟩ = some (.int .i64 n5) := cellB h5e 5 _ rfl
      have m6 : wd.cell? ⟨W1.heap.size, 6, none⟩ = some (.int .i64 n6) := cellB h5e 6 _ rfl
      have m7 : wd.cell? ⟨W1.heap.size, 7, none⟩ = some (.int .i64 n7) := cellB h5e 7 _ rfl
      have m8 : wd.cell? ⟨W1.heap.size, 8, none⟩ = some (.int .i64 n8) := cellB h5e 8 _ rfl
      have m9 : wd.cell? ⟨W1.heap.size, 9, none⟩ = some (.int .i64 n9) := cellB h5e 9 _ rfl
      have m10 : wd.cell? ⟨W1.heap.size, 10, none⟩ = some (.int .i64 n10) := cellB h5e 10 _ rfl
      simp only [ns, List.map_cons, List.map_nil] at hRO
      clear h5c h5d hg5
      go_wp2_with fail
      refine hRO.mono ?_
      rintro e we ⟨rfl, hbe⟩
      have hFe := hFd.trans (hbe.mono hFd.size)
      have hge := blkB hgd hbe
      replace hld := hld.below hbe (Nat.le_refl _)
      replace hlc := hlc.below hbe (Nat.le_refl _)
      clear hRO
      simp only [rcV, recOf]
      have z0 : we.cell? ⟨w.heap.size, 0, none⟩ = some (.int .i64 0) := cellB hge 0 _ rfl
      have f0 : we.frozen? ⟨w.heap.size, 0, none⟩ = false := by simp [World.frozen?, hge]
      have z1 : we.cell? ⟨w.heap.size, 1, none⟩ = some (.int .i64 0) := cellB hge 1 _ rfl
      have f1 : we.frozen? ⟨w.heap.size, 1, none⟩ = false := by simp [World.frozen?, hge]
      have z2 : we.cell? ⟨w.heap.size, 2, none⟩ = some (.int .i64 0) := cellB hge 2 _ rfl
      have f2 : we.frozen? ⟨w.heap.size, 2, none⟩ = false := by simp [World.frozen?, hge]
      have z3 : we.cell? ⟨w.heap.size, 3, none⟩ = some (.int .i64 0) := cellB hge 3 _ rfl
      have f3 : we.frozen? ⟨w.heap.size, 3, none⟩ = false := by simp [World.frozen?, hge]
      have z4 : we.cell? ⟨w.heap.size, 4, none⟩ = some (.int .i64 0) := cellB hge 4 _ rfl
      have f4 : we.frozen? ⟨w.heap.size, 4, none⟩ = false := by simp [World.frozen?, hge]
      have z5 : we.cell? ⟨w.heap.size, 5, none⟩ = some (.int .i64 0) := cellB hge 5 _ rfl
      have f5 : we.frozen? ⟨w.heap.size, 5, none⟩ = false := by simp [World.frozen?, hge]
      have z6 : we.cell? ⟨w.heap.size, 6, none⟩ = some (.int .i64 0) := cellB hge 6 _ rfl
      have f6 : we.frozen? ⟨w.heap.size, 6, none⟩ = false := by simp [World.frozen?, hge]
      have z7 : we.cell? ⟨w.heap.size, 7, none⟩ = some (.int .i64 0) := cellB hge 7 _ rfl
      have f7 : we.frozen? ⟨w.heap.size, 7, none⟩ = false := by simp [World.frozen?, hge]
      have z8 : we.cell? ⟨w.heap.size, 8, none⟩ = some (.int .i64 0) := cellB hge 8 _ rfl
      have f8 : we.frozen? ⟨w.heap.size, 8, none⟩ = false := by simp [World.frozen?, hge]
      have z9 : we.cell? ⟨w.heap.size, 9, none⟩ = some (.int .i64 0) := cellB hge 9 _ rfl
      have f9 : we.frozen? ⟨w.heap.size, 9, none⟩ = false := by simp [World.frozen?, hge]
      have z10 : we.cell? ⟨w.heap.size, 10, none⟩ = some (.int .i64 0) := cellB hge 10 _ rfl
      have f10 : we.frozen? ⟨w.heap.size, 10, none⟩ = false := by simp [World.frozen?, hge]
      have z11 : we.cell? ⟨w.heap.size, 11, none⟩ = some (.slice none 0 0) := cellB hge 11 _ rfl
      have f11 : we.frozen? ⟨w.heap.size, 11, none⟩ = false := by simp [World.frozen?, hge]
      have z12 : we.cell? ⟨w.heap.size, 12, none⟩ = some (.slice none 0 0) := cellB hge 12 _ rfl
      have f12 : we.frozen? ⟨w.heap.size, 12, none⟩ = false := by simp [World.frozen?, hge]
      go_wp2
      obtain ⟨W9, hW9, hb9, hk9, hB9⟩ := box13 we w.heap.size 40 _ _ _ _ _ _ _ _ _ _ _ _ _ (.int .i64 n0) (.int .i64 n1) (.int .i64 n2) (.int .i64 n3) (.int .i64 n4) (.int .i64 n5) (.int .i64 n6) (.int .i64 n7) (.int .i64 n8) (.int .i64 n9) (.int .i64 n10) (.slice da d.length dc) (.slice ca c.length cc) hge
      rw [hW9]
      have hF9 := hB9 _ _ (Nat.le_refl _) hFe
      clear hW9 hB9 z0 f0 z1 f1 z2 f2 z3 f3 z4 f4 z5 f5 z6 f6 z7 f7 z8 f8 z9 f9 z10 f10 z11 f11 z12 f12
      obtain ⟨z0, z1, z2, z3, z4, z5, z6, z7, z8, z9, z10, z11, z12⟩ := bx13 hb9
      refine bodyPost_ret (v := .tuple #[rcV (recOf [n0, n1, n2, n3, n4, n5, n6, n7, n8, n9, n10] d c) da dc ca cc, .bool true]) (by simp [results, Tryz.results142, go_sem, rcV, recOf, z0, z1, z2, z3, z4, z5, z6, z7, z8, z9, z10, z11, z12]) rfl ?_
      exact ⟨hF9, by rw [HN.out]; exact ⟨da, dc, ca, cc, rfl, liesFar hld hk9 (fun b o e => by have := hfd b o e; omega), liesFar hlc hk9 (fun b o e => by have := hfc b o e; omega), fun b o e => by have := hfd b o e; omega, fun b o e => by have := hfc b o e; omega⟩⟩

theorem read_any (s : ByteArray) (w : World) (hs : s.size ≤ 60000) (hL : LaidN w) :
  Calls Tryz.prog 142 #[.string s] w fun e w' => Below w.heap.size w w' ∧ ReadR w.heap.size (readL s.data.toList) e w' := by
 by_cases hl : (wordsL s.data.toList).length = 13
 ·exact read_full s w hs hL hl
 ·have : readL s.data.toList = none := by rw [readL, if_neg hl]
  rw [this]
  exact read_len s w hs hL hl

end Go.Proofs.YtakkajjoeimkdaaGreatDoor
