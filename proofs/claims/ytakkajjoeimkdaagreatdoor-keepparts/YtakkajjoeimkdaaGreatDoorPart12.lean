import Derived.Test.YtakkajjoeimkdaaGreatDoorPart11
import Derived.Test.YtakkajjoeimkdaaGreatDoorPart9
import Derived.Shelf.Abstract
import Derived.Test.YtakkajjoeimkdaaGreatDoorPart2
import Derived.Deep.RegionWith
import Derived.Test.YtakkajjoeimkdaaGreatDoorPart5
namespace Go.Proofs.YtakkajjoeimkdaaGreatDoor
open Go.RowKit
set_option linter.unusedVariables false
set_option linter.unusedSimpArgs false

theorem empty_in (w : World) (B K : Int) : SysIn w ⟨B, K, none, 0, []⟩ := ⟨Lies.nil _ _, (fun r hr => by cases hr), Nat.zero_le _⟩

theorem new_any (B K : Int) (w : World) (v : Value) (hv : v = if chkSys B K [] = 0 then .agg #[.int .i64 B, .int .i64 K, .slice none 0 0] else .agg #[.int .i64 0, .int .i64 0, .slice none 0 0]) :
  Calls Tryz.prog 133 #[.int .i64 B, .int .i64 K] w fun e w' => e = .returned (.tuple #[v, .int .i64 (chkSys B K [])]) ∧ Below w.heap.size w w' := by
 have HV := Shut.mk hv
 clear hv
 obtain ⟨W, hW⟩ : ∃ W, (w.alloc (.cells #[.int .i64 0, .int .i64 0, .slice none 0 0] 203)).alloc (.cells #[.int .i64 B, .int .i64 K, .slice none 0 0] 203) = W := ⟨_, rfl⟩
 have hB : Below w.heap.size w W := by rw [← hW]; exact ((Below.refl _ _).alloc (Nat.le_refl _) _).alloc (by simp) _
 obtain ⟨blk0, blk1⟩ := alloc2 w (.cells #[.int .i64 0, .int .i64 0, .slice none 0 0] 203) (.cells #[.int .i64 B, .int .i64 K, .slice none 0 0] 203)
 rw [hW] at blk0 blk1
 have hsz : W.heap.size = w.heap.size + 2 := by rw [← hW]; simp
 have x0 : W.cell? ⟨w.heap.size, 0, none⟩ = some (.int .i64 0) := by simp [World.cell?, blk0]
 have x1 : W.cell? ⟨w.heap.size, 1, none⟩ = some (.int .i64 0) := by simp [World.cell?, blk0]
 have x2 : W.cell? ⟨w.heap.size, 2, none⟩ = some (.slice none 0 0) := by simp [World.cell?, blk0]
 have xf : ∀ j, W.frozen? ⟨w.heap.size, j, none⟩ = false := fun j => by simp [World.frozen?, blk0]
 have y0 : W.cell? ⟨w.heap.size + 1, 0, none⟩ = some (.int .i64 B) := by simp [World.cell?, blk1]
 have y1 : W.cell? ⟨w.heap.size + 1, 1, none⟩ = some (.int .i64 K) := by simp [World.cell?, blk1]
 have y2 : W.cell? ⟨w.heap.size + 1, 2, none⟩ = some (.slice none 0 0) := by simp [World.cell?, blk1]
 have hC := checkS_any ⟨B, K, none, 0, []⟩ W (empty_in W B K)
 simp only [List.map_nil, List.length_nil] at hC
 have HW := Shut.mk hW
 have HSZ := Shut.mk hsz
 clear blk0 blk1 hW hsz
 go_enter Tryz.func133, Tryz.ntmps133
 go_wp2_with fail
 rw [HW.out]
 have hsz := HSZ.out
 refine hC.mono ?_
 rintro e w1 ⟨rfl, hb⟩
 replace x0 := cellC x0 hb
 replace x1 := cellC x1 hb
 replace x2 := cellC x2 hb
 replace y0 := cellC y0 hb
 replace y1 := cellC y1 hb
 replace y2 := cellC y2 hb
 have f0 := ((bcell hb).2 w.heap.size 0 (by omega)).trans (xf 0)
 have f1 := ((bcell hb).2 w.heap.size 1 (by omega)).trans (xf 1)
 have f2 := ((bcell hb).2 w.heap.size 2 (by omega)).trans (xf 2)
 replace hb := hB.trans (hb.mono hB.size)
 obtain ⟨q, hq⟩ : ∃ q, chkSys B K [] = q := ⟨_, rfl⟩
 have HQ := Shut.mk hq
 rw [hq]
 clear hC xf hB HW HSZ hsz hq
 by_cases h0 : q = 0
 ·subst h0
  go_wp2
  obtain ⟨z0, z1, z2⟩ := set3 x0 x1 x2 (.int .i64 B) (.int .i64 K) (.slice none 0 0)
  have hbF := ((hb.setCell (p := ⟨w.heap.size, 0, none⟩) (by simp) (.int .i64 B)).setCell (p := ⟨w.heap.size, 1, none⟩) (by simp) (.int .i64 K)).setCell (p := ⟨w.heap.size, 2, none⟩) (by simp) (.slice none 0 0)
  generalize ((w1.setCell ⟨w.heap.size, 0, none⟩ (.int .i64 B)).setCell ⟨w.heap.size, 1, none⟩ (.int .i64 K)).setCell ⟨w.heap.size, 2, none⟩ (.slice none 0 0) = w9 at *
  refine bodyPost_ret (v := .tuple #[.agg #[.int .i64 B, .int .i64 K, .slice none 0 0], .int .i64 0]) (by simp [results, Tryz.results133, go_sem, z0, z1, z2]) rfl ?_
  exact ⟨by rw [HV.out, if_pos HQ.out, HQ.out], hbF⟩
 ·have h1 : (q != 0) = true := by simpa using h0
  have H0 := Shut.mk h0
  clear h0
  go_wp2
  obtain ⟨z0, z1, z2⟩ := set3 x0 x1 x2 (.int .i64 0) (.int .i64 0) (.slice none 0 0)
  have hbF := ((hb.setCell (p := ⟨w.heap.size, 0, none⟩) (by simp) (.int .i64 0)).setCell (p := ⟨w.heap.size, 1, none⟩) (by simp) (.int .i64 0)).setCell (p := ⟨w.heap.size, 2, none⟩) (by simp) (.slice none 0 0)
  generalize ((w1.setCell ⟨w.heap.size, 0, none⟩ (.int .i64 0)).setCell ⟨w.heap.size, 1, none⟩ (.int .i64 0)).setCell ⟨w.heap.size, 2, none⟩ (.slice none 0 0) = w9 at *
  refine bodyPost_ret (v := .tuple #[.agg #[.int .i64 0, .int .i64 0, .slice none 0 0], .int .i64 q]) (by simp [results, Tryz.results133, go_sem, z0, z1, z2]) rfl ?_
  exact ⟨by rw [HV.out, if_neg (by rw [HQ.out]; exact H0.out), HQ.out], hbF⟩

theorem cell_blk {w : World} {b : Nat} {c : Array Value} {t : TypeId} {f : Nat × Nat} (h : w.heap[b]? = some (.cells c t f)) (j : Nat) : w.cell? ⟨b, j, none⟩ = c[j]? := by simp only [World.cell?, h]; simp

theorem frozen_blk {w : World} {b : Nat} {c : Array Value} {t : TypeId} (h : w.heap[b]? = some (.cells c t (0, 0))) (j : Nat) : w.frozen? ⟨b, j, none⟩ = false := by simp only [World.frozen?, h]; simp

theorem blk_lt {w : World} {b : Nat} {x : Obj} (h : w.heap[b]? = some x) : b < w.heap.size := (Array.getElem?_eq_some_iff.1 h).1

theorem blk_below {w w' : World} {b : Nat} {x : Obj} (h : w.heap[b]? = some x) (hb : Below w.heap.size w w') : w'.heap[b]? = some x := (hb.block b (blk_lt h)).trans h

def AddAnsC (w w' : World) (n k : Nat) (A : List LRow) (r : LRow) (e : Ending) : Prop :=
  Below w.heap.size w w' ∧
  ((addL A r = none ∧ e = .returned (.tuple #[.agg #[.int .i64 0, .int .i64 0, .slice none 0 0], .bool false, .int .i64 9])) ∨
   ∃ (P : List LRow) (a : Option Addr) (c : Nat) (rows : List MRow), addL A r = some P ∧ e = .returned (.tuple #[.agg #[.int .i64 n, .int .i64 k, .slice a rows.length c], .bool (decide (P.length = A.length + 1)), .int .i64 0]) ∧
     Lies w' a (rowCells rows) ∧ (∀ x ∈ rows, RowIn w' x ∧ x.h.length ≤ x.hc) ∧ rows.map MRow.says = P ∧ ∀ b o, a = some ⟨b, o, none⟩ → w.heap.size ≤ b)

def AddInv (w wr : World) (n k m g tb : Nat) (sv : Array Value) (R : List MRow) (p : LRow) : Prop :=
  CopyAt w wr g n k R ∧ (∃ r' : MRow, r'.says = p ∧ Good3 wr g n k r' ∧ wr.heap[w.heap.size + 1]? = some (.cells #[r'.hv, r'.dv] 237 (0, 0))) ∧ wr.heap[w.heap.size]? = some (.cells sv 203 (0, 0)) ∧
  wr.heap[w.heap.size + 2]? = some (.cells #[.int .i64 0, .int .i64 0, .slice none 0 0] 203 (0, 0)) ∧ wr.heap[tb]? = some (.cells #[.int .i64 n, .int .i64 k, .slice (some ⟨g, 0, none⟩) m m] 203 (0, 0)) ∧ w.heap.size + 2 < g ∧ g < tb

theorem AddInv.below {w wr w' : World} {n k m g tb : Nat} {sv : Array Value} {R : List MRow} {p : LRow} (h : AddInv w wr n k m g tb sv R p) (hb : Below wr.heap.size wr w') : AddInv w w' n k m g tb sv R p := by
  obtain ⟨h1, ⟨r', h2, h3, h4⟩, h5, h6, h7, h8⟩ := h
  exact ⟨h1.below hb, ⟨r', h2, h3.below hb, blk_below h4 hb⟩, blk_below h5 hb, blk_below h6 hb, blk_below h7 hb, h8⟩

theorem AddInv.put {w wr : World} {n k m g tb : Nat} {sv : Array Value} {R : List MRow} {p : LRow} {t : MRow} (h : AddInv w wr n k m g tb sv R p) (n1 : 1 ≤ n) (k1 : 1 ≤ k) (ht : Own3 wr g n k t) :
    AddInv w ((wr.setCell ⟨w.heap.size + 1, 0, none⟩ t.hv).setCell ⟨w.heap.size + 1, 1, none⟩ t.dv) n k m g tb sv R t.says := by
  obtain ⟨h1, ⟨r', h2, h3, h4⟩, h5, h6, h7, h8, h9⟩ := h
  have gr := grown_trans (grown_setCell wr (w.heap.size + 1) 0 t.hv) (grown_setCell _ (w.heap.size + 1) 1 t.dv)
  have hB : Below w.heap.size w ((wr.setCell ⟨w.heap.size + 1, 0, none⟩ t.hv).setCell ⟨w.heap.size + 1, 1, none⟩ t.dv) := (h1.1.setCell (p := ⟨w.heap.size + 1, 0, none⟩) (by simp) _).setCell (p := ⟨w.heap.size + 1, 1, none⟩) (by simp) _
  refine ⟨h1.far n1 k1 h4 (boxy2 _ _ _ _ _ _) (by omega) gr hB, ⟨t, rfl, ⟨?_, ht.1.2⟩, ?_⟩, block_set (block_set h5 (by omega)) (by omega), block_set (block_set h6 (by omega)) (by omega), block_set (block_set h7 (by omega)) (by omega), h8, h9⟩
  · have hf := ht.1.2.1
    exact ht.1.1.far (by have := hf.1; simp only [MRow.says] at this; omega) (by have := hf.2; simp only [MRow.says] at this; omega) h4 (boxy2 _ _ _ _ _ _) gr
  · have e := heap_set (o := 1) (v := t.dv) (heap_set (o := 0) (v := t.hv) h4)
    rw [e]
    simp

theorem red_next {A : List LRow} {q : Nat} (hq : q < A.length) (r : LRow) : redL (A.take (q + 1)) r = redStep (redL (A.take q) r) A[q] := by
 rw [List.take_succ_eq_append_getElem hq, redL_snoc]

theorem addL_pos {n k f : Nat} {A : List LRow} {p0 p : LRow} (h : Right n k A) (hr : Fits n k p0) (hp : redL A p0 = p) (hf : firstI p.1 = f) :
  addL A p0 = some ((A.map (clrL p)).take (posL (A.map (clrL p)) f) ++ p :: (A.map (clrL p)).drop (posL (A.map (clrL p)) f)) := by
 have hpf : Fits n k p := by rw [← hp]; exact redL_fits h.fits hr
 have e : posL (A.map (clrL p)) f = posL A f := posL_map fun s hs => clrL_first hpf (h.fits s hs) hf (h.sys.lead _ (List.mem_map_of_mem hs)) fun j hj => by
  rw [← hp, h.redL hr]
  exact red_clear h.sys h.of _ _ (List.mem_map_of_mem hs) j hj
 rw [e, ← insL_pos (h.left hr (by rw [hp]; exact hf)), addL, hp, hf, if_neg (by omega)]

theorem zeros_all {d : List UInt8} {k : Nat} (h : d.length = k) : decide (d = List.replicate k 0) = d.all (· == 0) := by
 rw [Bool.eq_iff_iff]
 simp only [decide_eq_true_eq, List.all_eq_true, beq_iff_eq]
 constructor
 ·rintro rfl x hx
  exact List.eq_of_mem_replicate hx
 ·intro hx
  rw [List.eq_replicate_iff]
  exact ⟨h, hx⟩

theorem made_lies (w : World) (k : Nat) : Lies (w.alloc (.cells (madeCells #[Value.int .u8 0] k) 5)) (some ⟨w.heap.size, 0, none⟩) (bs (List.replicate k 0)) := by
 have h := rowIs_lies (World.rowIs_made w (.int .u8 0) k 5)
 have e : bs (List.replicate k 0) = (List.range k).map fun _ => Value.int .u8 0 := by
  apply List.ext_getElem
  ·simp [bs]
  ·intro i h1 h2
   simp [bs]
 rw [e]
 exact h

set_option maxHeartbeats 4000000 in
set_option maxRecDepth 4000 in
theorem addS_right (n k m : Nat) (ra : Option Addr) (rc : Nat) (rows : List MRow) (A : List LRow) (r : MRow) (p0 : LRow) (w : World) (hl : Lies w ra (rowCells rows)) (hall : ∀ x ∈ rows, RowIn w x) (hr : RowIn w r) (hmm : rows.length = m) (hAA : rows.map MRow.says = A) (hpp : r.says = p0) (hR : Right n k A) (hfr : Fits n k p0) :
  Calls Tryz.prog 161 #[.agg #[.int .i64 n, .int .i64 k, .slice ra m rc], .agg #[r.hv, r.dv]] w fun e w' => AddAnsC w w' n k A p0 e := by
 obtain ⟨blk0, blk1, blk2⟩ := alloc3' w (.cells #[.int .i64 n, .int .i64 k, .slice ra m rc] 203) (.cells #[r.hv, r.dv] 237) (.cells #[.int .i64 0, .int .i64 0, .slice none 0 0] 203)
 obtain ⟨W, hW⟩ : ∃ W, ((w.alloc (.cells #[.int .i64 n, .int .i64 k, .slice ra m rc] 203)).alloc (.cells #[r.hv, r.dv] 237)).alloc (.cells #[.int .i64 0, .int .i64 0, .slice none 0 0] 203) = W := ⟨_, rfl⟩
 have hB : Below w.heap.size w W := by rw [← hW]; exact (((Below.refl _ _).alloc (Nat.le_refl _) _).alloc (by simp) _).alloc (by simp; omega) _
 have hsz : W.heap.size = w.heap.size + 3 := by rw [← hW]; simp
 rw [hW] at blk0 blk1 blk2
 have x0 := cell_blk blk0 0
 have x1 := cell_blk blk0 1
 have x2 := cell_blk blk0 2
 simp at x0 x1 x2
 rw [← hW] at x0 x1 x2
 have n1 := hR.n1
 have n2 := hR.n2
 have k1 := hR.k1
 have k2 := hR.k2
 have hAl : A.length = m := by rw [← hAA]; simpa using hmm
 have hmr : m ≤ n := by have := hR.few; omega
 have hm : m ≤ 24 := by omega
 have hC := checkS_rows n k ra rc rows W ⟨n1, n2⟩ ⟨k1, k2⟩ (by omega) (hl.below hB (Nat.le_refl _)) (fun x hx => (hall x hx).below hB)
 rw [hmm, hAA, chk_of_right hR] at hC
 have HMM := Shut.mk hmm
 have HAA := Shut.mk hAA
 have HPP := Shut.mk hpp
 have HA := Shut.mk hAl
 have HW := Shut.mk hW
 have HBL := Shut.mk (And.intro blk0 (And.intro blk1 blk2))
 have H1 := Shut.mk hB
 have HSZ := Shut.mk hsz
 have HR := Shut.mk hr
 have HL := Shut.mk (And.intro hl hall)
 have HRT := Shut.mk hR
 have HFR := Shut.mk hfr
 have HD : Shut (decide ((r.h.length : Int) = n ∧ (r.d.length : Int) = k) = true) := ⟨decide_eq_true ⟨by have := hfr.1; rw [← hpp] at this; simp only [MRow.says] at this; omega, by have := hfr.2; rw [← hpp] at this; simp only [MRow.says] at this; omega⟩⟩
 clear hW blk0 blk1 blk2 hr hB hsz hl hall hR hfr hmm hAA hpp hAl
 obtain ⟨rha, rhc, rh, rda, rdc, rd⟩ := r
 simp only [MRow.hv, MRow.dv] at *
 go_enter Tryz.func161, Tryz.ntmps161
 go_wp2_with fail
 rw [HW.out]
 refine hC.mono ?_
 rintro e w1 ⟨rfl, hb⟩
 have b0 := blk_below HBL.out.1 hb
 have b1 := blk_below HBL.out.2.1 hb
 have s0 := cell_blk b0 0
 have s1 := cell_blk b0 1
 have s2 := cell_blk b0 2
 have r0 := cell_blk b1 0
 have r1 := cell_blk b1 1
 simp at s0 s1 s2 r0 r1
 have hb1 := H1.out.trans (hb.mono H1.out.size)
 have hF := fits_any n k ra m rc ⟨rha, rhc, rh, rda, rdc, rd⟩ w1 (HR.out.below hb1)
 rw [HD.out] at hF
 simp only [MRow.hv, MRow.dv] at hF
 have HB1 := Shut.mk hb
 clear hC hb hb1 x0 x1 x2 HW b0 b1 HD
 go_wp2_with fail
 refine hF.mono ?_
 rintro e w2 ⟨rfl, hb⟩
 have hb' := HB1.out.trans (hb.mono HB1.out.size)
 have b0 := blk_below HBL.out.1 hb'
 have s0 := cell_blk b0 0
 have s1 := cell_blk b0 1
 have s2 := cell_blk b0 2
 simp at s0 s1 s2
 have hb1 := H1.out.trans (hb'.mono H1.out.size)
 have hCp := systemCopy_any n k ra rc rows w2 (HL.out.1.below hb1 (Nat.le_refl _)) (fun x hx => (HL.out.2 x hx).below hb1) (fun x hx => HRT.out.fits _ (by rw [← HAA.out]; exact List.mem_map_of_mem hx)) n1 n2 k1 k2 (by rw [HMM.out]; exact hm)
 rw [HMM.out] at hCp
 have HB2 := Shut.mk hb'
 clear hF hb hb' hb1 b0 HB1 r0 r1
 go_wp2_with fail
 refine hCp.mono ?_
 rintro e w3 ⟨g, R, rfl, hC, hRs⟩
 have hb3 := HB2.out.trans (hC.1.mono HB2.out.size)
 have hbw := H1.out.trans (hb3.mono H1.out.size)
 have hgs : w.heap.size + 2 < g := by have h1 := hC.2.1; have h2 := HB2.out.size; rw [HSZ.out] at h2; omega
 have bd : Below w3.heap.size w3 (w3.alloc (.cells #[.int .i64 n, .int .i64 k, .slice (some ⟨g, 0, none⟩) m m] 203)) := (Below.refl _ _).alloc (Nat.le_refl _) _
 have hRl : R.length = m := by have := congrArg List.length hRs; rw [← HMM.out]; simpa using this
 rw [HAA.out] at hRs
 have H0 : Shut (AddInv w (w3.alloc (.cells #[.int .i64 n, .int .i64 k, .slice (some ⟨g, 0, none⟩) m m] 203)) n k m g w3.heap.size #[.int .i64 n, .int .i64 k, .slice ra m rc] R p0) := ⟨by
  have hrw := HR.out.below hbw
  have hof1 : ∀ b o, (MRow.mk rha rhc rh rda rdc rd).ha = some ⟨b, o, none⟩ → b ≠ g := fun b o e => by
   have := lies_off (g := g) HR.out.1 (by have := HFR.out.1; rw [← HPP.out] at this; simp only [MRow.says] at this; simp; omega) (by omega) b o e
   exact this
  have hof2 : ∀ b o, (MRow.mk rha rhc rh rda rdc rd).da = some ⟨b, o, none⟩ → b ≠ g := fun b o e => by
   have := lies_off (g := g) HR.out.2.1 (by have := HFR.out.2; rw [← HPP.out] at this; simp only [MRow.says] at this; simp [bs]; omega) (by omega) b o e
   exact this
  have hCw : CopyAt w w3 g n k R := hC.from (H1.out.trans (HB2.out.mono H1.out.size))
  have bS := blk_below HBL.out.1 hb3
  have bR := blk_below HBL.out.2.1 hb3
  have bQ := blk_below HBL.out.2.2 hb3
  refine ⟨hCw.below bd, ⟨_, HPP.out, ⟨hrw.below bd, by rw [HPP.out]; exact HFR.out, hof1, hof2⟩, blk_below bR bd⟩, blk_below bS bd, blk_below bQ bd, ?_, hgs, ?_⟩
  ·rw [heap_alloc_eq, if_pos rfl]
  ·exact hC.2.2.1⟩
 have HRS := Shut.mk hRs
 have HRL := Shut.mk hRl
 clear hCp hC hRs hb3 hbw hRl bd s0 s1 s2 HB2 HL HR HBL
 have T0 := H0.out.2.2.2.2.1
 have t0 := cell_blk T0 0
 have t1 := cell_blk T0 1
 have t2 := cell_blk T0 2
 simp at t0 t1 t2
 clear T0
 go_wp2
 go_loopw [28] (fun v wr => ∃ q : Nat, q ≤ m ∧ v = .int .i64 q ∧ Shut (AddInv w wr n k m g w3.heap.size #[.int .i64 n, .int .i64 k, .slice ra m rc] R (redL (A.take q) p0))) (fun v _ => m - (intOf v).toNat)
 case atStart => exact ⟨0, Nat.zero_le _, rfl, H0⟩
 case round =>
  clear H0 t0 t1 t2
  obtain ⟨q, hq, rfl, HI⟩ := hrel
  by_cases hlt : q < m
  ·have hqA : q < A.length := by rw [HA.out]; exact hlt
   have hqR : q < R.length := by rw [HRL.out]; exact hlt
   obtain ⟨i1, ⟨r', i2, i3, i4⟩, i5⟩ := HI.out
   obtain ⟨a0, a1⟩ := i1.2.2.2.1.cells hqR
   have hO := i1.2.2.2.2 _ (List.getElem_mem hqR)
   have HS : Shut (R[q].says = A[q]) := ⟨by simp [← HRS.out]⟩
   have HNX := Shut.mk (red_next hqA p0)
   rw [← HS.out] at HNX
   obtain ⟨F, hFi⟩ : ∃ F : Nat, firstI R[q].h = F := by
    obtain ⟨j, hj⟩ := HRT.out.sys.lead _ (List.mem_map_of_mem (List.getElem_mem hqA))
    rw [← HS.out] at hj
    exact ⟨j, firstI_lead.2 hj⟩
   generalize R[q]'hqR = O at *
   have bd : Below wr.heap.size wr (wr.alloc (.cells #[O.hv, O.dv] 237)) := (Below.refl _ _).alloc (Nat.le_refl _) _
   obtain ⟨v0, v1⟩ := Box2.mk wr O.hv O.dv 237
   have HI2 := Shut.mk (HI.out.below bd)
   have hO2 := hO.below bd
   have hr2 := i3.below bd
   have bR := blk_below i4 bd
   have u0 := cell_blk bR 0
   have u1 := cell_blk bR 1
   simp at u0 u1
   have HgW : Shut (g < wr.heap.size) := ⟨i1.2.2.1⟩
   clear i1 i3 i4 i5 hO HI bd bR
   have hrl : r'.h.length = n := hr2.2.1.1
   have hFn : F < n := by
    have h1 := firstI_lt O.h
    have h2 := hO2.1.2.1.1
    simp only [MRow.says] at h2
    omega
   have hr24 : r'.h.length ≤ 24 := by omega
   have hFr : F < r'.h.length := by omega
   obtain ⟨rb, ro, hrr⟩ := hr2.1.1.some (k := F) (by simpa using hFr)
   have c2 : (wr.alloc (.cells #[O.hv, O.dv] 237)).cell? ⟨rb, ro + F, none⟩ = some (.bool r'.h[F]) := by
    have h := hr2.1.1
    rw [hrr] at h
    exact h.at (by simp [hFr])
   have HGD : Shut ((redL (A.take q) p0).1.getD (firstI O.says.1).toNat false = r'.h[F]) := ⟨by
    rw [← i2, show firstI O.says.1 = F from hFi]
    show r'.h.getD F false = _
    rw [List.getD_eq_getElem?_getD, List.getElem?_eq_getElem hFr]
    rfl⟩
   have HI2s := Shut.mk i2
   have HFI := Shut.mk hFi
   obtain ⟨w5, hw5⟩ : ∃ w5, wr.alloc (.cells #[O.hv, O.dv] 237) = w5 := ⟨_, rfl⟩
   have HW5 := Shut.mk hw5
   have hCF : ∀ u : Above w5, Calls Tryz.prog 162 #[.agg #[O.hv, O.dv]] u.w fun e w' => e = .returned (.int .i64 F) ∧ Below u.w.heap.size u.w w' := fun u => by
    have h := first_any O u.w ((hw5 ▸ hO2.1.1).below u.below)
    rw [hFi] at h
    exact h
   clear hrl i2 hFi hw5
   obtain ⟨oha, ohc, oh, oda, odc, od⟩ := O
   obtain ⟨xha, xhc, xh, xda, xdc, xd⟩ := r'
   simp only [MRow.hv, MRow.dv] at *
   subst hrr
   go_upto_region 10 with fail
   rw [HW5.out] at v0 v1 u0 u1 c2 hO2 hr2 HI2 ⊢
   have y0 : ∀ u : Above w5, u.w.cell? ⟨wr.heap.size, 0, none⟩ = some (.slice oha oh.length ohc) := fun u => u.cell v0
   have y1 : ∀ u : Above w5, u.w.cell? ⟨wr.heap.size, 1, none⟩ = some (.slice oda od.length odc) := fun u => u.cell v1
   have y2 : ∀ u : Above w5, u.w.cell? ⟨w.heap.size + 1, 0, none⟩ = some (.slice (some ⟨rb, ro, none⟩) xh.length xhc) := fun u => u.cell u0
   have y3 : ∀ u : Above w5, u.w.cell? ⟨rb, ro + F, none⟩ = some (.bool xh[F]) := fun u => u.cell c2
   have ne : Nonempty (Above w5) := ⟨Above.start w5⟩
   refine wp_region_above (by kernel_rfl) (by kernel_rfl) ?_
   repeat (go_big_quiet_step ((go_at_call 162; exact Calls.above (hCF _))))
   refine wpQuiet_nil ?_
   rintro _ ⟨u, rfl⟩
   replace HI2 := Shut.mk (HI2.out.below u.below)
   replace hO2 := hO2.below u.below
   replace hr2 := hr2.below u.below
   have z0 := y0 u
   have z1 := y1 u
   have z2 := y2 u
   have z3 := u.cell u1
   have h35 : wr.heap.size ≤ w5.heap.size := by rw [← HW5.out]; simp
   have HgU : Shut (g < u.w.heap.size) := ⟨by have h1 := HgW.out; have h2 := u.below.size; omega⟩
   clear y0 y1 y2 y3 v0 v1 u0 u1 c2 hCF ne HW5 a0 a1 h35
   generalize u.w = w6 at *
   cases hx : xh[F]
   ·rw [hx] at HGD
    have R1 : Shut (AddInv w w6 n k m g w3.heap.size #[.int .i64 n, .int .i64 k, .slice ra m rc] R (redL (A.take (q + 1)) p0)) := ⟨by
     rw [HNX.out, redStep, if_neg (by rw [HGD.out]; simp)]
     exact HI2.out⟩
    clear hx HI2 hO2 hr2 HGD HNX
    go_wp2
    go_roundw
    case rel => exact ⟨q + 1, by omega, by go_num, R1⟩
    case measure => simp [intOf]; omega
   ·rw [hx] at HGD
    have HNX2 : Shut (redL (A.take (q + 1)) p0 = LRow.add (redL (A.take q) p0) (MRow.mk oha ohc oh oda odc od).says) := ⟨by rw [HNX.out, redStep, if_pos HGD.out]⟩
    have hP := plus_any ⟨some ⟨rb, ro, none⟩, xhc, xh, xda, xdc, xd⟩ ⟨oha, ohc, oh, oda, odc, od⟩ n k w6 hr2.1 hO2.1.1 hr2.2.1 hO2.1.2.1 n1 n2 k1 k2
    simp only [MRow.hv, MRow.dv] at hP
    have HFx := Shut.mk hr2.2.1
    have HFo := Shut.mk hO2.1.2.1
    clear hx hO2 hr2 HGD HNX
    go_wp2_with fail
    refine hP.mono ?_
    rintro e w7 ⟨t, rfl, hN, hTs, hb7⟩
    have HI3 := HI2.out.below hb7
    have hOt : Own3 w7 g n k t := hN.own (by rw [hTs]; exact LRow.fits_add HFx.out HFo.out) HgU.out
    have R1 : Shut (AddInv w ((w7.setCell ⟨w.heap.size + 1, 0, none⟩ t.hv).setCell ⟨w.heap.size + 1, 1, none⟩ t.dv) n k m g w3.heap.size #[.int .i64 n, .int .i64 k, .slice ra m rc] R (redL (A.take (q + 1)) p0)) := ⟨by
     rw [HNX2.out, ← HI2s.out, ← hTs]
     exact HI3.put n1 k1 hOt⟩
    obtain ⟨_, ⟨r3, _, _, j4⟩, _⟩ := HI3
    have c0 := cell_blk j4 0
    have c1 := cell_blk j4 1
    have f0 := frozen_blk j4 0
    have f1 := frozen_blk j4 1
    simp at c0 c1
    generalize r3.hv = y0 at *
    generalize r3.dv = y1 at *
    clear j4 hP hN hTs hb7 HI2 hOt z0 z1 z2 z3 HNX2
    obtain ⟨tha, thc, th, tda, tdc, td⟩ := t
    simp only [MRow.hv, MRow.dv] at *
    go_wp2
    go_roundw
    case rel => exact ⟨q + 1, by omega, by go_num, R1⟩
    case measure => simp [intOf]; omega
  ·obtain rfl : q = m := by omega
   rw [List.take_of_length_le (by rw [HA.out]; exact Nat.le_refl _)] at HI
   obtain ⟨i1, ⟨r', i2, i3, i4⟩, i5, i6, i7, i8, i9⟩ := HI.out
   have u0 := cell_blk i4 0
   have u1 := cell_blk i4 1
   simp at u0 u1
   have hCF := first_any r' wr i3.1
   have HP := Shut.mk i2
   obtain ⟨p, hp⟩ : ∃ p, redL A p0 = p := ⟨_, rfl⟩
   rw [hp] at HI HP i2
   have HPD := Shut.mk hp
   obtain ⟨F, hF⟩ : ∃ F, firstI r'.h = F := ⟨_, rfl⟩
   rw [hF] at hCF
   have HFp : Shut (firstI p.1 = F) := ⟨by rw [← i2]; exact hF⟩
   clear i1 i2 i3 i4 i5 i6 i7 i8 i9 hp hF
   obtain ⟨xha, xhc, xh, xda, xdc, xd⟩ := r'
   simp only [MRow.hv, MRow.dv] at *
   go_wp2_with fail
   refine hCF.mono ?_
   rintro e w6 ⟨rfl, hb6⟩
   replace HI := Shut.mk (HI.out.below hb6)
   clear hCF hb6 u0 u1
   rcases Int.lt_or_le F 0 with hneg | hpos
   ·have hF1 : F = -1 := by have := firstI_ge p.1; rw [HFp.out] at this; omega
    subst hF1
    obtain ⟨i1, ⟨r', i2, i3, i4⟩, i5, i6, i7, i8, i9⟩ := HI.out
    have c1 := cell_blk i4 1
    have d1 := cell_blk i5 1
    simp at c1 d1
    have hmk := run_make_row' (P := Tryz.prog) 36 5 (.int .u8 0) 1 Tryz.underlying36 infoU8 rfl .i64 .i64 k (by omega) (by omega)
    have hdl : r'.d.length = k := i3.2.1.2
    have bd : Below w6.heap.size w6 ((w6.alloc (.cells (madeCells #[Value.int .u8 0] k) 5)).drew) := ((Below.refl _ _).alloc (Nat.le_refl _) _).drew
    have hSm := same_any r'.da (some ⟨w6.heap.size, 0, none⟩) k k r'.dc k r'.d (List.replicate k 0) ((w6.alloc (.cells (madeCells #[Value.int .u8 0] k) 5)).drew) hdl (by simp) ((i3.1.below bd).2.1) ((made_lies w6 k).below (Below.refl _ _).drew (Nat.le_refl _))
    rw [zeros_all hdl] at hSm
    have HAL : Shut (r'.d.all (· == 0) = (redL A p0).2.all (· == 0)) := ⟨by rw [HPD.out, ← i2]; rfl⟩
    rw [HAL.out] at hSm
    have HRA : Shut (addL A p0 = if (redL A p0).2.all (· == 0) = true then some A else none) := ⟨by rw [addL, if_pos (by rw [HPD.out]; exact HFp.out)]⟩
    have HI7 := Shut.mk (HI.out.below bd)
    have hlt1 : w.heap.size + 1 < w6.heap.size := blk_lt i4
    have c1A : ((w6.alloc (.cells (madeCells #[Value.int .u8 0] k) 5))).cell? ⟨w.heap.size + 1, 1, none⟩ = some r'.dv := cellA' c1 _
    clear HAL i1 i2 i3 i4 i5 i6 i7 i8 i9 HI bd
    obtain ⟨yha, yhc, yh, yda, ydc, yd⟩ := r'
    simp only [MRow.hv, MRow.dv] at *
    rw [hdl] at c1 c1A
    clear hdl
    obtain ⟨z, hz⟩ : ∃ z, (redL A p0).2.all (· == 0) = z := ⟨_, rfl⟩
    rw [hz] at HRA hSm
    clear hz
    go_wp2
    go_region_with (first | (go_at_call 120; refine hSm.mono ?_; rintro e w7 ⟨rfl, rfl⟩))
    all_goals
     clear hSm hmk c1 d1 c1A
     generalize ((w6.alloc (.cells (madeCells #[Value.int .u8 0] k) 5)).drew) = w7 at *
     obtain ⟨i1, ⟨r', i2, i3, i4⟩, i5, i6, i7, i8, i9⟩ := HI7.out
     have q0 := cell_blk i6 0
     have q1 := cell_blk i6 1
     have q2 := cell_blk i6 2
     have t0 := cell_blk i7 0
     have t1 := cell_blk i7 1
     have t2 := cell_blk i7 2
     have f0 := frozen_blk i6 0
     have f1 := frozen_blk i6 1
     have f2 := frozen_blk i6 2
     simp at q0 q1 q2 t0 t1 t2
     have HB7 := Shut.mk i1
     have HBK := Shut.mk (And.intro i6 (And.intro i8 i9))
     clear i1 i2 i3 i4 i5 i6 i7 i8 i9 HI7
     cases z
     ·have HRA2 : Shut (addL A p0 = none) := ⟨HRA.out⟩
      clear HRA
      go_wp2
      obtain ⟨y0, y1, y2⟩ := set3 q0 q1 q2 (.int .i64 0) (.int .i64 0) (.slice none 0 0)
      have hbF := ((HB7.out.1.setCell (p := ⟨w.heap.size + 2, 0, none⟩) (by simp) (.int .i64 0)).setCell (p := ⟨w.heap.size + 2, 1, none⟩) (by simp) (.int .i64 0)).setCell (p := ⟨w.heap.size + 2, 2, none⟩) (by simp) (.slice none 0 0)
      clear HB7
      generalize ((w7.setCell ⟨w.heap.size + 2, 0, none⟩ (.int .i64 0)).setCell ⟨w.heap.size + 2, 1, none⟩ (.int .i64 0)).setCell ⟨w.heap.size + 2, 2, none⟩ (.slice none 0 0) = w9 at *
      refine bodyPost_ret (v := .tuple #[.agg #[.int .i64 0, .int .i64 0, .slice none 0 0], .bool false, .int .i64 9]) (by simp [results, Tryz.results161, go_sem, y0, y1, y2]) rfl ?_
      exact ⟨hbF, .inl ⟨HRA2.out, rfl⟩⟩
     ·have HRA2 : Shut (addL A p0 = some A) := ⟨HRA.out⟩
      clear HRA
      go_wp2
      obtain ⟨rs, hrs⟩ : ∃ rs, Value.slice (some ⟨g, 0, none⟩) q q = rs := ⟨_, rfl⟩
      rw [hrs]
      obtain ⟨y0, y1, y2⟩ := set3 q0 q1 q2 (.int .i64 n) (.int .i64 k) rs
      have gr := grown_trans (grown_trans (grown_setCell w7 (w.heap.size + 2) 0 (.int .i64 n)) (grown_setCell _ (w.heap.size + 2) 1 (.int .i64 k))) (grown_setCell _ (w.heap.size + 2) 2 rs)
      have hbF := ((HB7.out.1.setCell (p := ⟨w.heap.size + 2, 0, none⟩) (by simp) (.int .i64 n)).setCell (p := ⟨w.heap.size + 2, 1, none⟩) (by simp) (.int .i64 k)).setCell (p := ⟨w.heap.size + 2, 2, none⟩) (by simp) rs
      have cF := HB7.out.far n1 k1 HBK.out.1 (boxy3 _ _ _ _ _) (by have := HBK.out.2.1; omega) gr hbF
      clear HB7 gr
      generalize ((w7.setCell ⟨w.heap.size + 2, 0, none⟩ (.int .i64 n)).setCell ⟨w.heap.size + 2, 1, none⟩ (.int .i64 k)).setCell ⟨w.heap.size + 2, 2, none⟩ rs = w9 at *
      refine bodyPost_ret (v := .tuple #[.agg #[.int .i64 n, .int .i64 k, rs], .bool false, .int .i64 0]) (by simp [results, Tryz.results161, go_sem, y0, y1, y2]) rfl ?_
      refine ⟨hbF, .inr ⟨A, some ⟨g, 0, none⟩, q, R, HRA2.out, ?_, cF.2.2.2.1.1, fun x hx => ⟨(cF.2.2.2.2 x hx).1.1, (cF.2.2.2.2 x hx).2⟩, HRS.out, fun b o e => by cases e; exact cF.2.1⟩⟩
      rw [← hrs, HRL.out, decide_eq_false (by omega)]
   ·obtain ⟨f, rfl⟩ : ∃ f : Nat, F = f := ⟨F.toNat, by omega⟩
    obtain ⟨i1, ⟨r', i2, i3, i4⟩, i5, i6, i7, i8, i9⟩ := HI.out
    have c0 := cell_blk i4 0
    have c1 := cell_blk i4 1
    have d2 := cell_blk i7 2
    simp at c0 c1 d2
    have hIn := insert_any w w6 g n k q f R r' i1 i3 (by rw [← HFp.out, ← i2]; rfl) HRL.out hm n1 n2 k1 k2
    have e1 : (((f : Nat) : Int) != -1) = true := by simp
    have HS2 := Shut.mk i2
    have HBK := Shut.mk (And.intro i6 (And.intro i7 (And.intro i8 i9)))
    clear i1 i2 i3 i4 i5 i6 i7 i8 i9 HI hpos
    obtain ⟨yha, yhc, yh, yda, ydc, yd⟩ := r'
    simp only [MRow.hv, MRow.dv] at *
    go_wp2_with fail
    refine hIn.mono ?_
    rintro e w7 ⟨g', c', R', rfl, hl7, hR7, hR7l, hR7s, hb7, hsz7, hk7, hg7⟩
    have hsT := blk_lt HBK.out.2.1
    have hsQ := blk_lt HBK.out.1
    have bQ := (hk7 (w.heap.size + 2) hsQ (by have := HBK.out.2.2.1; omega)).trans HBK.out.1
    have bT := (hk7 w3.heap.size hsT (by have := HBK.out.2.2.2; omega)).trans HBK.out.2.1
    have HNE : Shut (g' ≠ w3.heap.size ∧ g' ≠ w.heap.size + 2 ∧ w.heap.size + 2 ≠ w3.heap.size ∧ w.heap.size ≤ g') := ⟨by omega, by omega, by have := HBK.out.2.2; omega, by omega⟩
    have t0 := cell_blk bT 0
    have t1 := cell_blk bT 1
    have t2 := cell_blk bT 2
    have q0 := cell_blk bQ 0
    have q1 := cell_blk bQ 1
    have q2 := cell_blk bQ 2
    have ft := frozen_blk bT 2
    have f0 := frozen_blk bQ 0
    have f1 := frozen_blk bQ 1
    have f2 := frozen_blk bQ 2
    simp at t0 t1 t2 q0 q1 q2
    have HX := Shut.mk (And.intro hl7 (And.intro hR7 (And.intro hR7s (And.intro bQ bT))))
    have HRL7 := Shut.mk hR7l
    have hne := HNE.out.2.2.1
    have hwt : w.heap.size ≤ w3.heap.size := by have := HBK.out.2.2; omega
    clear hIn hl7 hR7 hR7s hsz7 hk7 hg7 bQ bT HBK hsT hsQ c0 c1 d2 hR7l
    go_wp2
    obtain ⟨rs, hrs⟩ : ∃ rs, Value.slice (some ⟨g', 0, none⟩) (q + 1) c' = rs := ⟨_, rfl⟩
    rw [hrs]
    have hA : Below w.heap.size w (w7.setCell ⟨w3.heap.size, 2, none⟩ rs) := hb7.setCell (p := ⟨w3.heap.size, 2, none⟩) (by simpa using hwt) rs
    have q0' : (w7.setCell ⟨w3.heap.size, 2, none⟩ rs).cell? ⟨w.heap.size + 2, 0, none⟩ = some (.int .i64 0) := by rw [World.cell?_setCell_other _ _ _ _ (by intro e; injection e; omega)]; exact q0
    have q1' : (w7.setCell ⟨w3.heap.size, 2, none⟩ rs).cell? ⟨w.heap.size + 2, 1, none⟩ = some (.int .i64 0) := by rw [World.cell?_setCell_other _ _ _ _ (by intro e; injection e; omega)]; exact q1
    have q2' : (w7.setCell ⟨w3.heap.size, 2, none⟩ rs).cell? ⟨w.heap.size + 2, 2, none⟩ = some (.slice none 0 0) := by rw [World.cell?_setCell_other _ _ _ _ (by intro e; injection e; omega)]; exact q2
    have bQ := block_set (o := 2) (v := rs) HX.out.2.2.2.1 (show w.heap.size + 2 ≠ w3.heap.size by omega)
    obtain ⟨z0, z1, z2⟩ := set3 q0' q1' q2' (.int .i64 n) (.int .i64 k) rs
    have gr1 := grown_setCell w7 w3.heap.size 2 rs
    have gr2 := grown_trans (grown_trans (grown_setCell (w7.setCell ⟨w3.heap.size, 2, none⟩ rs) (w.heap.size + 2) 0 (.int .i64 n)) (grown_setCell _ (w.heap.size + 2) 1 (.int .i64 k))) (grown_setCell _ (w.heap.size + 2) 2 rs)
    have hF := ((hA.setCell (p := ⟨w.heap.size + 2, 0, none⟩) (by simp) (.int .i64 n)).setCell (p := ⟨w.heap.size + 2, 1, none⟩) (by simp) (.int .i64 k)).setCell (p := ⟨w.heap.size + 2, 2, none⟩) (by simp) rs
    have hPF := addL_pos HRT.out HFR.out HPD.out HFp.out
    have e9 : R'.map MRow.says = _ := HX.out.2.2.1
    rw [HRS.out, HS2.out] at e9
    rw [← e9] at hPF
    have hfit : ∀ x ∈ R', 0 < x.h.length ∧ 0 < x.d.length := fun x hx => by
     have h := (addL_right HRT.out HFR.out hPF).1.fits _ (List.mem_map_of_mem hx)
     have h1 := h.1
     have h2 := h.2
     simp only [MRow.says] at h1 h2
     omega
    have hRF : ∀ x ∈ R', RowIn (((((w7.setCell ⟨w3.heap.size, 2, none⟩ rs).setCell ⟨w.heap.size + 2, 0, none⟩ (.int .i64 n)).setCell ⟨w.heap.size + 2, 1, none⟩ (.int .i64 k)).setCell ⟨w.heap.size + 2, 2, none⟩ rs)) x ∧ x.h.length ≤ x.hc := fun x hx =>
     ⟨(((HX.out.2.1 x hx).1.far (hfit x hx).1 (hfit x hx).2 HX.out.2.2.2.2 (boxy3 _ _ _ _ _) gr1)).far (hfit x hx).1 (hfit x hx).2 bQ (boxy3 _ _ _ _ _) gr2, (HX.out.2.1 x hx).2⟩
    have hLF := lies_grown gr2 (lies_grown gr1 HX.out.1 fun b o e => by cases e; exact HNE.out.1) fun b o e => by cases e; exact HNE.out.2.1
    clear hfit bQ gr1 gr2 q0' q1' q2' hA q0 q1 q2 t0 t1 t2 ft f0 f1 f2 e9 HX
    generalize (((w7.setCell ⟨w3.heap.size, 2, none⟩ rs).setCell ⟨w.heap.size + 2, 0, none⟩ (.int .i64 n)).setCell ⟨w.heap.size + 2, 1, none⟩ (.int .i64 k)).setCell ⟨w.heap.size + 2, 2, none⟩ rs = w9 at *
    refine bodyPost_ret (v := .tuple #[.agg #[.int .i64 n, .int .i64 k, rs], .bool true, .int .i64 0]) (by simp [results, Tryz.results161, go_sem, z0, z1, z2]) rfl ?_
    refine ⟨hF, .inr ⟨_, some ⟨g', 0, none⟩, c', R', hPF, ?_, hLF, hRF, rfl, fun b o e => by cases e; exact HNE.out.2.2.2⟩⟩
    rw [← hrs, HRL7.out, decide_eq_true (by rw [List.length_map, HRL7.out, HA.out])]

def KnInv (w wr : World) (g n : Nat) (A : List LRow) : Prop :=
 Below w.heap.size w wr ∧ w.heap.size ≤ g ∧ g < wr.heap.size ∧ ∃ bl : List Blk, bl.length = n ∧ wr.rowIs g 36 n (fun j => (bl[j]?.getD nilB).val) ∧ AllIn wr bl ∧
  (∀ b ∈ bl, (∀ c o, b.a = some ⟨c, o, none⟩ → c ≠ g) ∧ b.l.length ≤ b.cap ∧ (b.l = [] → b = nilB)) ∧ bl.map Blk.l = knownL n A

theorem KnInv.start {w W0 : World} {n : Nat} (hb : Below w.heap.size w W0) : KnInv w (W0.alloc (.cells (madeCells #[Value.slice none 0 0] n) 36)) W0.heap.size n [] := by
 refine ⟨hb.alloc hb.size _, hb.size, by simp, List.replicate n nilB, by simp, ?_, ?_, ?_, ?_⟩
 ·refine (World.rowIs_made W0 _ n _).congr fun j hj => ?_
  simp [hj, nilB, Blk.val]
 ·intro b hb'
  obtain rfl := List.eq_of_mem_replicate hb'
  exact ⟨Lies.nil _ _, by simp [nilB, maxLen]⟩
 ·intro b hb'
  obtain rfl := List.eq_of_mem_replicate hb'
  exact ⟨(fun c o e => by cases e), Nat.le_refl _, fun _ => rfl⟩
 ·simp [knownL, nilB]

theorem KnInv.below {w wr w' : World} {g n : Nat} {A : List LRow} (h : KnInv w wr g n A) (hb : Below wr.heap.size wr w') : KnInv w w' g n A := by
 obtain ⟨h1, h2, h3, bl, h4, h5, h6, h7⟩ := h
 exact ⟨h1.trans (hb.mono h1.size), h2, by have := hb.size; omega, bl, h4, rowIs_below h5 hb h3, h6.below hb, h7⟩

theorem KnInv.put {w wr : World} {g n F q : Nat} {p : Option Addr} {A : List LRow} {r : MRow} (h : KnInv w wr g n A) (hc : r.h.count true = 1) (hF : firstI r.h = F) (hd : 0 < r.d.length) (hl : Lies wr p (bs r.d)) (hm : r.d.length ≤ maxLen) (hq : r.d.length ≤ q) (hp : ∀ c o, p = some ⟨c, o, none⟩ → c ≠ g) :
  KnInv w (wr.setCell ⟨g, F, none⟩ (.slice p r.d.length q)) g n (A ++ [r.says]) := by
 obtain ⟨h1, h2, h3, bl, h4, h5, h6, h7, h8⟩ := h
 have gr := grown_setCell wr g F (.slice p r.d.length q)
 refine ⟨h1.setCell (p := ⟨g, F, none⟩) (by simpa using h2) _, h2, by simpa using h3, bl.set F ⟨p, q, r.d⟩, by simpa using h4, ?_, ?_, ?_, ?_⟩
 ·refine (h5.set F _).congr fun j hj => ?_
  by_cases e : j = F
  ·subst e
   simp [h4, hj, Blk.val]
  ·rw [if_neg e, List.getElem?_set_ne (Ne.symm e)]
 ·intro b hb'
  rcases List.mem_or_eq_of_mem_set hb' with hm' | rfl
  ·exact ⟨lies_grown gr (h6 b hm').1 (h7 b hm').1, (h6 b hm').2⟩
  ·exact ⟨lies_grown gr hl hp, hm⟩
 ·intro b hb'
  rcases List.mem_or_eq_of_mem_set hb' with hm' | rfl
  ·exact h7 b hm'
  ·exact ⟨hp, hq, fun e => by simp only at e; rw [e] at hd; simp at hd⟩
 ·rw [knownL_snoc, kSet, show r.says.1.count true = 1 from hc, if_pos rfl, List.map_set, h8]
  show _ = (knownL n A).set (firstI r.h).toNat r.d
  rw [hF]
  simp

theorem KnInv.pass {w wr : World} {g n : Nat} {A : List LRow} {r : MRow} (h : KnInv w wr g n A) (hc : ¬ r.h.count true = 1) : KnInv w wr g n (A ++ [r.says]) := by
 obtain ⟨h1, h2, h3, bl, h4, h5, h6, h7, h8⟩ := h
 refine ⟨h1, h2, h3, bl, h4, h5, h6, h7, ?_⟩
 rw [knownL_snoc, kSet, if_neg (by exact hc), h8]

def KnAns (w w' : World) (n : Nat) (A : List LRow) (e : Ending) : Prop :=
 ∃ (g : Nat) (bl : List Blk), e = .returned (.tuple #[.slice (some ⟨g, 0, none⟩) n n, .int .i64 0]) ∧ Lies w' (some ⟨g, 0, none⟩) (bl.map Blk.val) ∧ AllIn w' bl ∧ (∀ b ∈ bl, b.l.length ≤ b.cap ∧ (b.l = [] → b = nilB)) ∧ bl.map Blk.l = knownL n A ∧ Below w.heap.size w w'

set_option maxRecDepth 4000 in
set_option maxHeartbeats 2000000 in
theorem knownS_right (n k m : Nat) (ra : Option Addr) (rc : Nat) (rows : List MRow) (A : List LRow) (w : World) (hl : Lies w ra (rowCells rows)) (hall : ∀ x ∈ rows, RowIn w x) (hcap : ∀ x ∈ rows, x.h.length ≤ x.hc) (hmm : rows.length = m) (hAA : rows.map MRow.says = A) (hR : Right n k A) :
  Calls Tryz.prog 135 #[.agg #[.int .i64 n, .int .i64 k, .slice ra m rc]] w fun e w' => KnAns w w' n A e := by
 have hB : Below w.heap.size w (w.alloc (.cells #[.int .i64 n, .int .i64 k, .slice ra m rc] 203)) := (Below.refl _ _).alloc (Nat.le_refl _) _
 obtain ⟨x0, x1, x2⟩ := Box3.mk w (.int .i64 n) (.int .i64 k) (.slice ra m rc) 203
 have n1 := hR.n1
 have n2 := hR.n2
 have k1 := hR.k1
 have k2 := hR.k2
 have hAl : A.length = m := by rw [← hAA]; simpa using hmm
 have hmr : m ≤ n := by have := hR.few; omega
 have hm : m ≤ 24 := by omega
 have hC := checkS_rows n k ra rc rows _ ⟨n1, n2⟩ ⟨k1, k2⟩ (by omega) (hl.below hB (Nat.le_refl _)) (fun x hx => (hall x hx).below hB)
 rw [hmm, hAA, chk_of_right hR] at hC
 have hmk := run_make_row' (P := Tryz.prog) 207 36 (.slice none 0 0) 24 Tryz.underlying207 infoBlk rfl .i64 .i64 n (by omega) (by omega)
 have HMM := Shut.mk hmm
 have HAA := Shut.mk hAA
 have HA := Shut.mk hAl
 have HRT := Shut.mk hR
 have HL := Shut.mk (And.intro hl (And.intro hall hcap))
 clear hmm hAA hAl hR hall hcap
 go_enter Tryz.func135, Tryz.ntmps135
 go_wp2_with fail
 refine hC.mono ?_
 rintro e w1 ⟨rfl, hb⟩
 have y0 := cellC x0 hb
 have y1 := cellC x1 hb
 have y2 := cellC x2 hb
 have hb1 := hB.trans (hb.mono hB.size)
 have H0 := Shut.mk (KnInv.start (n := n) hb1)
 have y2' : (w1.alloc (.cells (madeCells #[Value.slice none 0 0] n) 36)).cell? ⟨w.heap.size, 2, none⟩ = some (.slice ra m rc) := cellA' y2 _
 clear hC hb x0 x1 x2 hB
 go_wp2
 clear y0 y1 y2 y2' hmk hl
 generalize w1.alloc (.cells (madeCells #[Value.slice none 0 0] n) 36) = W2 at *
 go_loopw [20] (fun v wr => ∃ q : Nat, q ≤ m ∧ v = .int .i64 q ∧ Shut (KnInv w wr w1.heap.size n (A.take q))) (fun v _ => m - (intOf v).toNat)
 case atStart => exact ⟨0, Nat.zero_le _, rfl, H0⟩
 case round =>
  clear H0 hb1
  obtain ⟨q, hq, rfl, HI⟩ := hrel
  by_cases hlt : q < m
  ·have hqR : q < rows.length := by rw [HMM.out]; exact hlt
   have hqA : q < A.length := by rw [HA.out]; exact hlt
   have hlb := HL.out.1.below HI.out.1 (Nat.le_refl _)
   obtain ⟨ab, ao, haa⟩ := hlb.some (k := 2 * q) (by rw [rowCells_length]; omega)
   rw [haa] at hlb
   obtain ⟨a0, a1⟩ := row_at hlb hqR
   have rA := (HL.out.2.1 _ (List.getElem_mem hqR)).below HI.out.1
   have hcp := HL.out.2.2 _ (List.getElem_mem hqR)
   have HS : Shut (rows[q].says = A[q]) := ⟨by simp [← HAA.out]⟩
   have HT : Shut (A.take (q + 1) = A.take q ++ [rows[q].says]) := ⟨by rw [HS.out]; exact List.take_succ_eq_append_getElem hqA⟩
   have hfit := HRT.out.fits _ (List.getElem_mem hqA)
   rw [← HS.out] at hfit
   obtain ⟨F, hFi⟩ : ∃ F : Nat, firstI rows[q].h = F := by
    obtain ⟨j, hj⟩ := HRT.out.sys.lead _ (List.mem_map_of_mem (List.getElem_mem hqA))
    rw [← HS.out] at hj
    exact ⟨j, firstI_lead.2 hj⟩
   generalize rows[q]'hqR = O at *
   have bd : Below wr.heap.size wr (wr.alloc (.cells #[O.hv, O.dv] 237)) := (Below.refl _ _).alloc (Nat.le_refl _) _
   obtain ⟨v0, v1⟩ := Box2.mk wr O.hv O.dv 237
   have hCF := first_any O _ (rA.below bd)
   rw [hFi] at hCF
   have HI2 := Shut.mk (HI.out.below bd)
   have HRA := Shut.mk (rA.below bd)
   have HFI := Shut.mk hFi
   have HFIT := Shut.mk hfit
   have HCNT : Shut (O.h.count true = 1 ↔ ¬ true ∈ O.h.drop (F + 1)) := ⟨count_one hFi⟩
   have hFl : F < O.h.length := by have h1 := firstI_lt O.h; omega
   have hO24 : O.h.length ≤ 24 := by have := hfit.1; simp only [MRow.says] at this; omega
   have HDK : Shut (O.d.length = k) := ⟨hfit.2⟩
   have HgW : Shut (w1.heap.size < wr.heap.size) := ⟨HI.out.2.2.1⟩
   clear bd rA HI hlb hFi hfit
   obtain ⟨oha, ohc, oh, oda, odc, od⟩ := O
   simp only [MRow.hv, MRow.dv] at *
   subst haa
   go_wp2_with fail
   refine hCF.mono ?_
   rintro e w2 ⟨rfl, hb2⟩
   replace HI2 := Shut.mk (HI2.out.below hb2)
   replace HRA := Shut.mk (HRA.out.below hb2)
   have z0 := cellC v0 hb2
   have z1 := cellC v1 hb2
   have HgW2 : Shut (w1.heap.size < w2.heap.size) := ⟨by have h1 := hb2.size; have h2 := HgW.out; simp at h1; omega⟩
   clear hCF hb2 v0 v1 a0 a1 HgW
   obtain ⟨ob, oo, hoo⟩ := HRA.out.1.some (k := F) (by simpa using hFl)
   simp only at hoo
   subst hoo
   have hdl : oh.length - (F + 1) = (oh.drop (F + 1)).length := by simp
   have hCn : ∀ (a : Option Addr) (c : Nat), (a = some ⟨ob, oo + (F + 1), none⟩ ∨ oh.length = F + 1) → Calls Tryz.prog 163 #[.slice a (oh.length - (F + 1)) c, .bool true] w2 fun e w' => e = .returned (.bool (decide (true ∈ oh.drop (F + 1)))) ∧ w2 = w' := fun a c h => by
    rw [hdl]
    refine containsT_any a c (oh.drop (F + 1)) w2 (by unfold maxLen; simp; omega) ?_
    rcases h with rfl | h
    ·refine Lies.mk fun j hj => ?_
     have := HRA.out.1.at (k := F + 1 + j) (u := .bool (oh[F + 1 + j]'(by simp at hj; omega))) (by simp)
     simp only [List.getElem_map, List.getElem_drop]
     rw [← this]
     congr 2
     omega
    ·rw [List.drop_of_length_le (by omega)]
     exact Lies.nil _ _
   clear hdl
   have hFn : F < n := by have h1 := HFIT.out.1; simp only [MRow.says] at h1; omega
   obtain ⟨b, hbm⟩ : ∃ b, decide (true ∈ oh.drop (F + 1)) = b := ⟨_, rfl⟩
   simp only [hbm] at hCn
   have HB := Shut.mk hbm
   clear hbm
   by_cases hcc : ohc = F + 1
   all_goals
    go_wp2_with fail
    refine (hCn _ _ (by first | exact .inl rfl | exact .inr (by omega))).mono ?_
    rintro e w3 ⟨rfl, rfl⟩
    clear hCn
    cases b
    ·have hc1 : oh.count true = 1 := HCNT.out.2 (of_decide_eq_false HB.out)
     have HC1 := Shut.mk hc1
     obtain ⟨db, do', hdd⟩ := HRA.out.2.1.some (k := 0) (by simp [bs]; have := HDK.out; omega)
     simp only at hdd
     subst hdd
     have hCl := cloneD_any db do' odc od.length od w2 rfl (by have := HDK.out; omega) HRA.out.2.1
     clear hc1
     go_wp2_with fail
     refine hCl.mono ?_
     rintro e w4 ⟨p4, q4, rfl, l4, hb4, hq4, hn4⟩
     have HI4 := HI2.out.below hb4
     have R1 : Shut (KnInv w (w4.setCell ⟨w1.heap.size, F, none⟩ (.slice p4 od.length q4)) w1.heap.size n (A.take (q + 1))) := ⟨by
      rw [HT.out]
      exact HI4.put (r := ⟨some ⟨ob, oo, none⟩, ohc, oh, some ⟨db, do', none⟩, odc, od⟩) HC1.out HFI.out (by have := HDK.out; show 0 < od.length; omega) l4 HRA.out.2.2.2 hq4 (fun c o e => by have := hn4 c o e; have := HgW2.out; omega)⟩
     obtain ⟨_, _, _, bl, j4, j5, _⟩ := HI4
     have c0 := j5.cell hFn
     have cf := j5.frozen F
     generalize (bl[F]?.getD nilB).val = y0 at *
     clear j4 j5 hCl hb4 hn4 l4 HI2 z0 z1
     go_wp2
     go_roundw
     case rel => exact ⟨q + 1, by omega, by go_num, R1⟩
     case measure => simp [intOf]; omega
    ·have R1 : Shut (KnInv w w2 w1.heap.size n (A.take (q + 1))) := ⟨by
      rw [HT.out]
      exact HI2.out.pass fun hc => HCNT.out.1 hc (of_decide_eq_true HB.out)⟩
     clear HI2 z0 z1
     go_wp2
     go_roundw
     case rel => exact ⟨q + 1, by omega, by go_num, R1⟩
     case measure => simp [intOf]; omega
  ·have HE : Shut (KnInv w wr w1.heap.size n A) := ⟨by have h := HI.out; rwa [List.take_of_length_le (by rw [HA.out]; omega)] at h⟩
   clear HI
   go_wp2
   go_ret2
   obtain ⟨h1, h2, h3, bl, h4, h5, h6, h7, h8⟩ := HE.out
   refine ⟨w1.heap.size, bl, rfl, ?_, h6, fun b hb => (h7 b hb).2, h8, h1⟩
   have := rowIs_lies h5
   have e : (List.range n).map (fun j => (bl[j]?.getD nilB).val) = bl.map Blk.val := by
    apply List.ext_getElem
    ·simp [h4]
    ·intro i p1 p2
     simp at p2
     simp [p2]
   rwa [e] at this

end Go.Proofs.YtakkajjoeimkdaaGreatDoor
