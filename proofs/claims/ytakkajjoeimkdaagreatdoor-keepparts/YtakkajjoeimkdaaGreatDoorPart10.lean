import Derived.Test.YtakkajjoeimkdaaGreatDoorPart9
import Derived.Lib.AppendZerosOnto
import Derived.Laws.IdiomCopy
import Derived.Deep.AppendSrc
import Derived.Deep.RegionLaw
namespace Go.Proofs.YtakkajjoeimkdaaGreatDoor
open Go.RowKit
set_option linter.unusedVariables false
set_option linter.unusedSimpArgs false

theorem infoRow' : (Tryz.prog.info? 237).map (fun i => (i.zero, i.size, i.bytes)) = some (some (.agg #[.slice none 0 0, .slice none 0 0]), 2, 48) := by kernel_rfl

theorem run_make_rows (m : Nat) (hm : m ≤ 24) (W : World) :
  (Instr.makeSlice 201 (.int .i64 (m : Int)) (.int .i64 (m : Int))).run Tryz.prog W = .ok (.slice (some ⟨W.heap.size, 0, none⟩) m m) (W.alloc (.cells (madeCells #[Value.slice none 0 0, Value.slice none 0 0] (m * 2)) 237)) := by
 obtain ⟨i0, hi, hz0, hz1, hz2⟩ := info_parts infoRow'
 have h := run_make (P := Tryz.prog) W 201 237 i0 (.agg #[.slice none 0 0, .slice none 0 0]) Tryz.underlying201 hi hz0 .i64 .i64 m m (by omega) (Int.le_refl _) (by rw [hz2]; omega) (by omega)
 simp only [Int.toNat_natCast, hz1] at h
 exact h

def nilRow : MRow := ⟨none, 0, [], none, 0, []⟩

theorem rows_made (W : World) (m : Nat) (t : TypeId) : RowsAt (W.alloc (.cells (madeCells #[Value.slice none 0 0, Value.slice none 0 0] (m * 2)) t)) W.heap.size (List.replicate m nilRow) := by
 have e : (W.alloc (.cells (madeCells #[Value.slice none 0 0, Value.slice none 0 0] (m * 2)) t)).heap[W.heap.size]? = some (.cells (madeCells #[Value.slice none 0 0, Value.slice none 0 0] (m * 2)) t (0, 0)) := by rw [heap_alloc_eq, if_pos rfl]
 refine RowsAt.of ?_ (fun j => by simp only [World.frozen?, e]; simp)
 intro j hj
 have hj' : j < m := by simpa using hj
 rw [List.getElem_replicate]
 have h0 : j * 2 % 2 = 0 := by omega
 have h1 : (j * 2 + 1) % 2 = 1 := by omega
 refine ⟨?_, ?_⟩
 ·simp only [World.cell?, e]
  simp [madeCells, h0, show j * 2 < m * 2 by omega, nilRow, MRow.hv]
 ·simp only [World.cell?, e]
  simp [madeCells, h1, show j * 2 + 1 < m * 2 by omega, nilRow, MRow.dv]

def Own3 (w : World) (g n k : Nat) (x : MRow) : Prop := Good3 w g n k x ∧ x.h.length ≤ x.hc

theorem Own3.below {w w' : World} {g n k : Nat} {x : MRow} (h : Own3 w g n k x) (hb : Below w.heap.size w w') : Own3 w' g n k x := ⟨h.1.below hb, h.2⟩
theorem Own3.set {w : World} {g n k o : Nat} {x : MRow} {v : Value} (h : Own3 w g n k x) : Own3 (w.setCell ⟨g, o, none⟩ v) g n k x := ⟨h.1.set, h.2⟩

theorem NewRow.own {B : Nat} {w : World} {x : MRow} {g n k : Nat} (h : NewRow B w x) (hf : Fits n k x.says) (hg : g < B) : Own3 w g n k x :=
 ⟨⟨h.1, hf, fun b o e => by have := h.2.1 b o e; omega, fun b o e => by have := h.2.2.1 b o e; omega⟩, h.2.2.2⟩

def CopyAt (W0 w : World) (g n k : Nat) (R : List MRow) : Prop := Below W0.heap.size W0 w ∧ W0.heap.size ≤ g ∧ g < w.heap.size ∧ RowsAt w g R ∧ ∀ x ∈ R, Own3 w g n k x

theorem CopyAt.below {W0 w w' : World} {g n k : Nat} {R : List MRow} (h : CopyAt W0 w g n k R) (hb : Below w.heap.size w w') : CopyAt W0 w' g n k R :=
 ⟨h.1.trans (hb.mono h.1.size), h.2.1, by have := hb.size; have := h.2.2.1; omega, h.2.2.2.1.below hb h.2.2.1, fun x hx => (h.2.2.2.2 x hx).below hb⟩

theorem set_app (C : List MRow) (d : Nat) (z r : MRow) : (C ++ List.replicate (d + 1) z).set C.length r = (C ++ [r]) ++ List.replicate d z := by
 rw [List.set_append_right _ _ (Nat.le_refl _), Nat.sub_self, List.replicate_succ, List.set_cons_zero]
 simp

def MidAt (W0 w : World) (g n k m q : Nat) (A : List LRow) : Prop :=
 Below W0.heap.size W0 w ∧ W0.heap.size ≤ g ∧ g < w.heap.size ∧ ∃ C : List MRow, C.length = q ∧ RowsAt w g (C ++ List.replicate (m - q) nilRow) ∧ (∀ x ∈ C, Own3 w g n k x) ∧ C.map MRow.says = A.take q

theorem MidAt.below {W0 w w' : World} {g n k m q : Nat} {A : List LRow} (h : MidAt W0 w g n k m q A) (hb : Below w.heap.size w w') : MidAt W0 w' g n k m q A := by
 obtain ⟨h1, h2, h3, C, h4, h5, h6, h7⟩ := h
 exact ⟨h1.trans (hb.mono h1.size), h2, by have := hb.size; omega, C, h4, h5.below hb h3, fun x hx => (h6 x hx).below hb, h7⟩

theorem MidAt.put {W0 w : World} {g n k m q : Nat} {A : List LRow} {r : MRow} (h : MidAt W0 w g n k m q A) (hq : q < m) (hr : Own3 w g n k r) (hs : A.take (q + 1) = A.take q ++ [r.says]) : MidAt W0 ((w.setCell ⟨g, q * 2, none⟩ r.hv).setCell ⟨g, q * 2 + 1, none⟩ r.dv) g n k m (q + 1) A := by
 obtain ⟨h1, h2, h3, C, h4, h5, h6, h7⟩ := h
 refine ⟨(h1.setCell (p := ⟨g, q * 2, none⟩) (by simpa using h2) _).setCell (p := ⟨g, q * 2 + 1, none⟩) (by simpa using h2) _, h2, by simpa using h3, C ++ [r], by simp [h4], ?_, ?_, ?_⟩
 ·have h8 := h5.set (i := q) (by simp [h4]; omega) r
  rw [← h4, show m - C.length = (m - (C.length + 1)) + 1 by omega, set_app] at h8
  rw [← h4]
  exact h8
 ·intro x hx
  rcases List.mem_append.1 hx with hx | hx
  ·exact ((h6 x hx).set).set
  ·simp at hx; rw [hx]; exact hr.set.set
 ·rw [hs, List.map_append, h7]; rfl

theorem MidAt.cells {W0 w : World} {g n k m q : Nat} {A : List LRow} (h : MidAt W0 w g n k m q A) (hq : q < m) : w.cell? ⟨g, q * 2, none⟩ = some (.slice none 0 0) ∧ w.cell? ⟨g, q * 2 + 1, none⟩ = some (.slice none 0 0) ∧ ∀ j, w.frozen? ⟨g, j, none⟩ = false := by
 obtain ⟨h1, h2, h3, C, h4, h5, h6, h7⟩ := h
 obtain ⟨c0, c1⟩ := h5.cells (j := q) (by simp [h4]; omega)
 have e : (C ++ List.replicate (m - q) nilRow)[q]'(by simp [h4]; omega) = nilRow := by
  rw [List.getElem_append_right (by omega)]
  exact List.getElem_replicate _
 rw [e] at c0 c1
 exact ⟨c0, c1, h5.2⟩

theorem MidAt.done {W0 w : World} {g n k m : Nat} {A : List LRow} (h : MidAt W0 w g n k m m A) (hA : A.length = m) : ∃ R : List MRow, R.length = m ∧ CopyAt W0 w g n k R ∧ R.map MRow.says = A := by
 obtain ⟨h1, h2, h3, C, h4, h5, h6, h7⟩ := h
 rw [List.take_of_length_le (by omega)] at h7
 refine ⟨C, h4, ⟨h1, h2, h3, ?_, h6⟩, h7⟩
 simpa using h5

def boxy : Value → Bool
 | .bool _ => false
 | .int .u8 _ => false
 | _ => true

theorem RowIn.off {w : World} {x : MRow} {b : Nat} {c : Array Value} {t : TypeId} {f : Nat × Nat} (h : RowIn w x) (n1 : 0 < x.h.length) (k1 : 0 < x.d.length) (hb : w.heap[b]? = some (.cells c t f)) (hc : ∀ v ∈ c.toList, boxy v = true) :
  (∀ b' o, x.ha = some ⟨b', o, none⟩ → b' ≠ b) ∧ ∀ b' o, x.da = some ⟨b', o, none⟩ → b' ≠ b := by
 have key : ∀ (a : Option Addr) (xs : List Value) (u : Value), Lies w a xs → xs[0]? = some u → boxy u = false → ∀ b' o, a = some ⟨b', o, none⟩ → b' ≠ b := by
  intro a xs u hl hu hbx b' o e e2
  subst e e2
  have := hl.at hu
  simp only [World.cell?, hb] at this
  have hm : u ∈ c.toList := by
   have := Array.mem_of_getElem? this
   simpa using this
  rw [hc u hm] at hbx
  cases hbx
 exact ⟨key _ _ (.bool x.h[0]) h.1 (by simp [n1]) rfl, key _ _ (.int .u8 (x.d[0].toNat : Int)) h.2.1 (by simp [bs, k1]) rfl⟩

theorem RowIn.far {w w' : World} {x : MRow} {b : Nat} {c : Array Value} {t : TypeId} {f : Nat × Nat} (h : RowIn w x) (n1 : 0 < x.h.length) (k1 : 0 < x.d.length) (hb : w.heap[b]? = some (.cells c t f)) (hc : ∀ v ∈ c.toList, boxy v = true) (gr : w.grownBy w' (some b)) : RowIn w' x := by
 obtain ⟨o1, o2⟩ := h.off n1 k1 hb hc
 exact ⟨lies_grown gr h.1 o1, lies_grown gr h.2.1 o2, h.2.2⟩

theorem CopyAt.far {W0 w w' : World} {g n k b : Nat} {R : List MRow} {c : Array Value} {t : TypeId} {f : Nat × Nat} (h : CopyAt W0 w g n k R) (n1 : 1 ≤ n) (k1 : 1 ≤ k) (hb : w.heap[b]? = some (.cells c t f)) (hc : ∀ v ∈ c.toList, boxy v = true) (hne : b ≠ g) (gr : w.grownBy w' (some b)) (hB : Below W0.heap.size W0 w') : CopyAt W0 w' g n k R := by
 obtain ⟨h1, h2, h3, h4, h5⟩ := h
 refine ⟨hB, h2, by have := gr.size; omega, ⟨lies_grown gr h4.1 fun c o e => by cases e; omega, fun j => (gr.frozen_far ⟨g, j, none⟩ h3 (by simp; omega)).trans (h4.2 j)⟩, fun x hx => ?_⟩
 obtain ⟨⟨g1, g2, g4, g5⟩, g3⟩ := h5 x hx
 exact ⟨⟨g1.far (by have := g2.1; simp only [MRow.says] at this; omega) (by have := g2.2; simp only [MRow.says] at this; omega) hb hc gr, g2, g4, g5⟩, g3⟩

theorem CopyAt.from {W W0 w : World} {g n k : Nat} {R : List MRow} (h : CopyAt W0 w g n k R) (hb : Below W.heap.size W W0) : CopyAt W w g n k R :=
 ⟨hb.trans (h.1.mono hb.size), Nat.le_trans hb.size h.2.1, h.2.2⟩

theorem boxy3 (x y : Int) (a : Option Addr) (m c : Nat) : ∀ v ∈ (#[Value.int .i64 x, .int .i64 y, .slice a m c] : Array Value).toList, boxy v = true := by
 intro v hv
 simp at hv
 rcases hv with rfl | rfl | rfl <;> rfl

theorem boxy2 (a b : Option Addr) (m c m' c' : Nat) : ∀ v ∈ (#[Value.slice a m c, .slice b m' c'] : Array Value).toList, boxy v = true := by
 intro v hv
 simp at hv
 rcases hv with rfl | rfl <;> rfl

theorem block_set {w : World} {b b' o : Nat} {x : Obj} {v : Value} (h : w.heap[b]? = some x) (hne : b ≠ b') : (w.setCell ⟨b', o, none⟩ v).heap[b]? = some x := by
 rw [Below.heap_setCell _ _ _ _ (by simpa using hne)]
 exact h

set_option maxHeartbeats 1000000 in
theorem systemCopy_any (n k : Nat) (ra : Option Addr) (rc : Nat) (rows : List MRow) (w : World) (hl : Lies w ra (rowCells rows)) (hall : ∀ x ∈ rows, RowIn w x) (hf : ∀ x ∈ rows, Fits n k x.says) (n1 : 1 ≤ n) (n2 : n ≤ 24) (k1 : 1 ≤ k) (k2 : k ≤ 16) (hm : rows.length ≤ 24) :
  Calls Tryz.prog 188 #[.agg #[.int .i64 n, .int .i64 k, .slice ra rows.length rc]] w fun e w' => ∃ (g : Nat) (R : List MRow), e = .returned (.agg #[.int .i64 n, .int .i64 k, .slice (some ⟨g, 0, none⟩) rows.length rows.length]) ∧ CopyAt w w' g n k R ∧ R.map MRow.says = rows.map MRow.says := by
 obtain ⟨blk0, blk1⟩ := alloc2 w (.cells #[.int .i64 n, .int .i64 k, .slice ra rows.length rc] 203) (.cells #[.int .i64 0, .int .i64 0, .slice none 0 0] 203)
 obtain ⟨W0, hW0⟩ : ∃ W0, (w.alloc (.cells #[.int .i64 n, .int .i64 k, .slice ra rows.length rc] 203)).alloc (.cells #[.int .i64 0, .int .i64 0, .slice none 0 0] 203) = W0 := ⟨_, rfl⟩
 have hB : Below w.heap.size w W0 := by rw [← hW0]; exact ((Below.refl _ _).alloc (Nat.le_refl _) _).alloc (by simp) _
 have hsz : W0.heap.size = w.heap.size + 2 := by rw [← hW0]; simp
 rw [hW0] at blk0 blk1
 have x0 : W0.cell? ⟨w.heap.size, 0, none⟩ = some (.int .i64 n) := by simp [World.cell?, blk0]
 have x1 : W0.cell? ⟨w.heap.size, 1, none⟩ = some (.int .i64 k) := by simp [World.cell?, blk0]
 have x2 : W0.cell? ⟨w.heap.size, 2, none⟩ = some (.slice ra rows.length rc) := by simp [World.cell?, blk0]
 have xf : ∀ j, W0.frozen? ⟨w.heap.size, j, none⟩ = false := fun j => by simp [World.frozen?, blk0]
 have y0 : W0.cell? ⟨w.heap.size + 1, 0, none⟩ = some (.int .i64 0) := by simp [World.cell?, blk1]
 have y1 : W0.cell? ⟨w.heap.size + 1, 1, none⟩ = some (.int .i64 0) := by simp [World.cell?, blk1]
 have y2 : W0.cell? ⟨w.heap.size + 1, 2, none⟩ = some (.slice none 0 0) := by simp [World.cell?, blk1]
 have yf : ∀ j, W0.frozen? ⟨w.heap.size + 1, j, none⟩ = false := fun j => by simp [World.frozen?, blk1]
 have hmk := run_make_rows rows.length hm
 have H0 : Shut (MidAt W0 (W0.alloc (.cells (madeCells #[Value.slice none 0 0, Value.slice none 0 0] (rows.length * 2)) 237)) W0.heap.size n k rows.length 0 (rows.map MRow.says)) := ⟨(Below.refl _ _).alloc (Nat.le_refl _) _, Nat.le_refl _, by simp, [], rfl, by simpa using rows_made W0 rows.length 237, (fun x hx => by cases hx), rfl⟩
 have HX := Shut.mk (And.intro x0 (And.intro x1 (And.intro x2 (And.intro y0 (And.intro y1 (And.intro y2 (And.intro xf yf)))))))
 have HBK := Shut.mk (And.intro blk0 blk1)
 have x2' : (W0.alloc (.cells (madeCells #[Value.slice none 0 0, Value.slice none 0 0] (rows.length * 2)) 237)).cell? ⟨w.heap.size, 2, none⟩ = some (.slice ra rows.length rc) := cellA' x2 _
 rw [← hW0] at x2 x2'
 replace hl := hl.below hB (Nat.le_refl _)
 replace hall : ∀ x ∈ rows, RowIn W0 x := fun x hx => (hall x hx).below hB
 have HW := Shut.mk hW0
 have HSZ := Shut.mk hsz
 clear blk0 blk1 x0 x1 y0 y1 y2 xf yf hW0 hsz
 go_enter Tryz.func188, Tryz.ntmps188
 go_wp2
 rw [HW.out]
 rw [HSZ.out] at H0
 clear x2 x2' hmk
 generalize W0.alloc (.cells (madeCells #[Value.slice none 0 0, Value.slice none 0 0] (rows.length * 2)) 237) = W1 at *
 go_loopw [13] (fun m wr => ∃ q : Nat, q ≤ rows.length ∧ m = .int .i64 q ∧ Shut (MidAt W0 wr (w.heap.size + 2) n k rows.length q (rows.map MRow.says))) (fun m _ => rows.length - (intOf m).toNat)
 case atStart => exact ⟨0, Nat.zero_le _, rfl, H0⟩
 case round =>
  clear H0
  obtain ⟨q, hq, rfl, HI⟩ := hrel
  by_cases hlt : q < rows.length
  ·have i1 := HI.out.1
   obtain ⟨ab, ao, rfl⟩ := hl.some (k := 2 * q) (by rw [rowCells_length]; omega)
   obtain ⟨a0, a1⟩ := row_at (hl.below i1 (Nat.le_refl _)) hlt
   have rA := (hall _ (List.getElem_mem hlt)).below i1
   have hfA := hf _ (List.getElem_mem hlt)
   have HT : Shut ((rows.map MRow.says).take (q + 1) = (rows.map MRow.says).take q ++ [rows[q].says]) := ⟨by rw [List.take_succ_eq_append_getElem (by simpa using hlt)]; simp⟩
   generalize rows[q]'hlt = R at *
   have bd : Below wr.heap.size wr (wr.alloc (.cells #[R.hv, R.dv] 237)) := (Below.refl _ _).alloc (Nat.le_refl _) _
   obtain ⟨v0, v1⟩ := Box2.mk wr R.hv R.dv 237
   have hC := rowCopy_any R n k _ (rA.below bd) hfA n1 n2 k1 k2
   have HI2 := Shut.mk (HI.out.below bd)
   have HLT : Shut (w.heap.size + 2 < wr.heap.size) := ⟨HI.out.2.2.1⟩
   have HFA := Shut.mk hfA
   obtain ⟨rha, rhc, rh, rda, rdc, rd⟩ := R
   simp only [MRow.hv, MRow.dv] at *
   clear i1 rA HI hfA hl hall hf bd
   go_wp2_with fail
   refine hC.mono ?_
   rintro e w2 ⟨t, rfl, hN, hS, hb2⟩
   have HI3 := HI2.out.below hb2
   obtain ⟨c0, c1, cf⟩ := HI3.cells hlt
   have cf0 := cf (q * 2)
   have cf1 := cf (q * 2 + 1)
   have hO : Own3 w2 (w.heap.size + 2) n k t := hN.own (by rw [hS]; exact HFA.out) (by have := HLT.out; simp; omega)
   have R1 := Shut.mk (HI3.put hlt hO (by rw [HT.out, hS]))
   clear hC hN hS hb2 HI3 HI2 hO cf v0 v1 a0 a1
   obtain ⟨tha, thc, th, tda, tdc, td⟩ := t
   simp only [MRow.hv, MRow.dv] at *
   go_wp2
   go_roundw
   case rel => exact ⟨q + 1, by omega, by go_num, R1⟩
   case measure => simp [intOf]; omega
  ·obtain rfl : q = rows.length := by omega
   have i1 := HI.out.1
   obtain ⟨R, hRl, hCp, hRs⟩ := HI.out.done (by simp)
   have HR := Shut.mk (And.intro (hCp.from hB) hRs)
   have bk0 := (i1.block w.heap.size (by rw [HSZ.out]; omega)).trans HBK.out.1
   have bk1 := (i1.block (w.heap.size + 1) (by rw [HSZ.out]; omega)).trans HBK.out.2
   have HBK2 := Shut.mk (And.intro bk0 bk1)
   have x0 := cellC HX.out.1 i1
   have x1 := cellC HX.out.2.1 i1
   have x2 := cellC HX.out.2.2.1 i1
   have y0 := cellC HX.out.2.2.2.1 i1
   have y1 := cellC HX.out.2.2.2.2.1 i1
   have y2 := cellC HX.out.2.2.2.2.2.1 i1
   have xf := ((bcell i1).2 w.heap.size 2 (by rw [HSZ.out]; omega)).trans (HX.out.2.2.2.2.2.2.1 2)
   have yf0 := ((bcell i1).2 (w.heap.size + 1) 0 (by rw [HSZ.out]; omega)).trans (HX.out.2.2.2.2.2.2.2 0)
   have yf1 := ((bcell i1).2 (w.heap.size + 1) 1 (by rw [HSZ.out]; omega)).trans (HX.out.2.2.2.2.2.2.2 1)
   have yf2 := ((bcell i1).2 (w.heap.size + 1) 2 (by rw [HSZ.out]; omega)).trans (HX.out.2.2.2.2.2.2.2 2)
   have hBw : Below w.heap.size w wr := hB.trans (i1.mono hB.size)
   clear i1 HI hCp hRs hRl bk0 bk1 HX HBK hl hall hf
   go_wp2
   obtain ⟨rs, hrs⟩ : ∃ rs, Value.slice (some ⟨w.heap.size + 1 + 1, 0, none⟩) rows.length rows.length = rs := ⟨_, rfl⟩
   rw [hrs]
   have hA : Below w.heap.size w (wr.setCell ⟨w.heap.size, 2, none⟩ rs) := hBw.setCell (p := ⟨w.heap.size, 2, none⟩) (by simp) rs
   have c1 := HR.out.1.far n1 k1 HBK2.out.1 (boxy3 _ _ _ _ _) (by omega) (grown_setCell wr w.heap.size 2 rs) hA
   have y0' : (wr.setCell ⟨w.heap.size, 2, none⟩ rs).cell? ⟨w.heap.size + 1, 0, none⟩ = some (.int .i64 0) := by rw [World.cell?_setCell_other _ _ _ _ (by intro e; injection e; omega)]; exact y0
   have y1' : (wr.setCell ⟨w.heap.size, 2, none⟩ rs).cell? ⟨w.heap.size + 1, 1, none⟩ = some (.int .i64 0) := by rw [World.cell?_setCell_other _ _ _ _ (by intro e; injection e; omega)]; exact y1
   have y2' : (wr.setCell ⟨w.heap.size, 2, none⟩ rs).cell? ⟨w.heap.size + 1, 2, none⟩ = some (.slice none 0 0) := by rw [World.cell?_setCell_other _ _ _ _ (by intro e; injection e; omega)]; exact y2
   have bk1 := block_set (o := 2) (v := rs) HBK2.out.2 (show w.heap.size + 1 ≠ w.heap.size by omega)
   obtain ⟨z0, z1, z2⟩ := set3 y0' y1' y2' (.int .i64 n) (.int .i64 k) rs
   have gr := grown_trans (grown_trans (grown_setCell (wr.setCell ⟨w.heap.size, 2, none⟩ rs) (w.heap.size + 1) 0 (.int .i64 n)) (grown_setCell _ (w.heap.size + 1) 1 (.int .i64 k))) (grown_setCell _ (w.heap.size + 1) 2 rs)
   have hF := ((hA.setCell (p := ⟨w.heap.size + 1, 0, none⟩) (by simp) (.int .i64 n)).setCell (p := ⟨w.heap.size + 1, 1, none⟩) (by simp) (.int .i64 k)).setCell (p := ⟨w.heap.size + 1, 2, none⟩) (by simp) rs
   have c2 := c1.far n1 k1 bk1 (boxy3 _ _ _ _ _) (by omega) gr hF
   clear x0 x1 x2 y0 y1 y2 xf yf0 yf1 yf2 y0' y1' y2' bk1 gr hA c1 HBK2
   generalize (((wr.setCell ⟨w.heap.size, 2, none⟩ rs).setCell ⟨w.heap.size + 1, 0, none⟩ (.int .i64 n)).setCell ⟨w.heap.size + 1, 1, none⟩ (.int .i64 k)).setCell ⟨w.heap.size + 1, 2, none⟩ rs = w9 at *
   refine bodyPost_ret (v := .agg #[.int .i64 n, .int .i64 k, rs]) (by simp [results, Tryz.results188, go_sem, z0, z1, z2]) rfl ?_
   exact ⟨w.heap.size + 2, R, by rw [← hrs], c2, HR.out.2⟩

theorem run_copy2 {P : Program} (w : World) (dT sT ty elem : TypeId) (b o dLen dCap : Nat) (a : Addr) (sLen sCap m : Nat) (cs : List Value)
  (hu : P.underlying dT = some (.slice elem)) (hs : (P.info? elem).map (·.size) = some 2) (hm : Nat.min sLen dLen = m) (hn : cs.length = m * 2)
  (hsrc : ∀ j v, cs[j]? = some v → w.cell? (a.add j) = some v) (hc : ∀ j, j < cs.length → (w.cell? ⟨b, o + j, none⟩).isSome = true) (hf : ∀ j, j < cs.length → w.frozen? ⟨b, o + j, none⟩ = false) (h1 : ∀ v ∈ cs, v.oneCell' = true) :
  (Builtin.copy_ #[dT, sT] ty #[.slice (some ⟨b, o, none⟩) dLen dCap, .slice (some a) sLen sCap]).run P w = .ok (goInt m) (w.setCells b o cs) := by
 have hl := run_loadCells_list (P := P) w a cs hsrc
 have hst := run_storeCells_cells (P := P) b o cs 0 w (by simpa using hc) (by simpa using hf) h1
 cases hq : P.info? elem with
 | none => simp [hq] at hs
 | some i =>
  have hi : i.size = 2 := by simpa [hq] using hs
  simp [Builtin.copy_, run_underlying hu, Builtin.lenOf, Builtin.firstCells, sizeOf, typeInfo, hq, hi, hm, ← hn, hl, hst]

theorem below_setCells {B : Nat} {W : World} (g : Nat) (hg : B ≤ g) : ∀ (vs : List Value) (o : Nat) (w : World), Below B W w → Below B W (w.setCells g o vs)
 | [], _, _, h => h
 | v :: r, o, w, h => below_setCells g hg r (o + 1) _ (h.setCell (p := ⟨g, o, none⟩) (by simpa using hg) v)

theorem rowCells_take : ∀ (R : List MRow) (i : Nat), rowCells (R.take i) = (rowCells R).take (2 * i)
 | [], i => by simp [rowCells]
 | r :: R, 0 => by simp [rowCells]
 | r :: R, i + 1 => by
  have ih := rowCells_take R i
  have e : rowCells (r :: R) = r.hv :: r.dv :: rowCells R := rfl
  have e2 : rowCells (r :: R.take i) = r.hv :: r.dv :: rowCells (R.take i) := rfl
  rw [List.take_succ_cons, e, e2, show 2 * (i + 1) = 2 * i + 1 + 1 by omega, List.take_succ_cons, List.take_succ_cons, ih]

theorem rowCells_drop : ∀ (R : List MRow) (i : Nat), rowCells (R.drop i) = (rowCells R).drop (2 * i)
 | [], i => by simp [rowCells]
 | r :: R, 0 => by simp [rowCells]
 | r :: R, i + 1 => by
  have ih := rowCells_drop R i
  have e : rowCells (r :: R) = r.hv :: r.dv :: rowCells R := rfl
  rw [List.drop_succ_cons, e, show 2 * (i + 1) = 2 * i + 1 + 1 by omega, List.drop_succ_cons, List.drop_succ_cons, ih]

theorem rowCells_one' (l : List MRow) : ∀ u ∈ rowCells l, u.oneCell' = true := by
 intro u hu
 obtain ⟨r, _, hm⟩ := List.mem_flatMap.1 hu
 simp at hm
 rcases hm with rfl | rfl <;> rfl

theorem insert_end (g m vb : Nat) (R : List MRow) (x : MRow) (w : World) (hR : R.length = m) (hm : m ≤ 24) (hl : Lies w (some ⟨g, 0, none⟩) (rowCells R)) (hv : Lies w (some ⟨vb, 0, none⟩) (rowCells [x])) :
  Calls Tryz.prog 211 #[.slice (some ⟨g, 0, none⟩) m m, .int .i64 m, .slice (some ⟨vb, 0, none⟩) 1 1] w fun e w' =>
   ∃ (g' c' : Nat), e = .returned (.slice (some ⟨g', 0, none⟩) (m + 1) c') ∧ Lies w' (some ⟨g', 0, none⟩) (rowCells (R ++ [x])) ∧ Below w.heap.size w w' ∧ w.heap.size ≤ g' := by
 obtain ⟨i0, hi, hz0, hz1, hz2⟩ := info_parts infoRow'
 have hsrc : Src Tryz.prog i0.size 201 (.slice (some ⟨vb, 0, none⟩) 1 1) 1 (rowCells [x]) w := by
  rw [hz1]
  exact Src.ofSlice w Tryz.underlying201 ⟨vb, 0, none⟩ 1 1 (rowCells [x]) rfl (fun j u hj => by rw [Addr.add_lit]; exact hv.at hj) (rowCells_one' _)
 have hold : (Builtin.firstCells i0.size m (.slice (some ⟨g, 0, none⟩) m m)).run Tryz.prog w.drew = .ok (rowCells R).toArray w.drew := by
  rw [hz1]
  exact run_firstCells_some w.drew 2 m ⟨g, 0, none⟩ m m (rowCells R) (by rw [rowCells_length]; omega) (fun j v hj => by rw [Addr.add_lit]; exact hl.at hj)
 have hrun : ∀ ty, (Builtin.append_ #[201, 201] ty #[.slice (some ⟨g, 0, none⟩) m m, .slice (some ⟨vb, 0, none⟩) 1 1]).run Tryz.prog w = _ := fun ty =>
  run_append_grow_src w 201 201 ty 237 i0 _ Tryz.underlying201 hi hz0 (some ⟨g, 0, none⟩) m m (rowCells R) hold _ 1 (rowCells [x]) hsrc (by omega) (by omega) (by rw [hz2]; exact growslice_fits (by omega) (by omega))
 have hF : ∀ (q : Nat), Lies (w.drew.alloc (.cells ((rowCells R ++ rowCells [x]).toArray ++ Builtin.zeroCells (Value.agg #[.slice none 0 0, .slice none 0 0]).cells q) 237)) (some ⟨w.heap.size, 0, none⟩) (rowCells (R ++ [x])) := fun q => by
  have h := Lies.alloc_new w.drew ((rowCells R ++ rowCells [x]).toArray ++ Builtin.zeroCells (Value.agg #[.slice none 0 0, .slice none 0 0]).cells q) 237
  intro j u hj
  refine h j u ?_
  rw [rowCells_append] at hj
  rw [Array.toList_append, List.getElem?_append_left (by have := (List.getElem?_eq_some_iff.1 hj).1; simpa using this)]
  simpa using hj
 have hb : ∀ o, Below w.heap.size w (w.drew.alloc o) := fun o => ((Below.refl _ _).drew).alloc (by simp) o
 obtain ⟨G, hG⟩ : ∃ G, grownCap w (m + 1) m 237 = G := ⟨_, rfl⟩
 rw [hG] at hrun
 clear hG hold hsrc hl hv
 go_enter Tryz.func211, Tryz.ntmps211
 go_wp2_with (at_builtin; refine Lib.wpList_append_run _ rfl _ _ _ _ rfl _ _ rfl rfl _ _ (hrun _) ?_)
 all_goals
  go_ret
  exact ⟨_, _, rfl, hF _, hb _, Nat.le_refl _⟩

theorem wpList_copy_run' {P : Program} (w : World) {ops : Array Oper} {rest : List Oper} {o : Oper} {a : Act} {Q : Exit → Act → World → Prop} (hgd : o.guard = none) (d s : Operand) (t t' : TypeId)
  (ho : o.op = .call { callee := .builtin .copy, args := #[d, s], argTypes := #[t, t'] }) (v u : Value) (hd : a.eval d = v) (hs : a.eval s = u) {v' : Value} {w' : World}
  (hr : (Builtin.copy_ #[t, t'] o.type #[v, u]).run P w = .ok v' w') (h : wpList P ops Q rest (a.put o.dst v') w') : wpList P ops Q (o :: rest) a w := by
 refine wpList_plain hgd fun K hK => ?_
 unfold Oper.wp execOp
 simp only [ho, resolve, invoke, builtin, Sem.run_bind, Sem.run_pure, Result.andThen_ok, List.map_toArray, List.map_cons, List.map_nil, hd, hs, hr]
 exact hK _ _ h

theorem step_copy_run' {P : Program} {ops : Array Oper} {o : Oper} {a : Act} {w : World} {K : Act → World → Prop} {Q : Exit → Act → World → Prop} {E : Prop} (hg : o.guard = none) (d x : Operand) (dT sT : TypeId)
  (hop : o.op = Op.call { callee := Callee.builtin Builtin.copy, args := #[d, x], argTypes := #[dT, sT] }) (v u : Value) (hd : a.eval d = v) (hx : a.eval x = u) {v' : Value} {w' : World} (hr : (Builtin.copy_ #[dT, sT] o.type #[v, u]).run P w = .ok v' w') (hK : K (a.put o.dst v') w') :
  if Region.wanted o (yielded ops a.tmps) = true then Oper.wp P o a w K Q else E := by
 have hw : Region.wanted o (yielded ops a.tmps) = true := by simp [Region.wanted, hg]
 rw [if_pos hw]
 unfold Oper.wp
 simp [execOp, hop, resolve, invoke, builtin, hd, hx, hr, Result.andThen]
 exact hK

theorem some_setCells (b : Nat) (vs : List Value) (o : Nat) (w : World) (h : ∀ j, j < vs.length → (w.cell? ⟨b, o + j, none⟩).isSome = true) (k : Nat) (hk : (w.cell? ⟨b, k, none⟩).isSome = true) : ((w.setCells b o vs).cell? ⟨b, k, none⟩).isSome = true := by
 by_cases hin : o ≤ k ∧ k < o + vs.length
 ·have := World.cell?_setCells_in b vs o w h (k - o) (by omega)
  rw [show o + (k - o) = k by omega] at this
  rw [this]; rfl
 ·rw [World.cell?_setCells_out b vs o w ⟨b, k, none⟩ (fun _ _ => by show k < o ∨ o + vs.length ≤ k; omega)]
  exact hk

theorem insert_cells {W V : World} {G i m : Nat} {cs vs : List Value} (hi : i ≤ m) (hcs : cs.length = m * 2) (hvs : vs.length = 2) (hs : ∀ j, j < (m + 1) * 2 → (W.cell? ⟨G, j, none⟩).isSome = true) (h0 : ∀ j (hj : j < i * 2), W.cell? ⟨G, j, none⟩ = some (cs[j]'(by omega)))
  (hV : ∀ y, V.cell? y = (W.setCells G (i * 2) vs).cell? y) : Lies (V.setCells G ((i + 1) * 2) (cs.drop (i * 2))) (some ⟨G, 0, none⟩) (cs.take (i * 2) ++ vs ++ cs.drop (i * 2)) := by
 have hsV : ∀ j, j < (m + 1) * 2 → (V.cell? ⟨G, j, none⟩).isSome = true := fun j hj => by
  rw [hV]
  exact some_setCells _ _ _ _ (fun t ht => hs _ (by omega)) _ (hs j hj)
 have hdl : (cs.drop (i * 2)).length = (m - i) * 2 := by rw [List.length_drop]; omega
 refine Lies.mk fun k hk => ?_
 rw [Nat.zero_add]
 have hk' : k < (m + 1) * 2 := by simp [hcs, hvs] at hk; omega
 by_cases h1 : k < i * 2
 ·rw [World.cell?_setCells_out _ _ _ _ _ (fun _ _ => by show k < (i + 1) * 2 ∨ _; omega), hV, World.cell?_setCells_out _ _ _ _ _ (fun _ _ => by show k < i * 2 ∨ _; omega), h0 k h1]
  rw [List.getElem_append_left (by simp [hcs, hvs]; omega), List.getElem_append_left (by rw [List.length_take]; omega), List.getElem_take]
 ·by_cases h2 : k < (i + 1) * 2
  ·rw [World.cell?_setCells_out _ _ _ _ _ (fun _ _ => by show k < (i + 1) * 2 ∨ _; omega), hV]
   have := World.cell?_setCells_in G vs (i * 2) W (fun j hj => hs _ (by omega)) (k - i * 2) (by omega)
   rw [show i * 2 + (k - i * 2) = k by omega] at this
   rw [this]
   congr 1
   rw [List.getElem_append_left (by simp [hcs, hvs]; omega), List.getElem_append_right (by rw [List.length_take]; omega)]
   congr 1
   rw [List.length_take]
   omega
  ·have := World.cell?_setCells_in G (cs.drop (i * 2)) ((i + 1) * 2) V (fun j hj => hsV _ (by omega)) (k - (i + 1) * 2) (by omega)
   rw [show (i + 1) * 2 + (k - (i + 1) * 2) = k by omega] at this
   rw [this]
   congr 1
   rw [List.getElem_append_right (by simp [hcs, hvs]; omega)]
   congr 1
   simp [hcs, hvs]
   omega

set_option maxHeartbeats 4000000 in
set_option maxRecDepth 100000 in
theorem insert_mid (g m vb i : Nat) (R : List MRow) (x : MRow) (w : World) (hR : R.length = m) (hm : m ≤ 24) (hi : i < m) (hl : Lies w (some ⟨g, 0, none⟩) (rowCells R)) (hv : Lies w (some ⟨vb, 0, none⟩) (rowCells [x])) :
  Calls Tryz.prog 211 #[.slice (some ⟨g, 0, none⟩) m m, .int .i64 i, .slice (some ⟨vb, 0, none⟩) 1 1] w fun e w' =>
   ∃ (g' c' : Nat), e = .returned (.slice (some ⟨g', 0, none⟩) (m + 1) c') ∧ Lies w' (some ⟨g', 0, none⟩) (rowCells (R.take i ++ x :: R.drop i)) ∧ Below w.heap.size w w' ∧ w.heap.size ≤ g' := by
 obtain ⟨i0, hi0, hz0, hzs, hzb⟩ := info_parts infoRow'
 have hsz : (Tryz.prog.info? 237).map (·.size) = some 2 := by rw [hi0]; simp [hzs]
 have hcl : (rowCells R).length = m * 2 := by rw [rowCells_length]; omega
 have hgw : g < w.heap.size := World.block_lt_of_cell? w _ (hl.at (k := 0) (List.getElem?_eq_getElem (by omega)))
 have hvw : vb < w.heap.size := World.block_lt_of_cell? w _ (hv.at (k := 0) (List.getElem?_eq_getElem (by simp [rowCells])))
 have hkk : (m : Int) + 1 - (i : Int) = ((m + 1 - i : Nat) : Int) := by omega
 have hik : i + (m + 1 - i) = m + 1 := by omega
 have hold : (Builtin.firstCells i0.size i (.slice (some ⟨g, 0, none⟩) i m)).run Tryz.prog w.drew = .ok ((rowCells R).take (i * 2)).toArray w.drew := by
  rw [hzs]
  exact run_firstCells_some w.drew 2 i ⟨g, 0, none⟩ i m ((rowCells R).take (i * 2)) (by rw [List.length_take]; omega) (fun j v hj => by
   rw [Addr.add_lit]
   rw [List.getElem?_take] at hj
   split at hj
   ·exact hl.at hj
   ·cases hj)
 obtain ⟨G, hG⟩ : ∃ G, G = grownCap w (m + 1) m 237 := ⟨_, rfl⟩
 have hGn : m + 1 ≤ G := by rw [hG]; exact grownCap_ge w _ _ _
 have hG63 : G ≤ 9223372036854775807 := by
  have := grownCap_le_maxLen w (m + 1) m 237 (by unfold maxLen; omega)
  rw [← hG] at this
  unfold maxLen at this
  omega
 obtain ⟨ROW, hROW⟩ : ∃ ROW : Array Value, ROW = ((rowCells R).take (i * 2)).toArray ++ Builtin.zeroCells (Value.agg #[.slice none 0 0, .slice none 0 0]).cells (m + 1 - i) ++ Builtin.zeroCells (Value.agg #[.slice none 0 0, .slice none 0 0]).cells (G - (m + 1)) := ⟨_, rfl⟩
 have hrz : ∀ ty, (Builtin.append_ #[201, 3] ty #[.slice (some ⟨g, 0, none⟩) i m, .int .i64 ((m : Int) + 1 - (i : Int))]).run Tryz.prog w =
   .ok (.slice (some ⟨w.heap.size, 0, none⟩) (m + 1) G) (w.drew.alloc (.cells ROW 237)) := fun ty => by
  have h := Lib.run_append_grow_zeros w 201 3 ty 237 i0 _ .i64 .i64 Tryz.underlying201 Tryz.underlying3 hi0 hz0 (some ⟨g, 0, none⟩) i m ((rowCells R).take (i * 2)) hold (m + 1 - i) (by omega) (by omega) (by omega) (by omega) (by rw [hzb]; omega) (by rw [hzb, hik]; exact growslice_fits (by omega) (by omega))
  rw [hik, ← hG, ← hROW] at h
  rw [hkk]
  exact h
 have hRl : (m + 1) * 2 ≤ ROW.size := by
  rw [hROW]
  simp [Builtin.zeroCells, Value.cells, hcl]
  omega
 have hR0 : ∀ j (hj : j < i * 2), ROW[j]? = some ((rowCells R)[j]'(by omega)) := fun j hj => by
  rw [hROW, Array.append_assoc, Array.getElem?_append_left (by simp [hcl]; omega)]
  simp [List.getElem?_take, hj, show j < (rowCells R).length by omega]
 obtain ⟨W1, hW1⟩ : ∃ W1, W1 = w.drew.alloc (.cells ROW 237) := ⟨_, rfl⟩
 have hb1 : Below w.heap.size w W1 := by rw [hW1]; exact ((Below.refl _ _).drew).alloc (by simp) _
 have hblk : W1.heap[w.heap.size]? = some (.cells ROW 237 (0, 0)) := by rw [hW1, heap_alloc_eq, if_pos (by rfl)]
 have hN : ∀ j, j < (m + 1) * 2 → (W1.cell? ⟨w.heap.size, j, none⟩).isSome = true := fun j hj => by
  simp only [World.cell?, hblk]
  rw [Array.getElem?_eq_getElem (by omega)]; rfl
 have hN0 : ∀ j (hj : j < i * 2), W1.cell? ⟨w.heap.size, j, none⟩ = some ((rowCells R)[j]'(by omega)) := fun j hj => by
  simp only [World.cell?, hblk]
  exact hR0 j hj
 have hNf : ∀ j, W1.frozen? ⟨w.heap.size, j, none⟩ = false := fun j => by simp only [World.frozen?, hblk]; simp
 have hl1 := hl.below hb1 (Nat.le_refl _)
 have hv1 := hv.below hb1 (Nat.le_refl _)
 have hvl : (rowCells [x]).length = 2 := rfl
 have hdl : ((rowCells R).drop (i * 2)).length = (m - i) * 2 := by rw [List.length_drop, hcl]; omega
 have hcpA : ∀ (W : World), (∀ y, W.cell? y = W1.cell? y) → (∀ y, W.frozen? y = W1.frozen? y) → ∀ ty dc, (Builtin.copy_ #[201, 201] ty #[.slice (some ⟨w.heap.size, i * 2, none⟩) (m + 1 - i) dc, .slice (some ⟨vb, 0, none⟩) 1 1]).run Tryz.prog W = .ok (goInt 1) (W.setCells w.heap.size (i * 2) (rowCells [x])) := fun W hWc hWf ty dc =>
  run_copy2 W _ _ ty 237 w.heap.size (i * 2) (m + 1 - i) dc ⟨vb, 0, none⟩ 1 1 1 (rowCells [x]) Tryz.underlying201 hsz (by simp only [Nat.min_def]; split <;> omega) rfl
   (fun j v hj => by rw [Addr.add_lit, hWc]; exact hv1.at hj)
   (fun j hj => by rw [hWc]; exact hN _ (by omega)) (fun j hj => by rw [hWf]; exact hNf _) (rowCells_one' _)
 have hcpB : ∀ (W : World), (∀ y, W.cell? y = (W1.setCells w.heap.size (i * 2) (rowCells [x])).cell? y) → (∀ y, W.frozen? y = (W1.setCells w.heap.size (i * 2) (rowCells [x])).frozen? y) → ∀ ty dc sc, (Builtin.copy_ #[201, 201] ty #[.slice (some ⟨w.heap.size, (i + 1) * 2, none⟩) (m + 1 - (i + 1)) dc, .slice (some ⟨g, i * 2, none⟩) (m - i) sc]).run Tryz.prog W = .ok (goInt ((m - i : Nat) : Int)) (W.setCells w.heap.size ((i + 1) * 2) ((rowCells R).drop (i * 2))) := fun W hWc hWf ty dc sc =>
  run_copy2 W _ _ ty 237 w.heap.size ((i + 1) * 2) (m + 1 - (i + 1)) dc ⟨g, i * 2, none⟩ (m - i) sc (m - i) ((rowCells R).drop (i * 2)) Tryz.underlying201 hsz (by simp only [Nat.min_def]; split <;> omega) hdl
   (fun j v hj => by
    rw [Addr.add_lit, hWc, World.cell?_setCells_out _ _ _ _ _ (fun h _ => absurd h (by show g ≠ w.heap.size; omega))]
    have := hl1.at (k := i * 2 + j) (u := v) (by rwa [List.getElem?_drop] at hj)
    simpa using this)
   (fun j hj => by rw [hWc]; exact some_setCells _ _ _ _ (fun t ht => hN _ (by omega)) _ (hN _ (by omega)))
   (fun j hj => by rw [hWf, World.frozen?_setCells]; exact hNf _) (fun v hv => rowCells_one' _ v (List.mem_of_mem_drop hv))
 have HF : Shut (∀ (A V : World), (∀ y, A.cell? y = W1.cell? y) → (∀ y, V.cell? y = (A.setCells w.heap.size (i * 2) (rowCells [x])).cell? y) → Lies (V.setCells w.heap.size ((i + 1) * 2) ((rowCells R).drop (i * 2))) (some ⟨w.heap.size, 0, none⟩) (rowCells (R.take i ++ x :: R.drop i))) := ⟨fun A V hA hV => by
  have h := insert_cells (W := A) (V := V) (G := w.heap.size) (i := i) (m := m) (cs := rowCells R) (vs := rowCells [x]) (by omega) hcl hvl (fun j hj => by rw [hA]; exact hN j hj) (fun j hj => by rw [hA]; exact hN0 j hj) hV
  have e : rowCells (R.take i ++ x :: R.drop i) = (rowCells R).take (i * 2) ++ rowCells [x] ++ (rowCells R).drop (i * 2) := by
   rw [show R.take i ++ x :: R.drop i = R.take i ++ [x] ++ R.drop i by simp, rowCells_append, rowCells_append, rowCells_take, rowCells_drop, Nat.mul_comm]
  rw [e]
  exact h⟩
 have HB := Shut.mk hb1
 have hz2 : ¬ (i = m) := by omega
 have hz3 : ¬ (m + 1 ≤ m) := by omega
 have hGi : ¬ (G = i) := by omega
 have hGim : ¬ (G = i + 1) := by omega
 have hci : ¬ (m = i) := by omega
 have hw1 : IntKind.i64.wrap ((i : Int) + 1) = (i : Int) + 1 := by rw [IntKind.wrap_i64]; omega
 have hb1' : (0 : Int) ≤ (i : Int) + 1 := by omega
 have hin : i ≤ m := by omega
 have htn : ((i : Int) + 1).toNat = i + 1 := by omega
 rw [← hW1] at hrz
 subst hW1
 clear hkk hik hold hROW hG hRl hl hv hl1 hv1 hN hN0 hNf hblk hR0 hb1 hdl hcl hvl
 have hA := hcpA ((w.alloc (.cells ROW 237)).drew) (fun _ => rfl) (fun _ => rfl) 3 (G - i)
 have hBq := hcpB ((((w.alloc (.cells ROW 237)).drew).setCells w.heap.size (i * 2) (rowCells [x])).drew) (fun _ => rfl) (fun _ => rfl) 3 (G - (i + 1)) (m - i)
 have HL := Shut.mk (HF.out ((w.alloc (.cells ROW 237)).drew) ((((w.alloc (.cells ROW 237)).drew).setCells w.heap.size (i * 2) (rowCells [x])).drew) (fun _ => rfl) (fun _ => rfl))
 have HB2 : Shut (Below w.heap.size w (((((w.alloc (.cells ROW 237)).drew).setCells w.heap.size (i * 2) (rowCells [x])).drew).setCells w.heap.size ((i + 1) * 2) ((rowCells R).drop (i * 2)))) := ⟨below_setCells _ (Nat.le_refl _) _ _ _ ((below_setCells _ (Nat.le_refl _) _ _ _ (((Below.refl _ _).alloc (Nat.le_refl _) _).drew)).drew)⟩
 clear hcpA hcpB HF HB
 go_enter Tryz.func211, Tryz.ntmps211
 go_wp2_with (at_builtin; refine Lib.wpList_append_run _ rfl _ _ _ _ rfl _ _ rfl rfl _ _ (hrz _) ?_)
 go_region_law (refine step_copy_run' rfl _ _ 201 201 rfl (.slice (some ⟨w.heap.size, (i + 1) * 2, none⟩) (m + 1 - (i + 1)) (G - (i + 1))) (.slice (some ⟨g, i * 2, none⟩) (m - i) (m - i)) (by simp [Act.eval, Act.put]) (by simp [Act.eval, Act.put]) hBq ?_)
 all_goals
  go_wp2
  go_ret
  exact ⟨_, _, rfl, HL.out, HB2.out, Nat.le_refl _⟩

theorem insertS_any (g m vb i : Nat) (R : List MRow) (x : MRow) (w : World) (hR : R.length = m) (hm : m ≤ 24) (hi : i ≤ m) (hl : Lies w (some ⟨g, 0, none⟩) (rowCells R)) (hv : Lies w (some ⟨vb, 0, none⟩) (rowCells [x])) :
  Calls Tryz.prog 211 #[.slice (some ⟨g, 0, none⟩) m m, .int .i64 i, .slice (some ⟨vb, 0, none⟩) 1 1] w fun e w' =>
   ∃ (g' c' : Nat), e = .returned (.slice (some ⟨g', 0, none⟩) (m + 1) c') ∧ Lies w' (some ⟨g', 0, none⟩) (rowCells (R.take i ++ x :: R.drop i)) ∧ Below w.heap.size w w' ∧ w.heap.size ≤ g' := by
 by_cases h : i = m
 ·subst h
  have := insert_end g i vb R x w hR hm hl hv
  rw [List.take_of_length_le (by omega), List.drop_of_length_le (by omega)]
  exact this
 ·exact insert_mid g m vb i R x w hR hm (by omega) hl hv

end Go.Proofs.YtakkajjoeimkdaaGreatDoor
