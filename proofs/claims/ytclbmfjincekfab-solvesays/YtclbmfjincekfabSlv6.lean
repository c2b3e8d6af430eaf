/-
  solve.systemCopy: its contract.
-/
import Derived.Test.YtclbmfjincekfabSlv5
namespace Go.Proofs.Ytclbmfjincekfab
open Go.RowKit
set_option linter.unusedVariables false
set_option linter.unusedSimpArgs false

theorem infoRow' : (Try.prog.info? 29).map (fun i => (i.zero, i.size, i.bytes)) = some (some (.agg #[.slice none 0 0, .slice none 0 0]), 2, 48) := by kernel_rfl

/-- make of so many rows -/
theorem run_make_rows (m : Nat) (hm : m ≤ 24) (W : World) :
    (Instr.makeSlice 22 (.int .i64 (m : Int)) (.int .i64 (m : Int))).run Try.prog W = .ok (.slice (some ⟨W.heap.size, 0, none⟩) m m) (W.alloc (.cells (madeCells #[Value.slice none 0 0, Value.slice none 0 0] (m * 2)) 29)) := by
  obtain ⟨i0, hi, hz0, hz1, hz2⟩ := info_parts infoRow'
  have h := run_make (P := Try.prog) W 22 29 i0 (.agg #[.slice none 0 0, .slice none 0 0]) Try.underlying22 hi hz0 .i64 .i64 m m (by omega) (Int.le_refl _) (by rw [hz2]; omega) (by omega)
  simp only [Int.toNat_natCast, hz1] at h
  exact h

def nilRow : MRow := ⟨none, 0, [], none, 0, []⟩

theorem rows_made (W : World) (m : Nat) (t : TypeId) : RowsAt (W.alloc (.cells (madeCells #[Value.slice none 0 0, Value.slice none 0 0] (m * 2)) t)) W.heap.size (List.replicate m nilRow) := by
  have e : (W.alloc (.cells (madeCells #[Value.slice none 0 0, Value.slice none 0 0] (m * 2)) t)).heap[W.heap.size]? = some (.cells (madeCells #[Value.slice none 0 0, Value.slice none 0 0] (m * 2)) t (0, 0)) := by rw [heap_alloc_eq, if_pos rfl]
  refine RowsAt.of ?_ (fun j => by simp only [World.frozen?, e]; simp)
  intro j hj
  have hj' : j < m := by simpa using hj
  rw [List.getElem_replicate]
  have h0 : j * 2 % 2 = 0 := by omega
  have h1 : (j * 2 + 1) % 2 = 1 := by omega
  refine ⟨?_, ?_⟩
  · simp only [World.cell?, e]
    simp [madeCells, h0, show j * 2 < m * 2 by omega, nilRow, MRow.hv]
  · simp only [World.cell?, e]
    simp [madeCells, h1, show j * 2 + 1 < m * 2 by omega, nilRow, MRow.dv]

/-- a row of one's own list: it lies there, nowhere in the list's own block, and has room -/
def Own3 (w : World) (g n k : Nat) (x : MRow) : Prop := Good3 w g n k x ∧ x.h.length ≤ x.hc

theorem Own3.below {w w' : World} {g n k : Nat} {x : MRow} (h : Own3 w g n k x) (hb : Below w.heap.size w w') : Own3 w' g n k x := ⟨h.1.below hb, h.2⟩
theorem Own3.set {w : World} {g n k o : Nat} {x : MRow} {v : Value} (h : Own3 w g n k x) : Own3 (w.setCell ⟨g, o, none⟩ v) g n k x := ⟨h.1.set, h.2⟩

theorem NewRow.own {B : Nat} {w : World} {x : MRow} {g n k : Nat} (h : NewRow B w x) (hf : Fits n k x.says) (hg : g < B) : Own3 w g n k x :=
  ⟨⟨h.1, hf, fun b o e => by have := h.2.1 b o e; omega, fun b o e => by have := h.2.2.1 b o e; omega⟩, h.2.2.2⟩

/-- rows in a list of one's own -/
def CopyAt (W0 w : World) (g n k : Nat) (R : List MRow) : Prop := Below W0.heap.size W0 w ∧ W0.heap.size ≤ g ∧ g < w.heap.size ∧ RowsAt w g R ∧ ∀ x ∈ R, Own3 w g n k x

theorem CopyAt.below {W0 w w' : World} {g n k : Nat} {R : List MRow} (h : CopyAt W0 w g n k R) (hb : Below w.heap.size w w') : CopyAt W0 w' g n k R :=
  ⟨h.1.trans (hb.mono h.1.size), h.2.1, by have := hb.size; have := h.2.2.1; omega, h.2.2.2.1.below hb h.2.2.1, fun x hx => (h.2.2.2.2 x hx).below hb⟩

theorem set_app (C : List MRow) (d : Nat) (z r : MRow) : (C ++ List.replicate (d + 1) z).set C.length r = (C ++ [r]) ++ List.replicate d z := by
  rw [List.set_append_right _ _ (Nat.le_refl _), Nat.sub_self, List.replicate_succ, List.set_cons_zero]
  simp

/-- the copy in the making -/
def MidAt (W0 w : World) (g n k m q : Nat) (A : List LRow) : Prop :=
  Below W0.heap.size W0 w ∧ W0.heap.size ≤ g ∧ g < w.heap.size ∧ ∃ C : List MRow, C.length = q ∧ RowsAt w g (C ++ List.replicate (m - q) nilRow) ∧ (∀ x ∈ C, Own3 w g n k x) ∧ C.map MRow.says = A.take q

theorem MidAt.below {W0 w w' : World} {g n k m q : Nat} {A : List LRow} (h : MidAt W0 w g n k m q A) (hb : Below w.heap.size w w') : MidAt W0 w' g n k m q A := by
  obtain ⟨h1, h2, h3, C, h4, h5, h6, h7⟩ := h
  exact ⟨h1.trans (hb.mono h1.size), h2, by have := hb.size; omega, C, h4, h5.below hb h3, fun x hx => (h6 x hx).below hb, h7⟩

theorem MidAt.put {W0 w : World} {g n k m q : Nat} {A : List LRow} {r : MRow} (h : MidAt W0 w g n k m q A) (hq : q < m) (hr : Own3 w g n k r) (hs : A.take (q + 1) = A.take q ++ [r.says]) : MidAt W0 ((w.setCell ⟨g, q * 2, none⟩ r.hv).setCell ⟨g, q * 2 + 1, none⟩ r.dv) g n k m (q + 1) A := by
  obtain ⟨h1, h2, h3, C, h4, h5, h6, h7⟩ := h
  refine ⟨(h1.setCell (p := ⟨g, q * 2, none⟩) (by simpa using h2) _).setCell (p := ⟨g, q * 2 + 1, none⟩) (by simpa using h2) _, h2, by simpa using h3, C ++ [r], by simp [h4], ?_, ?_, ?_⟩
  · have h8 := h5.set (i := q) (by simp [h4]; omega) r
    rw [← h4, show m - C.length = (m - (C.length + 1)) + 1 by omega, set_app] at h8
    rw [← h4]
    exact h8
  · intro x hx
    rcases List.mem_append.1 hx with hx | hx
    · exact ((h6 x hx).set).set
    · simp at hx; rw [hx]; exact hr.set.set
  · rw [hs, List.map_append, h7]; rfl

theorem MidAt.cells {W0 w : World} {g n k m q : Nat} {A : List LRow} (h : MidAt W0 w g n k m q A) (hq : q < m) : w.cell? ⟨g, q * 2, none⟩ = some (.slice none 0 0) ∧ w.cell? ⟨g, q * 2 + 1, none⟩ = some (.slice none 0 0) ∧ ∀ j, w.frozen? ⟨g, j, none⟩ = false := by
  obtain ⟨h1, h2, h3, C, h4, h5, h6, h7⟩ := h
  obtain ⟨c0, c1⟩ := h5.cells (j := q) (by simp [h4]; omega)
  have e : (C ++ List.replicate (m - q) nilRow)[q]'(by simp [h4]; omega) = nilRow := by
    rw [List.getElem_append_right (by omega)]
    exact List.getElem_replicate _
  rw [e] at c0 c1
  exact ⟨c0, c1, h5.2⟩

theorem MidAt.done {W0 w : World} {g n k m : Nat} {A : List LRow} (h : MidAt W0 w g n k m m A) (hA : A.length = m) : ∃ R : List MRow, R.length = m ∧ CopyAt W0 w g n k R ∧ R.map MRow.says = A := by
  obtain ⟨h1, h2, h3, C, h4, h5, h6, h7⟩ := h
  rw [List.take_of_length_le (by omega)] at h7
  refine ⟨C, h4, ⟨h1, h2, h3, ?_, h6⟩, h7⟩
  simpa using h5

/-- no bool and no byte -/
def boxy : Value → Bool
  | .bool _ => false
  | .int .u8 _ => false
  | _ => true

/-- a row lies in no block that holds no bool and no byte -/
theorem RowIn.off {w : World} {x : MRow} {b : Nat} {c : Array Value} {t : TypeId} {f : Nat × Nat} (h : RowIn w x) (n1 : 0 < x.h.length) (k1 : 0 < x.d.length) (hb : w.heap[b]? = some (.cells c t f)) (hc : ∀ v ∈ c.toList, boxy v = true) :
    (∀ b' o, x.ha = some ⟨b', o, none⟩ → b' ≠ b) ∧ ∀ b' o, x.da = some ⟨b', o, none⟩ → b' ≠ b := by
  have key : ∀ (a : Option Addr) (xs : List Value) (u : Value), Lies w a xs → xs[0]? = some u → boxy u = false → ∀ b' o, a = some ⟨b', o, none⟩ → b' ≠ b := by
    intro a xs u hl hu hbx b' o e e2
    subst e e2
    have := hl.at hu
    simp only [World.cell?, hb] at this
    have hm : u ∈ c.toList := by
      have := Array.mem_of_getElem? this
      simpa using this
    rw [hc u hm] at hbx
    cases hbx
  exact ⟨key _ _ (.bool x.h[0]) h.1 (by simp [n1]) rfl, key _ _ (.int .u8 (x.d[0].toNat : Int)) h.2.1 (by simp [bs, k1]) rfl⟩

theorem RowIn.far {w w' : World} {x : MRow} {b : Nat} {c : Array Value} {t : TypeId} {f : Nat × Nat} (h : RowIn w x) (n1 : 0 < x.h.length) (k1 : 0 < x.d.length) (hb : w.heap[b]? = some (.cells c t f)) (hc : ∀ v ∈ c.toList, boxy v = true) (gr : w.grownBy w' (some b)) : RowIn w' x := by
  obtain ⟨o1, o2⟩ := h.off n1 k1 hb hc
  exact ⟨lies_grown gr h.1 o1, lies_grown gr h.2.1 o2, h.2.2⟩

/-- the rows behind the writing of a box -/
theorem CopyAt.far {W0 w w' : World} {g n k b : Nat} {R : List MRow} {c : Array Value} {t : TypeId} {f : Nat × Nat} (h : CopyAt W0 w g n k R) (n1 : 1 ≤ n) (k1 : 1 ≤ k) (hb : w.heap[b]? = some (.cells c t f)) (hc : ∀ v ∈ c.toList, boxy v = true) (hne : b ≠ g) (gr : w.grownBy w' (some b)) (hB : Below W0.heap.size W0 w') : CopyAt W0 w' g n k R := by
  obtain ⟨h1, h2, h3, h4, h5⟩ := h
  refine ⟨hB, h2, by have := gr.size; omega, ⟨lies_grown gr h4.1 fun c o e => by cases e; omega, fun j => (gr.frozen_far ⟨g, j, none⟩ h3 (by simp; omega)).trans (h4.2 j)⟩, fun x hx => ?_⟩
  obtain ⟨⟨g1, g2, g4, g5⟩, g3⟩ := h5 x hx
  exact ⟨⟨g1.far (by have := g2.1; simp only [MRow.says] at this; omega) (by have := g2.2; simp only [MRow.says] at this; omega) hb hc gr, g2, g4, g5⟩, g3⟩

theorem CopyAt.from {W W0 w : World} {g n k : Nat} {R : List MRow} (h : CopyAt W0 w g n k R) (hb : Below W.heap.size W W0) : CopyAt W w g n k R :=
  ⟨hb.trans (h.1.mono hb.size), Nat.le_trans hb.size h.2.1, h.2.2⟩

theorem boxy3 (x y : Int) (a : Option Addr) (m c : Nat) : ∀ v ∈ (#[Value.int .i64 x, .int .i64 y, .slice a m c] : Array Value).toList, boxy v = true := by
  intro v hv
  simp at hv
  rcases hv with rfl | rfl | rfl <;> rfl

theorem boxy2 (a b : Option Addr) (m c m' c' : Nat) : ∀ v ∈ (#[Value.slice a m c, .slice b m' c'] : Array Value).toList, boxy v = true := by
  intro v hv
  simp at hv
  rcases hv with rfl | rfl <;> rfl

theorem block_set {w : World} {b b' o : Nat} {x : Obj} {v : Value} (h : w.heap[b]? = some x) (hne : b ≠ b') : (w.setCell ⟨b', o, none⟩ v).heap[b]? = some x := by
  rw [Below.heap_setCell _ _ _ _ (by simpa using hne)]
  exact h

set_option maxHeartbeats 1000000 in
theorem systemCopy_any (n k : Nat) (ra : Option Addr) (rc : Nat) (rows : List MRow) (w : World) (hl : Lies w ra (rowCells rows)) (hall : ∀ x ∈ rows, RowIn w x) (hf : ∀ x ∈ rows, Fits n k x.says) (n1 : 1 ≤ n) (n2 : n ≤ 24) (k1 : 1 ≤ k) (k2 : k ≤ 16) (hm : rows.length ≤ 24) :
    Calls Try.prog 19 #[.agg #[.int .i64 n, .int .i64 k, .slice ra rows.length rc]] w fun e w' => ∃ (g : Nat) (R : List MRow), e = .returned (.agg #[.int .i64 n, .int .i64 k, .slice (some ⟨g, 0, none⟩) rows.length rows.length]) ∧ CopyAt w w' g n k R ∧ R.map MRow.says = rows.map MRow.says := by
  obtain ⟨blk0, blk1⟩ := alloc2 w (.cells #[.int .i64 n, .int .i64 k, .slice ra rows.length rc] 24) (.cells #[.int .i64 0, .int .i64 0, .slice none 0 0] 24)
  obtain ⟨W0, hW0⟩ : ∃ W0, (w.alloc (.cells #[.int .i64 n, .int .i64 k, .slice ra rows.length rc] 24)).alloc (.cells #[.int .i64 0, .int .i64 0, .slice none 0 0] 24) = W0 := ⟨_, rfl⟩
  have hB : Below w.heap.size w W0 := by rw [← hW0]; exact ((Below.refl _ _).alloc (Nat.le_refl _) _).alloc (by simp) _
  have hsz : W0.heap.size = w.heap.size + 2 := by rw [← hW0]; simp
  rw [hW0] at blk0 blk1
  have x0 : W0.cell? ⟨w.heap.size, 0, none⟩ = some (.int .i64 n) := by simp [World.cell?, blk0]
  have x1 : W0.cell? ⟨w.heap.size, 1, none⟩ = some (.int .i64 k) := by simp [World.cell?, blk0]
  have x2 : W0.cell? ⟨w.heap.size, 2, none⟩ = some (.slice ra rows.length rc) := by simp [World.cell?, blk0]
  have xf : ∀ j, W0.frozen? ⟨w.heap.size, j, none⟩ = false := fun j => by simp [World.frozen?, blk0]
  have y0 : W0.cell? ⟨w.heap.size + 1, 0, none⟩ = some (.int .i64 0) := by simp [World.cell?, blk1]
  have y1 : W0.cell? ⟨w.heap.size + 1, 1, none⟩ = some (.int .i64 0) := by simp [World.cell?, blk1]
  have y2 : W0.cell? ⟨w.heap.size + 1, 2, none⟩ = some (.slice none 0 0) := by simp [World.cell?, blk1]
  have yf : ∀ j, W0.frozen? ⟨w.heap.size + 1, j, none⟩ = false := fun j => by simp [World.frozen?, blk1]
  have hmk := run_make_rows rows.length hm
  have H0 : Shut (MidAt W0 (W0.alloc (.cells (madeCells #[Value.slice none 0 0, Value.slice none 0 0] (rows.length * 2)) 29)) W0.heap.size n k rows.length 0 (rows.map MRow.says)) := ⟨(Below.refl _ _).alloc (Nat.le_refl _) _, Nat.le_refl _, by simp, [], rfl, by simpa using rows_made W0 rows.length 29, (fun x hx => by cases hx), rfl⟩
  have HX := Shut.mk (And.intro x0 (And.intro x1 (And.intro x2 (And.intro y0 (And.intro y1 (And.intro y2 (And.intro xf yf)))))))
  have HBK := Shut.mk (And.intro blk0 blk1)
  have x2' : (W0.alloc (.cells (madeCells #[Value.slice none 0 0, Value.slice none 0 0] (rows.length * 2)) 29)).cell? ⟨w.heap.size, 2, none⟩ = some (.slice ra rows.length rc) := cellA' x2 _
  rw [← hW0] at x2 x2'
  replace hl := hl.below hB (Nat.le_refl _)
  replace hall : ∀ x ∈ rows, RowIn W0 x := fun x hx => (hall x hx).below hB
  have HW := Shut.mk hW0
  have HSZ := Shut.mk hsz
  clear blk0 blk1 x0 x1 y0 y1 y2 xf yf hW0 hsz
  go_enter Try.func19, Try.ntmps19
  go_wp2
  rw [HW.out]
  rw [HSZ.out] at H0
  clear x2 x2' hmk
  generalize W0.alloc (.cells (madeCells #[Value.slice none 0 0, Value.slice none 0 0] (rows.length * 2)) 29) = W1 at *
  go_loopw [13] (fun m wr => ∃ q : Nat, q ≤ rows.length ∧ m = .int .i64 q ∧ Shut (MidAt W0 wr (w.heap.size + 2) n k rows.length q (rows.map MRow.says))) (fun m _ => rows.length - (intOf m).toNat)
  case atStart => exact ⟨0, Nat.zero_le _, rfl, H0⟩
  case round =>
    clear H0
    obtain ⟨q, hq, rfl, HI⟩ := hrel
    by_cases hlt : q < rows.length
    · have i1 := HI.out.1
      obtain ⟨ab, ao, rfl⟩ := hl.some (k := 2 * q) (by rw [rowCells_length]; omega)
      obtain ⟨a0, a1⟩ := row_at (hl.below i1 (Nat.le_refl _)) hlt
      have rA := (hall _ (List.getElem_mem hlt)).below i1
      have hfA := hf _ (List.getElem_mem hlt)
      have HT : Shut ((rows.map MRow.says).take (q + 1) = (rows.map MRow.says).take q ++ [rows[q].says]) := ⟨by rw [List.take_succ_eq_append_getElem (by simpa using hlt)]; simp⟩
      generalize rows[q]'hlt = R at *
      have bd : Below wr.heap.size wr (wr.alloc (.cells #[R.hv, R.dv] 29)) := (Below.refl _ _).alloc (Nat.le_refl _) _
      obtain ⟨v0, v1⟩ := Box2.mk wr R.hv R.dv 29
      have hC := rowCopy_any R n k _ (rA.below bd) hfA n1 n2 k1 k2
      have HI2 := Shut.mk (HI.out.below bd)
      have HLT : Shut (w.heap.size + 2 < wr.heap.size) := ⟨HI.out.2.2.1⟩
      have HFA := Shut.mk hfA
      obtain ⟨rha, rhc, rh, rda, rdc, rd⟩ := R
      simp only [MRow.hv, MRow.dv] at *
      clear i1 rA HI hfA hl hall hf bd
      go_wp2_with fail
      refine hC.mono ?_
      rintro e w2 ⟨t, rfl, hN, hS, hb2⟩
      have HI3 := HI2.out.below hb2
      obtain ⟨c0, c1, cf⟩ := HI3.cells hlt
      have cf0 := cf (q * 2)
      have cf1 := cf (q * 2 + 1)
      have hO : Own3 w2 (w.heap.size + 2) n k t := hN.own (by rw [hS]; exact HFA.out) (by have := HLT.out; simp; omega)
      have R1 := Shut.mk (HI3.put hlt hO (by rw [HT.out, hS]))
      clear hC hN hS hb2 HI3 HI2 hO cf v0 v1 a0 a1
      obtain ⟨tha, thc, th, tda, tdc, td⟩ := t
      simp only [MRow.hv, MRow.dv] at *
      go_wp2
      go_roundw
      case rel => exact ⟨q + 1, by omega, by go_num, R1⟩
      case measure => simp [intOf]; omega
    · obtain rfl : q = rows.length := by omega
      have i1 := HI.out.1
      obtain ⟨R, hRl, hCp, hRs⟩ := HI.out.done (by simp)
      have HR := Shut.mk (And.intro (hCp.from hB) hRs)
      have bk0 := (i1.block w.heap.size (by rw [HSZ.out]; omega)).trans HBK.out.1
      have bk1 := (i1.block (w.heap.size + 1) (by rw [HSZ.out]; omega)).trans HBK.out.2
      have HBK2 := Shut.mk (And.intro bk0 bk1)
      have x0 := cellC HX.out.1 i1
      have x1 := cellC HX.out.2.1 i1
      have x2 := cellC HX.out.2.2.1 i1
      have y0 := cellC HX.out.2.2.2.1 i1
      have y1 := cellC HX.out.2.2.2.2.1 i1
      have y2 := cellC HX.out.2.2.2.2.2.1 i1
      have xf := ((bcell i1).2 w.heap.size 2 (by rw [HSZ.out]; omega)).trans (HX.out.2.2.2.2.2.2.1 2)
      have yf0 := ((bcell i1).2 (w.heap.size + 1) 0 (by rw [HSZ.out]; omega)).trans (HX.out.2.2.2.2.2.2.2 0)
      have yf1 := ((bcell i1).2 (w.heap.size + 1) 1 (by rw [HSZ.out]; omega)).trans (HX.out.2.2.2.2.2.2.2 1)
      have yf2 := ((bcell i1).2 (w.heap.size + 1) 2 (by rw [HSZ.out]; omega)).trans (HX.out.2.2.2.2.2.2.2 2)
      have hBw : Below w.heap.size w wr := hB.trans (i1.mono hB.size)
      clear i1 HI hCp hRs hRl bk0 bk1 HX HBK hl hall hf
      go_wp2
      obtain ⟨rs, hrs⟩ : ∃ rs, Value.slice (some ⟨w.heap.size + 1 + 1, 0, none⟩) rows.length rows.length = rs := ⟨_, rfl⟩
      rw [hrs]
      have hA : Below w.heap.size w (wr.setCell ⟨w.heap.size, 2, none⟩ rs) := hBw.setCell (p := ⟨w.heap.size, 2, none⟩) (by simp) rs
      have c1 := HR.out.1.far n1 k1 HBK2.out.1 (boxy3 _ _ _ _ _) (by omega) (grown_setCell wr w.heap.size 2 rs) hA
      have y0' : (wr.setCell ⟨w.heap.size, 2, none⟩ rs).cell? ⟨w.heap.size + 1, 0, none⟩ = some (.int .i64 0) := by rw [World.cell?_setCell_other _ _ _ _ (by intro e; injection e; omega)]; exact y0
      have y1' : (wr.setCell ⟨w.heap.size, 2, none⟩ rs).cell? ⟨w.heap.size + 1, 1, none⟩ = some (.int .i64 0) := by rw [World.cell?_setCell_other _ _ _ _ (by intro e; injection e; omega)]; exact y1
      have y2' : (wr.setCell ⟨w.heap.size, 2, none⟩ rs).cell? ⟨w.heap.size + 1, 2, none⟩ = some (.slice none 0 0) := by rw [World.cell?_setCell_other _ _ _ _ (by intro e; injection e; omega)]; exact y2
      have bk1 := block_set (o := 2) (v := rs) HBK2.out.2 (show w.heap.size + 1 ≠ w.heap.size by omega)
      obtain ⟨z0, z1, z2⟩ := set3 y0' y1' y2' (.int .i64 n) (.int .i64 k) rs
      have gr := grown_trans (grown_trans (grown_setCell (wr.setCell ⟨w.heap.size, 2, none⟩ rs) (w.heap.size + 1) 0 (.int .i64 n)) (grown_setCell _ (w.heap.size + 1) 1 (.int .i64 k))) (grown_setCell _ (w.heap.size + 1) 2 rs)
      have hF := ((hA.setCell (p := ⟨w.heap.size + 1, 0, none⟩) (by simp) (.int .i64 n)).setCell (p := ⟨w.heap.size + 1, 1, none⟩) (by simp) (.int .i64 k)).setCell (p := ⟨w.heap.size + 1, 2, none⟩) (by simp) rs
      have c2 := c1.far n1 k1 bk1 (boxy3 _ _ _ _ _) (by omega) gr hF
      clear x0 x1 x2 y0 y1 y2 xf yf0 yf1 yf2 y0' y1' y2' bk1 gr hA c1 HBK2
      generalize (((wr.setCell ⟨w.heap.size, 2, none⟩ rs).setCell ⟨w.heap.size + 1, 0, none⟩ (.int .i64 n)).setCell ⟨w.heap.size + 1, 1, none⟩ (.int .i64 k)).setCell ⟨w.heap.size + 1, 2, none⟩ rs = w9 at *
      refine bodyPost_ret (v := .agg #[.int .i64 n, .int .i64 k, rs]) (by simp [results, Try.results19, go_sem, z0, z1, z2]) rfl ?_
      exact ⟨w.heap.size + 2, R, by rw [← hrs], c2, HR.out.2⟩

end Go.Proofs.Ytclbmfjincekfab
