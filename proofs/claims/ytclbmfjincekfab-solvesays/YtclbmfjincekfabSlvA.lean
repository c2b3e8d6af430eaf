/-
  solve.Add: its contract.
-/
import Derived.Test.YtclbmfjincekfabSlv9
import Derived.Test.YtclbmfjincekfabSlv4
import Derived.Deep.RegionWith
namespace Go.Proofs.Ytclbmfjincekfab
open Go.RowKit
set_option linter.unusedVariables false
set_option linter.unusedSimpArgs false

theorem cell_blk {w : World} {b : Nat} {c : Array Value} {t : TypeId} {f : Nat × Nat} (h : w.heap[b]? = some (.cells c t f)) (j : Nat) : w.cell? ⟨b, j, none⟩ = c[j]? := by simp only [World.cell?, h]; simp

theorem frozen_blk {w : World} {b : Nat} {c : Array Value} {t : TypeId} (h : w.heap[b]? = some (.cells c t (0, 0))) (j : Nat) : w.frozen? ⟨b, j, none⟩ = false := by simp only [World.frozen?, h]; simp

theorem blk_lt {w : World} {b : Nat} {x : Obj} (h : w.heap[b]? = some x) : b < w.heap.size := (Array.getElem?_eq_some_iff.1 h).1

theorem blk_below {w w' : World} {b : Nat} {x : Obj} (h : w.heap[b]? = some x) (hb : Below w.heap.size w w') : w'.heap[b]? = some x := (hb.block b (blk_lt h)).trans h

theorem heap_set {w : World} {b o : Nat} {c : Array Value} {t : TypeId} {f : Nat × Nat} {v : Value} (h : w.heap[b]? = some (.cells c t f)) : (w.setCell ⟨b, o, none⟩ v).heap[b]? = some (.cells (c.setIfInBounds o v) t f) := by
  rw [setCell_eq_setRow w b o c t f v h]
  exact setRow_heap w b c _ t _ h

/-- the zero system -/
abbrev zSys : Value := .agg #[.int .i64 0, .int .i64 0, .slice none 0 0]

/-- what solve.Add answers of right rows -/
def AddAnsC (w w' : World) (n k : Nat) (A : List LRow) (r : LRow) (e : Ending) : Prop :=
  Below w.heap.size w w' ∧
  ((addL A r = none ∧ e = .returned (.tuple #[.agg #[.int .i64 0, .int .i64 0, .slice none 0 0], .bool false, .int .i64 9])) ∨
   ∃ (P : List LRow) (a : Option Addr) (c : Nat) (rows : List MRow), addL A r = some P ∧ e = .returned (.tuple #[.agg #[.int .i64 n, .int .i64 k, .slice a rows.length c], .bool (decide (P.length = A.length + 1)), .int .i64 0]) ∧
     Lies w' a (rowCells rows) ∧ (∀ x ∈ rows, RowIn w' x ∧ x.h.length ≤ x.hc) ∧ rows.map MRow.says = P ∧ ∀ b o, a = some ⟨b, o, none⟩ → w.heap.size ≤ b)

/-- the state of Add's loop: the row that is left, in its box -/
def AddInv (w wr : World) (n k m g tb : Nat) (sv : Array Value) (R : List MRow) (p : LRow) : Prop :=
  CopyAt w wr g n k R ∧ (∃ r' : MRow, r'.says = p ∧ Good3 wr g n k r' ∧ wr.heap[w.heap.size + 1]? = some (.cells #[r'.hv, r'.dv] 29 (0, 0))) ∧ wr.heap[w.heap.size]? = some (.cells sv 24 (0, 0)) ∧
  wr.heap[w.heap.size + 2]? = some (.cells #[.int .i64 0, .int .i64 0, .slice none 0 0] 24 (0, 0)) ∧ wr.heap[tb]? = some (.cells #[.int .i64 n, .int .i64 k, .slice (some ⟨g, 0, none⟩) m m] 24 (0, 0)) ∧ w.heap.size + 2 < g ∧ g < tb

theorem AddInv.below {w wr w' : World} {n k m g tb : Nat} {sv : Array Value} {R : List MRow} {p : LRow} (h : AddInv w wr n k m g tb sv R p) (hb : Below wr.heap.size wr w') : AddInv w w' n k m g tb sv R p := by
  obtain ⟨h1, ⟨r', h2, h3, h4⟩, h5, h6, h7, h8⟩ := h
  exact ⟨h1.below hb, ⟨r', h2, h3.below hb, blk_below h4 hb⟩, blk_below h5 hb, blk_below h6 hb, blk_below h7 hb, h8⟩

theorem AddInv.put {w wr : World} {n k m g tb : Nat} {sv : Array Value} {R : List MRow} {p : LRow} {t : MRow} (h : AddInv w wr n k m g tb sv R p) (n1 : 1 ≤ n) (k1 : 1 ≤ k) (ht : Own3 wr g n k t) :
    AddInv w ((wr.setCell ⟨w.heap.size + 1, 0, none⟩ t.hv).setCell ⟨w.heap.size + 1, 1, none⟩ t.dv) n k m g tb sv R t.says := by
  obtain ⟨h1, ⟨r', h2, h3, h4⟩, h5, h6, h7, h8, h9⟩ := h
  have gr := grown_trans (grown_setCell wr (w.heap.size + 1) 0 t.hv) (grown_setCell _ (w.heap.size + 1) 1 t.dv)
  have hB : Below w.heap.size w ((wr.setCell ⟨w.heap.size + 1, 0, none⟩ t.hv).setCell ⟨w.heap.size + 1, 1, none⟩ t.dv) := (h1.1.setCell (p := ⟨w.heap.size + 1, 0, none⟩) (by simp) _).setCell (p := ⟨w.heap.size + 1, 1, none⟩) (by simp) _
  refine ⟨h1.far n1 k1 h4 (boxy2 _ _ _ _ _ _) (by omega) gr hB, ⟨t, rfl, ⟨?_, ht.1.2⟩, ?_⟩, block_set (block_set h5 (by omega)) (by omega), block_set (block_set h6 (by omega)) (by omega), block_set (block_set h7 (by omega)) (by omega), h8, h9⟩
  · have hf := ht.1.2.1
    exact ht.1.1.far (by have := hf.1; simp only [MRow.says] at this; omega) (by have := hf.2; simp only [MRow.says] at this; omega) h4 (boxy2 _ _ _ _ _ _) gr
  · have e := heap_set (o := 1) (v := t.dv) (heap_set (o := 0) (v := t.hv) h4)
    rw [e]
    simp

/-- where Check says no -/
theorem addS_chk (s : MSys) (r : MRow) (w : World) (hs : SysIn w s) (hr : RowIn w r) (h : chkSys s.B s.K (s.rows.map MRow.says) ≠ 0) :
    Calls Try.prog 6 #[.agg #[.int .i64 s.B, .int .i64 s.K, .slice s.ra s.rows.length s.rc], .agg #[r.hv, r.dv]] w fun e w' => e = .returned (.tuple #[.agg #[.int .i64 0, .int .i64 0, .slice none 0 0], .bool false, .int .i64 (chkSys s.B s.K (s.rows.map MRow.says))]) ∧ Below w.heap.size w w' := by
  obtain ⟨blk0, blk1, blk2⟩ := alloc3' w (.cells #[.int .i64 s.B, .int .i64 s.K, .slice s.ra s.rows.length s.rc] 24) (.cells #[r.hv, r.dv] 29) (.cells #[.int .i64 0, .int .i64 0, .slice none 0 0] 24)
  obtain ⟨W, hW⟩ : ∃ W, ((w.alloc (.cells #[.int .i64 s.B, .int .i64 s.K, .slice s.ra s.rows.length s.rc] 24)).alloc (.cells #[r.hv, r.dv] 29)).alloc (.cells #[.int .i64 0, .int .i64 0, .slice none 0 0] 24) = W := ⟨_, rfl⟩
  have hB : Below w.heap.size w W := by rw [← hW]; exact (((Below.refl _ _).alloc (Nat.le_refl _) _).alloc (by simp) _).alloc (by simp; omega) _
  rw [hW] at blk0 blk1 blk2
  have x0 := cell_blk blk0 0
  have x1 := cell_blk blk0 1
  have x2 := cell_blk blk0 2
  simp at x0 x1 x2
  rw [← hW] at x0 x1 x2
  have hC := checkS_any s W (hs.below hB)
  have HW := Shut.mk hW
  have HBL := Shut.mk blk2
  obtain ⟨q, hq⟩ : ∃ q, chkSys s.B s.K (s.rows.map MRow.says) = q := ⟨_, rfl⟩
  rw [hq] at hC h ⊢
  have h1 : (q != 0) = true := by simpa using h
  have H1 := Shut.mk hB
  clear hW blk0 blk1 blk2 hs hr hq h hB
  obtain ⟨B, K, ra, rc, rows⟩ := s
  obtain ⟨rha, rhc, rh, rda, rdc, rd⟩ := r
  simp only [MRow.hv, MRow.dv] at *
  go_enter Try.func6, Try.ntmps6
  go_wp2_with fail
  rw [HW.out]
  refine hC.mono ?_
  rintro e w1 ⟨rfl, hb⟩
  have b2 := blk_below HBL.out hb
  have z0 := cell_blk b2 0
  have z1 := cell_blk b2 1
  have z2 := cell_blk b2 2
  simp at z0 z1 z2
  have f0 := frozen_blk b2 0
  have f1 := frozen_blk b2 1
  have f2 := frozen_blk b2 2
  have hb1 := H1.out.trans (hb.mono H1.out.size)
  clear hC hb x0 x1 x2 b2 HW
  go_wp2
  obtain ⟨y0, y1, y2⟩ := set3 z0 z1 z2 (.int .i64 0) (.int .i64 0) (.slice none 0 0)
  have hbF := ((hb1.setCell (p := ⟨w.heap.size + 2, 0, none⟩) (by simp) (.int .i64 0)).setCell (p := ⟨w.heap.size + 2, 1, none⟩) (by simp) (.int .i64 0)).setCell (p := ⟨w.heap.size + 2, 2, none⟩) (by simp) (.slice none 0 0)
  generalize ((w1.setCell ⟨w.heap.size + 2, 0, none⟩ (.int .i64 0)).setCell ⟨w.heap.size + 2, 1, none⟩ (.int .i64 0)).setCell ⟨w.heap.size + 2, 2, none⟩ (.slice none 0 0) = w9 at *
  refine bodyPost_ret (v := .tuple #[.agg #[.int .i64 0, .int .i64 0, .slice none 0 0], .bool false, .int .i64 q]) (by simp [results, Try.results6, go_sem, y0, y1, y2]) rfl ?_
  exact ⟨rfl, hbF⟩

/-- a row of another size -/
theorem addS_form (s : MSys) (r : MRow) (w : World) (hs : SysIn w s) (hr : RowIn w r) (h : chkSys s.B s.K (s.rows.map MRow.says) = 0) (hf : ¬ ((r.h.length : Int) = s.B ∧ (r.d.length : Int) = s.K)) :
    Calls Try.prog 6 #[.agg #[.int .i64 s.B, .int .i64 s.K, .slice s.ra s.rows.length s.rc], .agg #[r.hv, r.dv]] w fun e w' => e = .returned (.tuple #[.agg #[.int .i64 0, .int .i64 0, .slice none 0 0], .bool false, .int .i64 4]) ∧ Below w.heap.size w w' := by
  obtain ⟨blk0, blk1, blk2⟩ := alloc3' w (.cells #[.int .i64 s.B, .int .i64 s.K, .slice s.ra s.rows.length s.rc] 24) (.cells #[r.hv, r.dv] 29) (.cells #[.int .i64 0, .int .i64 0, .slice none 0 0] 24)
  obtain ⟨W, hW⟩ : ∃ W, ((w.alloc (.cells #[.int .i64 s.B, .int .i64 s.K, .slice s.ra s.rows.length s.rc] 24)).alloc (.cells #[r.hv, r.dv] 29)).alloc (.cells #[.int .i64 0, .int .i64 0, .slice none 0 0] 24) = W := ⟨_, rfl⟩
  have hB : Below w.heap.size w W := by rw [← hW]; exact (((Below.refl _ _).alloc (Nat.le_refl _) _).alloc (by simp) _).alloc (by simp; omega) _
  rw [hW] at blk0 blk1 blk2
  have x0 := cell_blk blk0 0
  have x1 := cell_blk blk0 1
  have x2 := cell_blk blk0 2
  simp at x0 x1 x2
  rw [← hW] at x0 x1 x2
  have hC := checkS_any s W (hs.below hB)
  rw [h] at hC
  have HW := Shut.mk hW
  have HBL := Shut.mk (And.intro blk0 (And.intro blk1 blk2))
  have H1 := Shut.mk hB
  have HR := Shut.mk (hr.below hB)
  have HD := Shut.mk (decide_eq_false hf)
  clear hW blk0 blk1 blk2 hs hr h hB hf
  obtain ⟨B, K, ra, rc, rows⟩ := s
  obtain ⟨rha, rhc, rh, rda, rdc, rd⟩ := r
  simp only [MRow.hv, MRow.dv] at *
  go_enter Try.func6, Try.ntmps6
  go_wp2_with fail
  rw [HW.out]
  refine hC.mono ?_
  rintro e w1 ⟨rfl, hb⟩
  have b0 := blk_below HBL.out.1 hb
  have b1 := blk_below HBL.out.2.1 hb
  have s0 := cell_blk b0 0
  have s1 := cell_blk b0 1
  have s2 := cell_blk b0 2
  have r0 := cell_blk b1 0
  have r1 := cell_blk b1 1
  simp at s0 s1 s2 r0 r1
  have hF := fits_any B K ra rows.length rc ⟨rha, rhc, rh, rda, rdc, rd⟩ w1 (HR.out.below hb)
  rw [HD.out] at hF
  simp only [MRow.hv, MRow.dv] at hF
  have HB1 := Shut.mk hb
  clear hC hb x0 x1 x2 HW b0 b1
  go_wp2_with fail
  refine hF.mono ?_
  rintro e w2 ⟨rfl, hb⟩
  have hb' := HB1.out.trans (hb.mono HB1.out.size)
  have b2 := blk_below HBL.out.2.2 hb'
  have z0 := cell_blk b2 0
  have z1 := cell_blk b2 1
  have z2 := cell_blk b2 2
  simp at z0 z1 z2
  have f0 := frozen_blk b2 0
  have f1 := frozen_blk b2 1
  have f2 := frozen_blk b2 2
  have hb1 := H1.out.trans (hb'.mono H1.out.size)
  clear hF hb hb' s0 s1 s2 r0 r1 b2 HB1
  go_wp2
  obtain ⟨y0, y1, y2⟩ := set3 z0 z1 z2 (.int .i64 0) (.int .i64 0) (.slice none 0 0)
  have hbF := ((hb1.setCell (p := ⟨w.heap.size + 2, 0, none⟩) (by simp) (.int .i64 0)).setCell (p := ⟨w.heap.size + 2, 1, none⟩) (by simp) (.int .i64 0)).setCell (p := ⟨w.heap.size + 2, 2, none⟩) (by simp) (.slice none 0 0)
  generalize ((w2.setCell ⟨w.heap.size + 2, 0, none⟩ (.int .i64 0)).setCell ⟨w.heap.size + 2, 1, none⟩ (.int .i64 0)).setCell ⟨w.heap.size + 2, 2, none⟩ (.slice none 0 0) = w9 at *
  refine bodyPost_ret (v := .tuple #[.agg #[.int .i64 0, .int .i64 0, .slice none 0 0], .bool false, .int .i64 4]) (by simp [results, Try.results6, go_sem, y0, y1, y2]) rfl ?_
  exact ⟨rfl, hbF⟩

end Go.Proofs.Ytclbmfjincekfab
