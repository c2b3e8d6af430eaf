import Derived.Test.YtkiejflgphjfjacDoorPart14
import Derived.Test.YtkiejflgphjfjacDoorPart7
import Derived.Test.YtkiejflgphjfjacDoorPart10
/-
  The closed fact 'solved': it is true.
-/
namespace Go.Proofs.YtkiejflgphjfjacDoor
open Go.RowKit
set_option linter.unusedVariables false
set_option linter.unusedSimpArgs false

theorem add2_some (w : World) (x y : Bool) (z : UInt8) (a : Option Addr) (c m m' : Nat) (rows : List MRow) (A P : List LRow) (bb : Bool) (hm : A.length = m) (hl : Lies w a (rowCells rows)) (hr : ∀ r ∈ rows, RowIn w r) (hs : rows.map MRow.says = A) (hR : Right 2 1 A) (hP : addL A ([x, y], [z]) = some P) (hm' : P.length = m') (hbb : decide (P.length = A.length + 1) = bb) :
    Calls Tryd.prog 25 #[.agg #[.int .i64 2, .int .i64 1, .slice a m c], .agg #[.slice (some ⟨w.heap.size, 0, none⟩) 2 2, .slice (some ⟨w.heap.size + 1, 0, none⟩) 1 1]] ((w.alloc (.cells #[.bool x, .bool y] 4)).alloc (.cells #[.int .u8 (z.toNat : Int)] 5)) fun e w' =>
      ∃ (a' : Option Addr) (c' : Nat) (rows' : List MRow), e = .returned (.tuple #[.agg #[.int .i64 2, .int .i64 1, .slice a' m' c'], .bool bb, .int .i64 0]) ∧ Lies w' a' (rowCells rows') ∧ (∀ r ∈ rows', RowIn w' r ∧ r.h.length ≤ r.hc) ∧ rows'.map MRow.says = P ∧ (∀ b o, a' = some ⟨b, o, none⟩ → w.heap.size ≤ b) ∧ Below w.heap.size w w' := by
  have hb : Below w.heap.size w ((w.alloc (.cells #[.bool x, .bool y] 4)).alloc (.cells #[.int .u8 (z.toNat : Int)] 5)) := ((Below.refl _ _).alloc (Nat.le_refl _) _).alloc (by simp) _
  refine (add2_any w x y z a c m rows A hm hl hr hs hR).mono ?_
  rintro e w' ⟨hb1, ⟨h0, _⟩ | ⟨P', a', c', rows', h1, rfl, h3, h4, h5, h6⟩⟩
  · rw [hP] at h0; cases h0
  · rw [hP] at h1
    cases h1
    have hlen : rows'.length = m' := by rw [← hm', ← h5]; simp
    refine ⟨a', c', rows', by rw [hlen, hbb]; rfl, h3, h4, h5, fun b o e => Nat.le_trans hb.size (h6 b o e), hb.trans (hb1.mono hb.size)⟩

theorem add2_none (w : World) (x y : Bool) (z : UInt8) (a : Option Addr) (c m : Nat) (rows : List MRow) (A : List LRow) (hm : A.length = m) (hl : Lies w a (rowCells rows)) (hr : ∀ r ∈ rows, RowIn w r) (hs : rows.map MRow.says = A) (hR : Right 2 1 A) (hP : addL A ([x, y], [z]) = none) :
    Calls Tryd.prog 25 #[.agg #[.int .i64 2, .int .i64 1, .slice a m c], .agg #[.slice (some ⟨w.heap.size, 0, none⟩) 2 2, .slice (some ⟨w.heap.size + 1, 0, none⟩) 1 1]] ((w.alloc (.cells #[.bool x, .bool y] 4)).alloc (.cells #[.int .u8 (z.toNat : Int)] 5)) fun e w' =>
      e = .returned (.tuple #[.agg #[.int .i64 0, .int .i64 0, .slice none 0 0], .bool false, .int .i64 9]) ∧ Below w.heap.size w w' := by
  have hb : Below w.heap.size w ((w.alloc (.cells #[.bool x, .bool y] 4)).alloc (.cells #[.int .u8 (z.toNat : Int)] 5)) := ((Below.refl _ _).alloc (Nat.le_refl _) _).alloc (by simp) _
  refine (add2_any w x y z a c m rows A hm hl hr hs hR).mono ?_
  rintro e w' ⟨hb1, ⟨h0, rfl⟩ | ⟨P', a', c', rows', h1, rfl, h3, h4, h5, h6⟩⟩
  · exact ⟨rfl, hb.trans (hb1.mono hb.size)⟩
  · rw [hP] at h1; cases h1

/-- a system in a box -/
def SysBox (w : World) (b n k : Nat) (a : Option Addr) (m c : Nat) (rows : List MRow) (A : List LRow) : Prop :=
  w.heap[b]? = some (.cells #[.int .i64 n, .int .i64 k, .slice a m c] 53 (0, 0)) ∧ Lies w a (rowCells rows) ∧ (∀ r ∈ rows, RowIn w r ∧ r.h.length ≤ r.hc) ∧ rows.map MRow.says = A

theorem SysBox.below {w w' : World} {b n k m c : Nat} {a : Option Addr} {rows : List MRow} {A : List LRow} (h : SysBox w b n k a m c rows A) (hb : Below w.heap.size w w') : SysBox w' b n k a m c rows A :=
  ⟨blk_below h.1 hb, h.2.1.below hb (Nat.le_refl _), fun r hr => ⟨(h.2.2.1 r hr).1.below hb, (h.2.2.1 r hr).2⟩, h.2.2.2⟩

theorem SysBox.cells {w : World} {b n k m c : Nat} {a : Option Addr} {rows : List MRow} {A : List LRow} (h : SysBox w b n k a m c rows A) : w.cell? ⟨b, 0, none⟩ = some (.int .i64 n) ∧ w.cell? ⟨b, 1, none⟩ = some (.int .i64 k) ∧ w.cell? ⟨b, 2, none⟩ = some (.slice a m c) ∧ ∀ j, w.frozen? ⟨b, j, none⟩ = false := by
  have x0 := cell_blk h.1 0
  have x1 := cell_blk h.1 1
  have x2 := cell_blk h.1 2
  simp at x0 x1 x2
  exact ⟨x0, x1, x2, fun j => frozen_blk h.1 j⟩

/-- another one is put into the box -/
theorem SysBox.put {w : World} {b n k m m' c c' : Nat} {a a' : Option Addr} {rows rows' : List MRow} {A P : List LRow} (h : SysBox w b n k a m c rows A) (hl : Lies w a' (rowCells rows')) (hr : ∀ r ∈ rows', RowIn w r ∧ r.h.length ≤ r.hc) (hs : rows'.map MRow.says = P) (hne : ∀ c o, a' = some ⟨c, o, none⟩ → c ≠ b) (hP : Right n k P) :
    SysBox (((w.setCell ⟨b, 0, none⟩ (.int .i64 n)).setCell ⟨b, 1, none⟩ (.int .i64 k)).setCell ⟨b, 2, none⟩ (.slice a' m' c')) b n k a' m' c' rows' P := by
  have gr := grown_trans (grown_trans (grown_setCell w b 0 (.int .i64 n)) (grown_setCell _ b 1 (.int .i64 k))) (grown_setCell _ b 2 (.slice a' m' c'))
  refine ⟨?_, lies_grown gr hl hne, fun r hr' => ?_, hs⟩
  · have e := heap_set (o := 2) (v := .slice a' m' c') (heap_set (o := 1) (v := .int .i64 k) (heap_set (o := 0) (v := .int .i64 n) h.1))
    rw [e]
    simp
  · have hf := hP.fits _ (by rw [← hs]; exact List.mem_map_of_mem hr')
    have h1 := hf.1
    have h2 := hf.2
    have k1 := hP.k1
    have n1 := hP.n1
    simp only [MRow.says] at h1 h2
    exact ⟨(hr r hr').1.far (by omega) (by omega) h.1 (boxy3 _ _ _ _ _) gr, (hr r hr').2⟩

theorem boxB {w w1 : World} (hb : Below w.heap.size w w1) (o : Obj) : Below w.heap.size w (w1.alloc o) := hb.alloc hb.size o

/-- the system that 'solved' makes -/
theorem r2 : Right 2 1 [([true, true], [7])] := (addL_right (right_nil (by decide) (by decide) (by decide) (by decide)) ⟨rfl, rfl⟩ p1).1
theorem r3 : Right 2 1 [([true, false], [4]), ([false, true], [3])] := (addL_right r2 ⟨rfl, rfl⟩ p2).1

set_option maxHeartbeats 2000000 in
set_option maxRecDepth 8000 in
theorem solved_any (w : World) : Calls Tryd.prog 11 #[] w fun e w' => e = .returned (.bool true) ∧ Below w.heap.size w w' := by
  have hchk : chkSys 2 1 [] = 0 := chk_of_right (n := 2) (k := 1) (right_nil (by decide) (by decide) (by decide) (by decide))
  have hN := new_any 2 1 w (.agg #[.int .i64 2, .int .i64 1, .slice none 0 0]) (by rw [if_pos hchk])
  rw [hchk] at hN
  clear hchk
  go_enter Tryd.func11, Tryd.ntmps11
  go_wp2_with fail
  refine hN.mono ?_
  rintro e w1 ⟨rfl, hb1⟩
  have HS : Shut (SysBox (w1.alloc (.cells #[.int .i64 2, .int .i64 1, .slice none 0 0] 53)) w1.heap.size 2 1 none 0 0 [] []) := ⟨by rw [heap_alloc_eq, if_pos rfl]; rfl, Lies.nil _ _, (fun r hr => by cases hr), rfl⟩
  have hB := boxB hb1 (.cells #[.int .i64 2, .int .i64 1, .slice none 0 0] 53)
  have HBB : Shut (w.heap.size ≤ w1.heap.size ∧ w1.heap.size < (w1.alloc (.cells #[.int .i64 2, .int .i64 1, .slice none 0 0] 53)).heap.size) := ⟨hb1.size, by simp⟩
  clear hN hb1
  go_upto_region 2 with fail
  generalize w1.alloc (.cells #[.int .i64 2, .int .i64 1, .slice none 0 0] 53) = W1 at *
  generalize w1.heap.size = b at *
  obtain ⟨x0, x1, x2, xf⟩ := HS.out.cells
  replace x0 : _ = some (Value.int .i64 2) := x0
  replace x1 : _ = some (Value.int .i64 1) := x1
  have hA := add2_some W1 true true 7 none 0 0 1 [] [] [([true, true], [7])] true rfl HS.out.2.1 (fun r hr => (HS.out.2.2.1 r hr).1) HS.out.2.2.2 (right_nil (by decide) (by decide) (by decide) (by decide)) p1 rfl rfl
  clear xf
  go_wp2_with fail
  refine hA.mono ?_
  rintro e V1 ⟨a1, c1, rows1, rfl, l1, h1, s1, n1, d1⟩
  replace HS := Shut.mk (HS.out.below d1)
  replace hB := hB.trans (d1.mono hB.size)
  replace HBB : Shut (w.heap.size ≤ b ∧ b < V1.heap.size ∧ ∀ c o, a1 = some ⟨c, o, none⟩ → c ≠ b) := ⟨HBB.out.1, Nat.lt_of_lt_of_le HBB.out.2 d1.size, fun c o e => by have := n1 c o e; have := HBB.out.2; omega⟩
  clear hA x0 x1 x2 d1 n1
  obtain ⟨y0, y1, y2, yf⟩ := HS.out.cells
  have f0 := yf 0
  have f1 := yf 1
  have f2 := yf 2
  replace HS := Shut.mk (HS.out.put (m' := 1) (c' := c1) l1 h1 s1 HBB.out.2.2 r2)
  replace hB := ((hB.setCell (p := ⟨b, 0, none⟩) (by simpa using HBB.out.1) (.int .i64 2)).setCell (p := ⟨b, 1, none⟩) (by simpa using HBB.out.1) (.int .i64 1)).setCell (p := ⟨b, 2, none⟩) (by simpa using HBB.out.1) (.slice a1 1 c1)
  replace HBB : Shut (w.heap.size ≤ b ∧ b < (((V1.setCell ⟨b, 0, none⟩ (.int .i64 2)).setCell ⟨b, 1, none⟩ (.int .i64 1)).setCell ⟨b, 2, none⟩ (.slice a1 1 c1)).heap.size) := ⟨HBB.out.1, by simpa using HBB.out.2.1⟩
  clear yf l1 h1 s1
  go_upto_region 3 with fail
  replace HS : Shut (SysBox (((V1.setCell ⟨b, 0, none⟩ (.int .i64 2)).setCell ⟨b, 1, none⟩ (.int .i64 1)).setCell ⟨b, 2, none⟩ (.slice a1 1 c1)) b 2 1 a1 1 c1 rows1 [([true, true], [7])]) := HS
  clear y0 y1 y2 f0 f1 f2
  generalize ((V1.setCell ⟨b, 0, none⟩ (.int .i64 2)).setCell ⟨b, 1, none⟩ (.int .i64 1)).setCell ⟨b, 2, none⟩ (.slice a1 1 c1) = W2 at *
  obtain ⟨x0, x1, x2, xf⟩ := HS.out.cells
  replace x0 : _ = some (Value.int .i64 2) := x0
  replace x1 : _ = some (Value.int .i64 1) := x1
  have hA := add2_some W2 false true 3 a1 c1 1 2 rows1 [([true, true], [7])] [([true, false], [4]), ([false, true], [3])] true rfl HS.out.2.1 (fun r hr => (HS.out.2.2.1 r hr).1) HS.out.2.2.2 r2 p2 rfl rfl
  clear xf
  go_wp2_with fail
  refine hA.mono ?_
  rintro e V2 ⟨a2, c2, rows2, rfl, l2, h2, s2, n2, d2⟩
  replace HS := Shut.mk (HS.out.below d2)
  replace hB := hB.trans (d2.mono hB.size)
  replace HBB : Shut (w.heap.size ≤ b ∧ b < V2.heap.size ∧ ∀ c o, a2 = some ⟨c, o, none⟩ → c ≠ b) := ⟨HBB.out.1, Nat.lt_of_lt_of_le HBB.out.2 d2.size, fun c o e => by have := n2 c o e; have := HBB.out.2; omega⟩
  clear hA x0 x1 x2 d2 n2
  obtain ⟨y0, y1, y2, yf⟩ := HS.out.cells
  have f0 := yf 0
  have f1 := yf 1
  have f2 := yf 2
  replace HS := Shut.mk (HS.out.put (m' := 2) (c' := c2) l2 h2 s2 HBB.out.2.2 r3)
  replace hB := ((hB.setCell (p := ⟨b, 0, none⟩) (by simpa using HBB.out.1) (.int .i64 2)).setCell (p := ⟨b, 1, none⟩) (by simpa using HBB.out.1) (.int .i64 1)).setCell (p := ⟨b, 2, none⟩) (by simpa using HBB.out.1) (.slice a2 2 c2)
  replace HBB : Shut (w.heap.size ≤ b ∧ b < (((V2.setCell ⟨b, 0, none⟩ (.int .i64 2)).setCell ⟨b, 1, none⟩ (.int .i64 1)).setCell ⟨b, 2, none⟩ (.slice a2 2 c2)).heap.size) := ⟨HBB.out.1, by simpa using HBB.out.2.1⟩
  clear yf l2 h2 s2
  go_upto_region 4 with fail
  replace HS : Shut (SysBox (((V2.setCell ⟨b, 0, none⟩ (.int .i64 2)).setCell ⟨b, 1, none⟩ (.int .i64 1)).setCell ⟨b, 2, none⟩ (.slice a2 2 c2)) b 2 1 a2 2 c2 rows2 [([true, false], [4]), ([false, true], [3])]) := HS
  clear y0 y1 y2 f0 f1 f2
  generalize ((V2.setCell ⟨b, 0, none⟩ (.int .i64 2)).setCell ⟨b, 1, none⟩ (.int .i64 1)).setCell ⟨b, 2, none⟩ (.slice a2 2 c2) = W3 at *
  obtain ⟨x0, x1, x2, xf⟩ := HS.out.cells
  replace x0 : _ = some (Value.int .i64 2) := x0
  replace x1 : _ = some (Value.int .i64 1) := x1
  have hA := add2_some W3 true false 4 a2 c2 2 2 rows2 [([true, false], [4]), ([false, true], [3])] [([true, false], [4]), ([false, true], [3])] false rfl HS.out.2.1 (fun r hr => (HS.out.2.2.1 r hr).1) HS.out.2.2.2 r3 p3 rfl rfl
  clear xf
  go_wp2_with fail
  refine hA.mono ?_
  rintro e V3 ⟨a3, c3, rows3, rfl, l3, h3, s3, n3, d3⟩
  replace HS := Shut.mk (HS.out.below d3)
  replace hB := hB.trans (d3.mono hB.size)
  have bA : Below V3.heap.size V3 (V3.alloc (.cells #[.int .i64 2, .int .i64 1, .slice a3 2 c3] 53)) := (Below.refl _ _).alloc (Nat.le_refl _) _
  replace HS := Shut.mk (HS.out.below bA)
  replace hB := hB.trans (bA.mono hB.size)
  clear hA x0 x1 x2 d3 n3 bA l3 h3 s3
  go_upto_region 5 with fail
  generalize V3.alloc (.cells #[.int .i64 2, .int .i64 1, .slice a3 2 c3] 53) = W4 at *
  obtain ⟨x0, x1, x2, xf⟩ := HS.out.cells
  replace x0 : _ = some (Value.int .i64 2) := x0
  replace x1 : _ = some (Value.int .i64 1) := x1
  have hA := add2_none W4 true false 5 a2 c2 2 rows2 [([true, false], [4]), ([false, true], [3])] rfl HS.out.2.1 (fun r hr => (HS.out.2.2.1 r hr).1) HS.out.2.2.2 r3 p4
  clear xf
  go_wp2_with fail
  refine hA.mono ?_
  rintro e V4 ⟨rfl, d4⟩
  replace HS := Shut.mk (HS.out.below d4)
  replace hB := hB.trans (d4.mono hB.size)
  have bA : Below V4.heap.size V4 (V4.alloc (.cells #[.int .i64 0, .int .i64 0, .slice none 0 0] 53)) := (Below.refl _ _).alloc (Nat.le_refl _) _
  replace HS := Shut.mk (HS.out.below bA)
  replace hB := hB.trans (bA.mono hB.size)
  clear hA x0 x1 x2 d4 bA
  go_upto_region 6 with fail
  generalize V4.alloc (.cells #[.int .i64 0, .int .i64 0, .slice none 0 0] 53) = W5 at *
  obtain ⟨x0, x1, x2, xf⟩ := HS.out.cells
  replace x0 : _ = some (Value.int .i64 2) := x0
  replace x1 : _ = some (Value.int .i64 1) := x1
  have hK := knownS_right 2 1 2 a2 c2 rows2 [([true, false], [4]), ([false, true], [3])] W5 HS.out.2.1 (fun r hr => (HS.out.2.2.1 r hr).1) (fun r hr => (HS.out.2.2.1 r hr).2) (by have := congrArg List.length HS.out.2.2.2; simpa using this) HS.out.2.2.2 r3
  clear xf
  go_wp2_with fail
  refine hK.mono ?_
  rintro e V5 ⟨g, bl, rfl, hl, hall, _, hkn, d5⟩
  rw [p5] at hkn
  replace hB := hB.trans (d5.mono hB.size)
  obtain ⟨B0, B1, rfl⟩ : ∃ B0 B1, bl = [B0, B1] := by
    match bl, hkn with
    | [B0, B1], _ => exact ⟨B0, B1, rfl⟩
    | [], h => simp at h
    | [_], h => simp at h
    | _ :: _ :: _ :: _, h => simp at h
  simp only [List.map_cons, List.map_nil, List.cons.injEq, and_true] at hkn
  have k0 := hl.at (k := 0) (u := .slice B0.a 1 B0.cap) (by simp [Blk.val, hkn.1])
  have k1 := hl.at (k := 1) (u := .slice B1.a 1 B1.cap) (by simp [Blk.val, hkn.2])
  have lB0 := (hall B0 (by simp)).1
  have lB1 := (hall B1 (by simp)).1
  rw [hkn.1] at lB0
  rw [hkn.2] at lB1
  simp at k0 k1
  clear hK x0 x1 x2 d5 HS HBB hkn hall hl
  have bA : Below V5.heap.size V5 (V5.alloc (.cells #[.int .u8 4] 5)) := (Below.refl _ _).alloc (Nat.le_refl _) _
  have hE := equalBlock (w := V5.alloc (.cells #[.int .u8 4] 5)) B0.a (some ⟨V5.heap.size, 0, none⟩) B0.cap 1 [4] [4] (by simp [maxLen]) (by simp [maxLen]) (lB0.alloc _) (Lies.alloc_new V5 #[.int .u8 4] 5)
  rw [decide_eq_true rfl] at hE
  simp only [List.length_cons, List.length_nil, Nat.zero_add] at hE
  go_wp2_with fail
  refine hE.mono ?_
  rintro e V6 ⟨rfl, n6, rfl⟩
  replace bA := bA.trans ((bdn (V5.alloc (.cells #[.int .u8 4] 5)) n6 _).mono bA.size)
  replace k1 := cellC k1 bA
  replace lB1 := lB1.below bA (Nat.le_refl _)
  replace hB := hB.trans (bA.mono hB.size)
  clear bA hE k0 lB0
  generalize (V5.alloc (.cells #[.int .u8 4] 5)).drewN n6 = V7 at *
  have bA : Below V7.heap.size V7 (V7.alloc (.cells #[.int .u8 3] 5)) := (Below.refl _ _).alloc (Nat.le_refl _) _
  have hE := equalBlock (w := V7.alloc (.cells #[.int .u8 3] 5)) B1.a (some ⟨V7.heap.size, 0, none⟩) B1.cap 1 [3] [3] (by simp [maxLen]) (by simp [maxLen]) (lB1.alloc _) (Lies.alloc_new V7 #[.int .u8 3] 5)
  rw [decide_eq_true rfl] at hE
  simp only [List.length_cons, List.length_nil, Nat.zero_add] at hE
  go_wp2_with fail
  refine hE.mono ?_
  rintro e V8 ⟨rfl, n8, rfl⟩
  replace bA := bA.trans ((bdn (V7.alloc (.cells #[.int .u8 3] 5)) n8 _).mono bA.size)
  replace hB := hB.trans (bA.mono hB.size)
  clear bA hE k1 lB1
  generalize (V7.alloc (.cells #[.int .u8 3] 5)).drewN n8 = V9 at *
  go_wp2
  go_ret
  exact ⟨rfl, hB⟩

end Go.Proofs.YtkiejflgphjfjacDoor

/-
  solve.with: its contract.
-/
namespace Go.Proofs.YtkiejflgphjfjacDoor
open Go.RowKit
set_option linter.unusedVariables false
set_option linter.unusedSimpArgs false

theorem mask_lies {w : World} {g nb i : Nat} (h : w.rowIs g 4 nb (inAt (chosen nb i))) : Lies w (some ⟨g, 0, none⟩) ((maskL nb i).map Value.bool) := by
  have := rowIs_lies h
  have e : (maskL nb i).map Value.bool = (List.range nb).map (inAt (chosen nb i)) := by
    unfold maskL
    rw [List.map_map]
    apply List.map_congr_left
    intro j _
    simp [inAt, mask]
  rw [e]
  exact this

theorem alloc4' (w : World) (o0 o1 o2 o3 : Obj) : ((((w.alloc o0).alloc o1).alloc o2).alloc o3).heap[w.heap.size]? = some o0 ∧ ((((w.alloc o0).alloc o1).alloc o2).alloc o3).heap[w.heap.size + 1]? = some o1 ∧
    ((((w.alloc o0).alloc o1).alloc o2).alloc o3).heap[w.heap.size + 2]? = some o2 ∧ ((((w.alloc o0).alloc o1).alloc o2).alloc o3).heap[w.heap.size + 3]? = some o3 := by
  simp only [heap_alloc_eq, size_alloc_eq]
  refine ⟨?_, ?_, ?_, ?_⟩
  · rw [if_neg (by omega), if_neg (by omega), if_neg (by omega), if_pos (by first | omega | trivial)]
  · rw [if_neg (by omega), if_neg (by omega), if_pos (by first | omega | trivial)]
  · rw [if_neg (by omega), if_pos (by first | omega | trivial)]
  · rw [if_pos (by first | omega | trivial)]

/-- a symbol that Check refuses -/
theorem with_chk (nb k m : Nat) (a : Option Addr) (c : Nat) (B K id : Int) (da : Option Addr) (dm dc : Nat) (w : World) (hB : I64 B) (hK : I64 K) (hd : dm ≤ maxLen) (h : chkS B K id dm ≠ 0) :
    Calls Tryd.prog 33 #[.agg #[.int .i64 nb, .int .i64 k, .slice a m c], .agg #[.int .i64 B, .int .i64 K], .agg #[.int .i64 id, .slice da dm dc]] w fun e w' => e = .returned (.tuple #[.agg #[.int .i64 0, .int .i64 0, .slice none 0 0], .int .i64 (chkS B K id dm)]) ∧ Below w.heap.size w w' := by
  obtain ⟨blk0, blk1, blk2, blk3⟩ := alloc4' w (.cells #[.int .i64 nb, .int .i64 k, .slice a m c] 53) (.cells #[.int .i64 B, .int .i64 K] 23) (.cells #[.int .i64 id, .slice da dm dc] 39) (.cells #[.int .i64 0, .int .i64 0, .slice none 0 0] 53)
  obtain ⟨W, hW⟩ : ∃ W, (((w.alloc (.cells #[.int .i64 nb, .int .i64 k, .slice a m c] 53)).alloc (.cells #[.int .i64 B, .int .i64 K] 23)).alloc (.cells #[.int .i64 id, .slice da dm dc] 39)).alloc (.cells #[.int .i64 0, .int .i64 0, .slice none 0 0] 53) = W := ⟨_, rfl⟩
  have hBl : Below w.heap.size w W := by rw [← hW]; exact ((((Below.refl _ _).alloc (Nat.le_refl _) _).alloc (by simp) _).alloc (by simp; omega) _).alloc (by simp; omega) _
  rw [hW] at blk0 blk1 blk2 blk3
  have p0 := cell_blk blk1 0
  have p1 := cell_blk blk1 1
  have y0 := cell_blk blk2 0
  have y1 := cell_blk blk2 1
  simp at p0 p1 y0 y1
  rw [← hW] at p0 p1 y0 y1
  have hC := codeCheck_any B K id da dm dc W hB hK hd
  obtain ⟨q, hq⟩ : ∃ q, chkS B K id dm = q := ⟨_, rfl⟩
  rw [hq] at hC h ⊢
  have h1 : (q != 0) = true := by simpa using h
  have HW := Shut.mk hW
  have HQ := Shut.mk blk3
  clear blk0 blk1 blk2 blk3 hW hq h
  go_enter Tryd.func33, Tryd.ntmps33
  go_wp2_with fail
  rw [HW.out]
  refine hC.mono ?_
  rintro e w1 ⟨rfl, hb⟩
  have b3 := blk_below HQ.out hb
  have z0 := cell_blk b3 0
  have z1 := cell_blk b3 1
  have z2 := cell_blk b3 2
  simp at z0 z1 z2
  have f0 := frozen_blk b3 0
  have f1 := frozen_blk b3 1
  have f2 := frozen_blk b3 2
  have hb1 := hBl.trans (hb.mono hBl.size)
  clear hC hb p0 p1 y0 y1 b3 HW hBl
  go_wp2
  obtain ⟨u0, u1, u2⟩ := set3 z0 z1 z2 (.int .i64 0) (.int .i64 0) (.slice none 0 0)
  have hbF := ((hb1.setCell (p := ⟨w.heap.size + 3, 0, none⟩) (by simp) (.int .i64 0)).setCell (p := ⟨w.heap.size + 3, 1, none⟩) (by simp) (.int .i64 0)).setCell (p := ⟨w.heap.size + 3, 2, none⟩) (by simp) (.slice none 0 0)
  generalize ((w1.setCell ⟨w.heap.size + 3, 0, none⟩ (.int .i64 0)).setCell ⟨w.heap.size + 3, 1, none⟩ (.int .i64 0)).setCell ⟨w.heap.size + 3, 2, none⟩ (.slice none 0 0) = w9 at *
  refine bodyPost_ret (v := .tuple #[.agg #[.int .i64 0, .int .i64 0, .slice none 0 0], .int .i64 q]) (by simp [results, Tryd.results33, go_sem, u0, u1, u2]) rfl ?_
  exact ⟨rfl, hbF⟩

set_option maxHeartbeats 1000000 in
/-- a symbol that Check takes -/
theorem with_good (n nb k m i : Nat) (a : Option Addr) (c : Nat) (rows : List MRow) (A : List LRow) (B K : Int) (da : Option Addr) (dc : Nat) (d : List UInt8) (w : World) (g : Good B K n k nb) (hB : I64 B) (hK : I64 K) (hl : Lies w a (rowCells rows)) (hall : ∀ x ∈ rows, RowIn w x) (hmm : rows.length = m) (hAA : rows.map MRow.says = A) (hR : Right nb k A)
    (hd : Lies w da (bs d)) (hdk : d.length = k) (hi : i ≤ 9999) (hL : Laid w) (hc : chkS B K i k = 0) :
    Calls Tryd.prog 33 #[.agg #[.int .i64 nb, .int .i64 k, .slice a m c], .agg #[.int .i64 B, .int .i64 K], .agg #[.int .i64 i, .slice da k dc]] w fun e w' =>
      (addL A (maskL nb i, d) = none ∧ e = .returned (.tuple #[.agg #[.int .i64 0, .int .i64 0, .slice none 0 0], .int .i64 9]) ∨
        ∃ (P : List LRow) (a' : Option Addr) (c' : Nat) (rows' : List MRow), addL A (maskL nb i, d) = some P ∧ e = .returned (.tuple #[.agg #[.int .i64 nb, .int .i64 k, .slice a' rows'.length c'], .int .i64 0]) ∧ Lies w' a' (rowCells rows') ∧ (∀ x ∈ rows', RowIn w' x ∧ x.h.length ≤ x.hc) ∧ rows'.map MRow.says = P ∧ ∀ b o, a' = some ⟨b, o, none⟩ → w.heap.size ≤ b) ∧ Below w.heap.size w w' := by
  obtain ⟨blk0, blk1, blk2, blk3⟩ := alloc4' w (.cells #[.int .i64 nb, .int .i64 k, .slice a m c] 53) (.cells #[.int .i64 B, .int .i64 K] 23) (.cells #[.int .i64 i, .slice da k dc] 39) (.cells #[.int .i64 0, .int .i64 0, .slice none 0 0] 53)
  obtain ⟨W, hW⟩ : ∃ W, (((w.alloc (.cells #[.int .i64 nb, .int .i64 k, .slice a m c] 53)).alloc (.cells #[.int .i64 B, .int .i64 K] 23)).alloc (.cells #[.int .i64 i, .slice da k dc] 39)).alloc (.cells #[.int .i64 0, .int .i64 0, .slice none 0 0] 53) = W := ⟨_, rfl⟩
  have hBl : Below w.heap.size w W := by rw [← hW]; exact ((((Below.refl _ _).alloc (Nat.le_refl _) _).alloc (by simp) _).alloc (by simp; omega) _).alloc (by simp; omega) _
  have hsz : W.heap.size = w.heap.size + 4 := by rw [← hW]; simp
  rw [hW] at blk0 blk1 blk2 blk3
  have p0 := cell_blk blk1 0
  have p1 := cell_blk blk1 1
  have y0 := cell_blk blk2 0
  have y1 := cell_blk blk2 1
  simp at p0 p1 y0 y1
  rw [← hW] at p0 p1 y0 y1
  have n1 := hR.n1
  have n2 := hR.n2
  have k2 := hR.k2
  have hC := codeCheck_any B K i da k dc W hB hK (by unfold maxLen; omega)
  rw [hc] at hC
  have HW := Shut.mk hW
  have HQ := Shut.mk (And.intro blk0 (And.intro blk2 blk3))
  have HI := Shut.mk (And.intro hl (And.intro hall (And.intro hmm (And.intro hAA hR))))
  have HD := Shut.mk (And.intro hd hdk)
  have HLD := Shut.mk hL
  have HSZ := Shut.mk hsz
  clear blk0 blk1 blk2 blk3 hW hl hall hmm hAA hR hd hdk hL hc hsz
  go_enter Tryd.func33, Tryd.ntmps33
  go_wp2_with fail
  rw [HW.out]
  refine hC.mono ?_
  rintro e w1 ⟨rfl, hb⟩
  replace HQ := Shut.mk (And.intro (blk_below HQ.out.1 hb) (And.intro (blk_below HQ.out.2.1 hb) (blk_below HQ.out.2.2 hb)))
  have HS1 : Shut (w.heap.size + 3 < w1.heap.size) := ⟨by have := hb.size; rw [HSZ.out] at this; omega⟩
  have hb1 := hBl.trans (hb.mono hBl.size)
  clear hC hb p0 p1 y0 y1 HW hBl
  have y0 := cell_blk HQ.out.2.1 0
  have s0 := cell_blk HQ.out.1 0
  simp at y0 s0
  have hO := of_any i nb w1 hi n1 n2 (HLD.out.below hb1)
  go_wp2_with fail
  refine hO.mono ?_
  rintro e w2 ⟨g2, rfl, hg2, hr2, hb2⟩
  have hlm := mask_lies hr2
  replace HQ := Shut.mk (And.intro (blk_below HQ.out.1 hb2) (And.intro (blk_below HQ.out.2.1 hb2) (blk_below HQ.out.2.2 hb2)))
  have HS2 : Shut (w.heap.size + 3 < w2.heap.size) := ⟨Nat.lt_of_lt_of_le HS1.out hb2.size⟩
  replace hb1 := hb1.trans (hb2.mono hb1.size)
  clear hO hr2 hb2 y0 s0 hg2
  have y1 := cell_blk HQ.out.2.1 1
  have s0 := cell_blk HQ.out.1 0
  have s1 := cell_blk HQ.out.1 1
  have s2 := cell_blk HQ.out.1 2
  simp at y1 s0 s1 s2
  have hA := addS_right nb k m a c rows A ⟨some ⟨g2, 0, none⟩, nb, maskL nb i, da, dc, d⟩ (maskL nb i, d) w2 (HI.out.1.below hb1 (Nat.le_refl _)) (fun x hx => (HI.out.2.1 x hx).below hb1) ⟨hlm, HD.out.1.below hb1 (Nat.le_refl _), by simp only [maskL_length]; unfold maxLen; omega, by simp only [HD.out.2]; unfold maxLen; omega⟩ HI.out.2.2.1 HI.out.2.2.2.1 rfl HI.out.2.2.2.2 ⟨maskL_length nb i, HD.out.2⟩
  simp only [MRow.hv, MRow.dv, maskL_length, HD.out.2] at hA
  clear hlm
  go_wp2_with fail
  refine hA.mono ?_
  rintro e w3 ⟨hb3, hcase⟩
  replace HQ := Shut.mk (And.intro (blk_below HQ.out.1 hb3) (And.intro (blk_below HQ.out.2.1 hb3) (blk_below HQ.out.2.2 hb3)))
  have HS3 : Shut (w.heap.size + 3 < w3.heap.size) := ⟨Nat.lt_of_lt_of_le HS2.out hb3.size⟩
  replace hb1 := hb1.trans (hb3.mono hb1.size)
  clear hA y1 s0 s1 s2 hb3
  have s0 := cell_blk HQ.out.1 0
  have s1 := cell_blk HQ.out.1 1
  have s2 := cell_blk HQ.out.1 2
  have z0 := cell_blk HQ.out.2.2 0
  have z1 := cell_blk HQ.out.2.2 1
  have z2 := cell_blk HQ.out.2.2 2
  simp at s0 s1 s2 z0 z1 z2
  have f0 := frozen_blk HQ.out.1 0
  have f1 := frozen_blk HQ.out.1 1
  have f2 := frozen_blk HQ.out.1 2
  have q0 := frozen_blk HQ.out.2.2 0
  have q1 := frozen_blk HQ.out.2.2 1
  have q2 := frozen_blk HQ.out.2.2 2
  rcases hcase with ⟨hno, rfl⟩ | ⟨P, a', c', rows', hP, rfl, hl3, hr3, hs3, hn3⟩
  · have HNO := Shut.mk hno
    clear hno
    go_wp2
    have hA1 := ((hb1.setCell (p := ⟨w.heap.size, 0, none⟩) (by simp) (.int .i64 0)).setCell (p := ⟨w.heap.size, 1, none⟩) (by simp) (.int .i64 0)).setCell (p := ⟨w.heap.size, 2, none⟩) (by simp) (.slice none 0 0)
    have z0' : (((w3.setCell ⟨w.heap.size, 0, none⟩ (.int .i64 0)).setCell ⟨w.heap.size, 1, none⟩ (.int .i64 0)).setCell ⟨w.heap.size, 2, none⟩ (.slice none 0 0)).cell? ⟨w.heap.size + 3, 0, none⟩ = some (.int .i64 0) := by rw [World.cell?_setCell_other _ _ _ _ (by intro e; injection e; omega), World.cell?_setCell_other _ _ _ _ (by intro e; injection e; omega), World.cell?_setCell_other _ _ _ _ (by intro e; injection e; omega)]; exact z0
    have z1' : (((w3.setCell ⟨w.heap.size, 0, none⟩ (.int .i64 0)).setCell ⟨w.heap.size, 1, none⟩ (.int .i64 0)).setCell ⟨w.heap.size, 2, none⟩ (.slice none 0 0)).cell? ⟨w.heap.size + 3, 1, none⟩ = some (.int .i64 0) := by rw [World.cell?_setCell_other _ _ _ _ (by intro e; injection e; omega), World.cell?_setCell_other _ _ _ _ (by intro e; injection e; omega), World.cell?_setCell_other _ _ _ _ (by intro e; injection e; omega)]; exact z1
    have z2' : (((w3.setCell ⟨w.heap.size, 0, none⟩ (.int .i64 0)).setCell ⟨w.heap.size, 1, none⟩ (.int .i64 0)).setCell ⟨w.heap.size, 2, none⟩ (.slice none 0 0)).cell? ⟨w.heap.size + 3, 2, none⟩ = some (.slice none 0 0) := by rw [World.cell?_setCell_other _ _ _ _ (by intro e; injection e; omega), World.cell?_setCell_other _ _ _ _ (by intro e; injection e; omega), World.cell?_setCell_other _ _ _ _ (by intro e; injection e; omega)]; exact z2
    clear s0 s1 s2 z0 z1 z2 f0 f1 f2 q0 q1 q2 HQ
    generalize ((w3.setCell ⟨w.heap.size, 0, none⟩ (.int .i64 0)).setCell ⟨w.heap.size, 1, none⟩ (.int .i64 0)).setCell ⟨w.heap.size, 2, none⟩ (.slice none 0 0) = wA at *
    obtain ⟨u0, u1, u2⟩ := set3 z0' z1' z2' (.int .i64 0) (.int .i64 0) (.slice none 0 0)
    have hbF := ((hA1.setCell (p := ⟨w.heap.size + 3, 0, none⟩) (by simp) (.int .i64 0)).setCell (p := ⟨w.heap.size + 3, 1, none⟩) (by simp) (.int .i64 0)).setCell (p := ⟨w.heap.size + 3, 2, none⟩) (by simp) (.slice none 0 0)
    generalize ((wA.setCell ⟨w.heap.size + 3, 0, none⟩ (.int .i64 0)).setCell ⟨w.heap.size + 3, 1, none⟩ (.int .i64 0)).setCell ⟨w.heap.size + 3, 2, none⟩ (.slice none 0 0) = w9 at *
    refine bodyPost_ret (v := .tuple #[.agg #[.int .i64 0, .int .i64 0, .slice none 0 0], .int .i64 9]) (by simp [results, Tryd.results33, go_sem, u0, u1, u2]) rfl ?_
    exact ⟨.inl ⟨HNO.out, rfl⟩, hbF⟩
  · have hfit : ∀ x ∈ rows', 0 < x.h.length ∧ 0 < x.d.length := fun x hx => by
      have hRP := (addL_right HI.out.2.2.2.2 ⟨maskL_length nb i, HD.out.2⟩ hP).1
      have h := hRP.fits _ (by rw [← hs3]; exact List.mem_map_of_mem hx)
      have h1 := h.1
      have h2 := h.2
      have h3 := hRP.n1
      have h4 := hRP.k1
      simp only [MRow.says] at h1 h2
      omega
    have HX := Shut.mk (And.intro hP (And.intro hl3 (And.intro hr3 (And.intro hs3 (And.intro hn3 hfit)))))
    obtain ⟨m', hm'⟩ : ∃ m', rows'.length = m' := ⟨_, rfl⟩
    have HM' := Shut.mk hm'
    rw [hm']
    clear hP hl3 hr3 hs3 hn3 hfit hm'
    go_wp2
    obtain ⟨rs, hrs⟩ : ∃ rs, Value.slice a' m' c' = rs := ⟨_, rfl⟩
    rw [hrs]
    have hA1 := ((hb1.setCell (p := ⟨w.heap.size, 0, none⟩) (by simp) (.int .i64 nb)).setCell (p := ⟨w.heap.size, 1, none⟩) (by simp) (.int .i64 k)).setCell (p := ⟨w.heap.size, 2, none⟩) (by simp) rs
    have gr1 := grown_trans (grown_trans (grown_setCell w3 w.heap.size 0 (.int .i64 nb)) (grown_setCell _ w.heap.size 1 (.int .i64 k))) (grown_setCell _ w.heap.size 2 rs)
    have z0' : (((w3.setCell ⟨w.heap.size, 0, none⟩ (.int .i64 nb)).setCell ⟨w.heap.size, 1, none⟩ (.int .i64 k)).setCell ⟨w.heap.size, 2, none⟩ rs).cell? ⟨w.heap.size + 3, 0, none⟩ = some (.int .i64 0) := by rw [World.cell?_setCell_other _ _ _ _ (by intro e; injection e; omega), World.cell?_setCell_other _ _ _ _ (by intro e; injection e; omega), World.cell?_setCell_other _ _ _ _ (by intro e; injection e; omega)]; exact z0
    have z1' : (((w3.setCell ⟨w.heap.size, 0, none⟩ (.int .i64 nb)).setCell ⟨w.heap.size, 1, none⟩ (.int .i64 k)).setCell ⟨w.heap.size, 2, none⟩ rs).cell? ⟨w.heap.size + 3, 1, none⟩ = some (.int .i64 0) := by rw [World.cell?_setCell_other _ _ _ _ (by intro e; injection e; omega), World.cell?_setCell_other _ _ _ _ (by intro e; injection e; omega), World.cell?_setCell_other _ _ _ _ (by intro e; injection e; omega)]; exact z1
    have z2' : (((w3.setCell ⟨w.heap.size, 0, none⟩ (.int .i64 nb)).setCell ⟨w.heap.size, 1, none⟩ (.int .i64 k)).setCell ⟨w.heap.size, 2, none⟩ rs).cell? ⟨w.heap.size + 3, 2, none⟩ = some (.slice none 0 0) := by rw [World.cell?_setCell_other _ _ _ _ (by intro e; injection e; omega), World.cell?_setCell_other _ _ _ _ (by intro e; injection e; omega), World.cell?_setCell_other _ _ _ _ (by intro e; injection e; omega)]; exact z2
    have b3 := block_set (o := 2) (v := rs) (block_set (o := 1) (v := .int .i64 k) (block_set (o := 0) (v := .int .i64 nb) HQ.out.2.2 (show w.heap.size + 3 ≠ w.heap.size by omega)) (show w.heap.size + 3 ≠ w.heap.size by omega)) (show w.heap.size + 3 ≠ w.heap.size by omega)
    have HRA : Shut (Lies (((w3.setCell ⟨w.heap.size, 0, none⟩ (.int .i64 nb)).setCell ⟨w.heap.size, 1, none⟩ (.int .i64 k)).setCell ⟨w.heap.size, 2, none⟩ rs) a' (rowCells rows') ∧ ∀ x ∈ rows', RowIn (((w3.setCell ⟨w.heap.size, 0, none⟩ (.int .i64 nb)).setCell ⟨w.heap.size, 1, none⟩ (.int .i64 k)).setCell ⟨w.heap.size, 2, none⟩ rs) x) := ⟨lies_grown gr1 HX.out.2.1 fun b o e => by have := HX.out.2.2.2.2.1 b o e; have := HS2.out; omega, fun x hx => (HX.out.2.2.1 x hx).1.far (HX.out.2.2.2.2.2 x hx).1 (HX.out.2.2.2.2.2 x hx).2 HQ.out.1 (boxy3 _ _ _ _ _) gr1⟩
    clear s0 s1 s2 z0 z1 z2 f0 f1 f2 q0 q1 q2 HQ gr1
    generalize ((w3.setCell ⟨w.heap.size, 0, none⟩ (.int .i64 nb)).setCell ⟨w.heap.size, 1, none⟩ (.int .i64 k)).setCell ⟨w.heap.size, 2, none⟩ rs = wA at *
    obtain ⟨u0, u1, u2⟩ := set3 z0' z1' z2' (.int .i64 nb) (.int .i64 k) rs
    have gr2 := grown_trans (grown_trans (grown_setCell wA (w.heap.size + 3) 0 (.int .i64 nb)) (grown_setCell _ (w.heap.size + 3) 1 (.int .i64 k))) (grown_setCell _ (w.heap.size + 3) 2 rs)
    have hbF := ((hA1.setCell (p := ⟨w.heap.size + 3, 0, none⟩) (by simp) (.int .i64 nb)).setCell (p := ⟨w.heap.size + 3, 1, none⟩) (by simp) (.int .i64 k)).setCell (p := ⟨w.heap.size + 3, 2, none⟩) (by simp) rs
    have HRB : Shut (Lies (((wA.setCell ⟨w.heap.size + 3, 0, none⟩ (.int .i64 nb)).setCell ⟨w.heap.size + 3, 1, none⟩ (.int .i64 k)).setCell ⟨w.heap.size + 3, 2, none⟩ rs) a' (rowCells rows') ∧ ∀ x ∈ rows', RowIn (((wA.setCell ⟨w.heap.size + 3, 0, none⟩ (.int .i64 nb)).setCell ⟨w.heap.size + 3, 1, none⟩ (.int .i64 k)).setCell ⟨w.heap.size + 3, 2, none⟩ rs) x) := ⟨lies_grown gr2 HRA.out.1 fun b o e => by have := HX.out.2.2.2.2.1 b o e; have := HS2.out; omega, fun x hx => (HRA.out.2 x hx).far (HX.out.2.2.2.2.2 x hx).1 (HX.out.2.2.2.2.2 x hx).2 b3 (boxy3 _ _ _ _ _) gr2⟩
    clear gr2 z0' z1' z2' b3 HRA
    generalize ((wA.setCell ⟨w.heap.size + 3, 0, none⟩ (.int .i64 nb)).setCell ⟨w.heap.size + 3, 1, none⟩ (.int .i64 k)).setCell ⟨w.heap.size + 3, 2, none⟩ rs = w9 at *
    refine bodyPost_ret (v := .tuple #[.agg #[.int .i64 nb, .int .i64 k, rs], .int .i64 0]) (by simp [results, Tryd.results33, go_sem, u0, u1, u2]) rfl ?_
    refine ⟨.inr ⟨P, a', c', rows', HX.out.1, by rw [← hrs, HM'.out], HRB.out.1, fun x hx => ⟨HRB.out.2 x hx, (HX.out.2.2.1 x hx).2⟩, HX.out.2.2.2.1, fun b o e => by have := HX.out.2.2.2.2.1 b o e; have := HS2.out; omega⟩, hbF⟩

end Go.Proofs.YtkiejflgphjfjacDoor
