import Derived.Test.YtakkajjoeimkdaaGreatDoorPart12
import Derived.Test.YtakkajjoeimkdaaGreatDoorPart1
import Derived.Test.YtakkajjoeimkdaaGreatDoorPart4
import Derived.Test.YtakkajjoeimkdaaGreatDoorPart6
namespace Go.Proofs.YtakkajjoeimkdaaGreatDoor
open Go.RowKit
set_option linter.unusedVariables false
set_option linter.unusedSimpArgs false

theorem right_nil {n k : Nat} (n1 : 1 ≤ n) (n2 : n ≤ 24) (k1 : 1 ≤ k) (k2 : k ≤ 16) : Right n k [] := ⟨n1, n2, k1, k2, (fun r hr => by cases hr), Sys.nil⟩

theorem p1 : addL [] ([true, true], [7]) = some [([true, true], [7])] := by decide
theorem p2 : addL [([true, true], [7])] ([false, true], [3]) = some [([true, false], [4]), ([false, true], [3])] := by decide
theorem p3 : addL [([true, false], [4]), ([false, true], [3])] ([true, false], [4]) = some [([true, false], [4]), ([false, true], [3])] := by decide
theorem p4 : addL [([true, false], [4]), ([false, true], [3])] ([true, false], [5]) = none := by decide
theorem p5 : knownL 2 [([true, false], [4]), ([false, true], [3])] = [[4], [3]] := by decide

def SysBox (w : World) (b n k : Nat) (a : Option Addr) (m c : Nat) (rows : List MRow) (A : List LRow) : Prop :=
 w.heap[b]? = some (.cells #[.int .i64 n, .int .i64 k, .slice a m c] 203 (0, 0)) ∧ Lies w a (rowCells rows) ∧ (∀ r ∈ rows, RowIn w r ∧ r.h.length ≤ r.hc) ∧ rows.map MRow.says = A

theorem SysBox.below {w w' : World} {b n k m c : Nat} {a : Option Addr} {rows : List MRow} {A : List LRow} (h : SysBox w b n k a m c rows A) (hb : Below w.heap.size w w') : SysBox w' b n k a m c rows A :=
 ⟨blk_below h.1 hb, h.2.1.below hb (Nat.le_refl _), fun r hr => ⟨(h.2.2.1 r hr).1.below hb, (h.2.2.1 r hr).2⟩, h.2.2.2⟩

theorem SysBox.cells {w : World} {b n k m c : Nat} {a : Option Addr} {rows : List MRow} {A : List LRow} (h : SysBox w b n k a m c rows A) : w.cell? ⟨b, 0, none⟩ = some (.int .i64 n) ∧ w.cell? ⟨b, 1, none⟩ = some (.int .i64 k) ∧ w.cell? ⟨b, 2, none⟩ = some (.slice a m c) ∧ ∀ j, w.frozen? ⟨b, j, none⟩ = false := by
 have x0 := cell_blk h.1 0
 have x1 := cell_blk h.1 1
 have x2 := cell_blk h.1 2
 simp at x0 x1 x2
 exact ⟨x0, x1, x2, fun j => frozen_blk h.1 j⟩

theorem SysBox.put {w : World} {b n k m m' c c' : Nat} {a a' : Option Addr} {rows rows' : List MRow} {A P : List LRow} (h : SysBox w b n k a m c rows A) (hl : Lies w a' (rowCells rows')) (hr : ∀ r ∈ rows', RowIn w r ∧ r.h.length ≤ r.hc) (hs : rows'.map MRow.says = P) (hne : ∀ c o, a' = some ⟨c, o, none⟩ → c ≠ b) (hP : Right n k P) :
  SysBox (((w.setCell ⟨b, 0, none⟩ (.int .i64 n)).setCell ⟨b, 1, none⟩ (.int .i64 k)).setCell ⟨b, 2, none⟩ (.slice a' m' c')) b n k a' m' c' rows' P := by
 have gr := grown_trans (grown_trans (grown_setCell w b 0 (.int .i64 n)) (grown_setCell _ b 1 (.int .i64 k))) (grown_setCell _ b 2 (.slice a' m' c'))
 refine ⟨?_, lies_grown gr hl hne, fun r hr' => ?_, hs⟩
 ·have e := heap_set (o := 2) (v := .slice a' m' c') (heap_set (o := 1) (v := .int .i64 k) (heap_set (o := 0) (v := .int .i64 n) h.1))
  rw [e]
  simp
 ·have hf := hP.fits _ (by rw [← hs]; exact List.mem_map_of_mem hr')
  have h1 := hf.1
  have h2 := hf.2
  have k1 := hP.k1
  have n1 := hP.n1
  simp only [MRow.says] at h1 h2
  exact ⟨(hr r hr').1.far (by omega) (by omega) h.1 (boxy3 _ _ _ _ _) gr, (hr r hr').2⟩

theorem r2 : Right 2 1 [([true, true], [7])] := (addL_right (right_nil (by decide) (by decide) (by decide) (by decide)) ⟨rfl, rfl⟩ p1).1
theorem r3 : Right 2 1 [([true, false], [4]), ([false, true], [3])] := (addL_right r2 ⟨rfl, rfl⟩ p2).1

def limV : List Value := [.int .i64 8192, .int .i64 40960, .int .i64 51882, .int .i64 57344, .int .i64 60621]

def Laid (w : World) : Prop := Lies w (some ⟨2, 0, none⟩) limV

theorem Laid.below {w w' : World} (h : Laid w) (hb : Below w.heap.size w w') : Laid w' := Lies.below hb h (Nat.le_refl _)

theorem next_any (x : Nat) (w : World) (hx : x < 65536) :
  Calls Tryz.prog 186 #[.int .i64 x] w fun e w' => e = .returned (.int .i64 (nx x : Nat)) ∧ w = w' := by
 go_enter Tryz.func186, Tryz.ntmps186
 go_wp2
 go_ret
 exact ⟨ret_int (by simp [nx]), rfl⟩

theorem howMany_any (x b : Nat) (w : World) (hx : x < 65536) (hb : b ≤ 24) (hL : Laid w) :
  Calls Tryz.prog 187 #[.int .i64 x, .int .i64 b] w fun e w' => e = .returned (.int .i64 (many b x : Nat)) ∧ w = w' := by
 have c0 := Lies.at hL (k := 0) rfl
 have c1 := Lies.at hL (k := 1) rfl
 have c2 := Lies.at hL (k := 2) rfl
 have c3 := Lies.at hL (k := 3) rfl
 have c4 := Lies.at hL (k := 4) rfl
 have i0 : ∀ W : World, (Instr.index 282 (.agg #[.int .i64 8192, .int .i64 40960, .int .i64 51882, .int .i64 57344, .int .i64 60621]) (.int .i64 0)).run Tryz.prog W = .ok (.int .i64 8192) W := fun _ => by kernel_rfl
 have i1 : ∀ W : World, (Instr.index 282 (.agg #[.int .i64 8192, .int .i64 40960, .int .i64 51882, .int .i64 57344, .int .i64 60621]) (.int .i64 1)).run Tryz.prog W = .ok (.int .i64 40960) W := fun _ => by kernel_rfl
 have i2 : ∀ W : World, (Instr.index 282 (.agg #[.int .i64 8192, .int .i64 40960, .int .i64 51882, .int .i64 57344, .int .i64 60621]) (.int .i64 2)).run Tryz.prog W = .ok (.int .i64 51882) W := fun _ => by kernel_rfl
 have i3 : ∀ W : World, (Instr.index 282 (.agg #[.int .i64 8192, .int .i64 40960, .int .i64 51882, .int .i64 57344, .int .i64 60621]) (.int .i64 3)).run Tryz.prog W = .ok (.int .i64 57344) W := fun _ => by kernel_rfl
 have i4 : ∀ W : World, (Instr.index 282 (.agg #[.int .i64 8192, .int .i64 40960, .int .i64 51882, .int .i64 57344, .int .i64 60621]) (.int .i64 4)).run Tryz.prog W = .ok (.int .i64 60621) W := fun _ => by kernel_rfl
 go_enter Tryz.func187, Tryz.ntmps187
 clear hL
 go_wp2
 clear c0 c1 c2 c3 c4
 go_loopw [8] (fun i wr => ∃ k : Nat, k ≤ 5 ∧ i = .int .i64 k ∧ wr = w ∧ Hid (∀ j, j < k → lim.getD j 0 ≤ x)) (fun i _ => 5 - (intOf i).toNat)
 case atStart => exact ⟨0, Nat.zero_le _, rfl, rfl, fun j hj => by omega⟩
 case round =>
  obtain ⟨k, hk, rfl, rfl, HL⟩ := hrel
  by_cases hlt : k < 5
  ·by_cases hx2 : x < lim.getD k 0
   ·have HM : Hid (many b x = min (k + 1) b) := many_at hlt HL.out hx2
    have h5 : k = 0 ∨ k = 1 ∨ k = 2 ∨ k = 3 ∨ k = 4 := by omega
    clear hlt hk HL
    obtain ⟨L, hLk⟩ : ∃ L : Int, L = lim.getD k 0 := ⟨_, rfl⟩
    have hx3 : (x : Int) < L := by omega
    have hi : ∀ W : World, (Instr.index 282 (.agg #[.int .i64 8192, .int .i64 40960, .int .i64 51882, .int .i64 57344, .int .i64 60621]) (.int .i64 k)).run Tryz.prog W = .ok (.int .i64 L) W := by
     rcases h5 with rfl | rfl | rfl | rfl | rfl
     ·rw [hLk]; exact i0
     ·rw [hLk]; exact i1
     ·rw [hLk]; exact i2
     ·rw [hLk]; exact i3
     ·rw [hLk]; exact i4
    have hk5 : (k : Int) < 5 := by omega
    clear i0 i1 i2 i3 i4 hLk hx2 h5 hx
    go_wp2
    all_goals go_ret
    all_goals exact ⟨ret_int (by rw [HM.out]; omega), rfl⟩
   ·have HN : Hid (∀ j, j < k + 1 → lim.getD j 0 ≤ x) := fun j hj => by
     by_cases e : j = k
     ·subst e; omega
     ·exact HL.out j (by omega)
    have h5 : k = 0 ∨ k = 1 ∨ k = 2 ∨ k = 3 ∨ k = 4 := by omega
    clear hlt hk HL
    obtain ⟨L, hLk⟩ : ∃ L : Int, L = lim.getD k 0 := ⟨_, rfl⟩
    have hx3 : L ≤ (x : Int) := by omega
    have hi : ∀ W : World, (Instr.index 282 (.agg #[.int .i64 8192, .int .i64 40960, .int .i64 51882, .int .i64 57344, .int .i64 60621]) (.int .i64 k)).run Tryz.prog W = .ok (.int .i64 L) W := by
     rcases h5 with rfl | rfl | rfl | rfl | rfl
     ·rw [hLk]; exact i0
     ·rw [hLk]; exact i1
     ·rw [hLk]; exact i2
     ·rw [hLk]; exact i3
     ·rw [hLk]; exact i4
    have hk5 : (k : Int) < 5 := by omega
    clear i0 i1 i2 i3 i4 hLk hx2 hx
    go_wp2
    go_roundw
    case rel => exact ⟨k + 1, by omega, by go_num, trivial, HN⟩
    case measure => simp [intOf]; omega
  ·obtain rfl : k = 5 := by omega
   have HM : Hid (many b x = max (b / 2) 1) := many_end HL.out
   clear hlt hk HL
   go_wp2
   all_goals go_ret
   all_goals exact ⟨ret_int (by rw [HM.out]; omega), rfl⟩

def OutOf (id b : Int) : Prop := id < 0 ∨ 9999 < id ∨ b < 1 ∨ 24 < b

instance (id b : Int) : Decidable (OutOf id b) := by unfold OutOf; infer_instance

def inAt (l : List Nat) (k : Nat) : Value := .bool (decide (k ∈ l))

theorem infoB : (Tryz.prog.info? 4).map (fun i => (i.zero, i.size, i.bytes)) = some (some (.bool false), 1, 1) := by kernel_rfl

theorem inAt_none (k : Nat) : inAt [] k = .bool false := by simp [inAt]

theorem madeAt {b i : Nat} (h : i < b) : (madeCells #[Value.bool false] b)[i]? = some (.bool false) := by simp [madeCells, h, Nat.mod_one]

theorem row_one {w : World} {b i : Nat} {t : TypeId} (h : i < b) : (w.alloc (.cells ((madeCells #[Value.bool false] b).setIfInBounds i (.bool true)) t)).rowIs w.heap.size t b (inAt [i]) := by
 refine ⟨_, by rw [heap_alloc_eq, if_pos rfl], by simp [size_madeCells], fun j hj => ?_⟩
 rw [Array.getElem?_setIfInBounds]
 by_cases e : i = j
 ·subst e
  rw [if_pos rfl, if_pos (by simpa [size_madeCells] using hj)]
  simp [inAt]
 ·rw [if_neg e, madeAt hj]
  simp [inAt, show ¬ j = i from fun h => e h.symm]

theorem of_low (i b : Nat) (w : World) (hi : i ≤ 9999) (h1 : 1 ≤ b) (hb : b ≤ 24) (hlt : i < b) :
  Calls Tryz.prog 160 #[.int .i64 i, .int .i64 b] w fun e w' => ∃ g, e = .returned (.tuple #[.slice (some ⟨g, 0, none⟩) b b, .int .i64 0]) ∧ w.heap.size ≤ g ∧ w'.rowIs g 4 b (inAt (chosen b i)) ∧ Below w.heap.size w w' := by
 have hmk := run_make_row' (P := Tryz.prog) 231 4 (.bool false) 1 Tryz.underlying231 infoB rfl .i64 .i64 b (by omega) (by omega)
 have hat := madeAt hlt
 go_enter Tryz.func160, Tryz.ntmps160
 go_wp2
 go_ret2
 exact ⟨_, rfl, Nat.le_refl _, by rw [chosen_low hlt]; exact row_one hlt, (Below.refl _ _).alloc (Nat.le_refl _) _⟩

def OfInv (w wr : World) (g b x0 n : Nat) : Prop := wr.rowIs g 4 b (inAt (coll b x0 n)) ∧ Below w.heap.size w wr ∧ g < wr.heap.size

theorem step_old {b x0 n x y k m mi : Nat} (hb : b ≤ 24) (HM1 : Shut (m ≤ b)) (HN : Shut ((coll b x0 n).length < m)) (HXE : Shut (it n x0 = x)) (HME : Shut (m - (coll b x0 n).length = mi)) (HY : Shut (nx x = y)) (HK : Shut (y / 7 % b = k)) (HIN : Shut (k ∈ coll b x0 n)) :
  coll b x0 (n + 1) = coll b x0 n ∧ it (n + 1) x0 = y ∧ toGo b x0 m mi y < toGo b x0 m mi x := by
 have h : newOne b (coll b x0 n) (nx (it n x0)) = false := by
  simp only [newOne, blkOf]
  rw [HXE.out, HY.out, HK.out]
  simpa using HIN.out
 refine ⟨coll_old h, by rw [it_next, HXE.out, HY.out], ?_⟩
 have := toGo_old hb HM1.out HN.out h
 rwa [HXE.out, HY.out, HME.out] at this

theorem step_new {b x0 n x y k m mi : Nat} (HN : Shut ((coll b x0 n).length < m)) (HXE : Shut (it n x0 = x)) (HME : Shut (m - (coll b x0 n).length = mi)) (HY : Shut (nx x = y)) (HK : Shut (y / 7 % b = k)) (HIN : Shut (¬ k ∈ coll b x0 n)) :
  coll b x0 (n + 1) = coll b x0 n ++ [k] ∧ it (n + 1) x0 = y ∧ toGo b x0 m (mi - 1) y < toGo b x0 m mi x := by
 have h : newOne b (coll b x0 n) (nx (it n x0)) = true := by
  simp only [newOne, blkOf]
  rw [HXE.out, HY.out, HK.out]
  simpa using HIN.out
 refine ⟨?_, by rw [it_next, HXE.out, HY.out], ?_⟩
 ·rw [coll_new h, blkOf, HXE.out, HY.out, HK.out]
 ·have := toGo_new (b := b) HN.out y
  rw [HXE.out, HME.out, show m - ((coll b x0 n).length + 1) = mi - 1 by have := HME.out; omega] at this
  exact this

theorem row_set {w : World} {g b k : Nat} {t : TypeId} {l : List Nat} (h : w.rowIs g t b (inAt l)) : (w.setCell ⟨g, k, none⟩ (.bool true)).rowIs g t b (inAt (l ++ [k])) := by
 refine (h.set k _).congr fun j hj => ?_
 by_cases e : j = k
 ·subst e; simp [inAt]
 ·rw [if_neg e]; simp [inAt, e]

set_option maxHeartbeats 400000 in
theorem of_high (i b : Nat) (w : World) (hi : i ≤ 9999) (h1 : 1 ≤ b) (hb : b ≤ 24) (hge : b ≤ i) (hL : Laid w) :
  Calls Tryz.prog 160 #[.int .i64 i, .int .i64 b] w fun e w' => ∃ g, e = .returned (.tuple #[.slice (some ⟨g, 0, none⟩) b b, .int .i64 0]) ∧ w.heap.size ≤ g ∧ w'.rowIs g 4 b (inAt (chosen b i)) ∧ Below w.heap.size w w' := by
 have hmk := run_make_row' (P := Tryz.prog) 231 4 (.bool false) 1 Tryz.underlying231 infoB rfl .i64 .i64 b (by omega) (by omega)
 have H0 : Shut (OfInv w (w.alloc (.cells (madeCells #[.bool false] b) 4)) w.heap.size b (nx i) 0) :=
  ⟨(World.rowIs_made w _ b _).congr fun j hj => (inAt_none j).symm, (Below.refl _ _).alloc (Nat.le_refl _) _, by simp⟩
 have HL1 : Shut (Laid (w.alloc (.cells (madeCells #[.bool false] b) 4))) := ⟨hL.below ((Below.refl _ _).alloc (Nat.le_refl _) _)⟩
 have HX0 := nx_small i
 have HM1 : Shut (many b (nx i) ≤ b) := ⟨many_le h1 (nx i)⟩
 have HC : Shut (∀ n, (coll b (nx i) n).length = many b (nx i) → chosen b i = coll b (nx i) n) := ⟨fun n hn => chosen_high (by omega) hn⟩
 go_enter Tryz.func160, Tryz.ntmps160
 go_wp2_with fail
 refine (next_any i _ (by omega)).mono ?_
 rintro e w1 ⟨rfl, rfl⟩
 go_wp2_with fail
 refine (howMany_any (nx i) b _ HX0.lt hb HL1.out).mono ?_
 rintro e w1 ⟨rfl, rfl⟩
 clear hL HL1 hmk
 generalize (w.alloc (.cells (madeCells #[.bool false] b) 4)) = w1 at *
 generalize nx i = x0 at *
 generalize many b x0 = m at *
 go_wp2
 go_loopw [7, 8] (fun x mi wr => ∃ n : Nat, (coll b x0 n).length ≤ m ∧ x = .int .i64 (it n x0 : Nat) ∧ mi = .int .i64 (m - (coll b x0 n).length : Nat) ∧ Shut (OfInv w wr w.heap.size b x0 n)) (fun x mi _ => toGo b x0 m (intOf mi).toNat (intOf x).toNat)
 case atStart => exact ⟨0, Nat.zero_le _, rfl, rfl, H0⟩
 case round =>
  clear H0
  obtain ⟨n, hn, rfl, rfl, hI⟩ := hrel
  by_cases hlt : (coll b x0 n).length < m
  ·have HN : Shut ((coll b x0 n).length < m) := ⟨hlt⟩
   have hmi : 0 < m - (coll b x0 n).length := by omega
   have hmb : m - (coll b x0 n).length ≤ 24 := by have := HM1.out; omega
   have HS := it_small HX0 n
   clear hlt hn
   generalize hxe : it n x0 = x at *
   have HXE : Shut (it n x0 = x) := ⟨hxe⟩
   generalize hme : m - (coll b x0 n).length = mi at *
   have HME : Shut (m - (coll b x0 n).length = mi) := ⟨hme⟩
   clear hxe hme
   go_wp2_with fail
   refine (next_any x _ HS.lt).mono ?_
   rintro e w2 ⟨rfl, rfl⟩
   obtain ⟨y, hy⟩ : ∃ y, nx x = y := ⟨_, rfl⟩
   rw [hy]
   have HY : Shut (nx x = y) := ⟨hy⟩
   have hyb : y < 1000000 := by have := nx_lt x; omega
   clear hy
   obtain ⟨k, hk⟩ : ∃ k, y / 7 % b = k := ⟨_, rfl⟩
   have hq : (y : Int) / 7 % (b : Int) = (k : Int) := by rw [← hk]; simp
   have hkb : k < b := by rw [← hk]; exact Nat.mod_lt _ (by omega)
   have HK : Shut (y / 7 % b = k) := ⟨hk⟩
   clear hk
   have c1 := hI.out.1.cell hkb
   have c2 := hI.out.1.frozen k
   have z1 := hI.out.2.2
   simp only [inAt] at c1
   by_cases hin : k ∈ coll b x0 n
   ·rw [decide_eq_true hin] at c1
    have HIN : Shut (k ∈ coll b x0 n) := ⟨hin⟩
    clear hin
    go_wp2
    obtain ⟨s1, s2, s3⟩ := step_old hb HM1 HN HXE HME HY HK HIN
    exact ⟨⟨n + 1, by rw [s1]; exact Nat.le_of_lt HN.out, by rw [s2], by rw [s1, HME.out], ⟨by have h := hI.out; unfold OfInv at h ⊢; rw [s1]; exact h⟩⟩, s3⟩
   ·rw [decide_eq_false hin] at c1
    have HIN : Shut (¬ k ∈ coll b x0 n) := ⟨hin⟩
    clear hin
    go_wp2
    obtain ⟨s1, s2, s3⟩ := step_new HN HXE HME HY HK HIN
    have e1 : (mi : Int) - 1 = ((mi - 1 : Nat) : Int) := by omega
    have hN := HN.out
    have hE := HME.out
    rw [e1]
    refine ⟨⟨n + 1, by rw [s1]; simp; omega, by rw [s2], by rw [s1]; congr 2; simp; omega, ⟨?_⟩⟩, s3⟩
    have h := hI.out
    unfold OfInv at h ⊢
    rw [s1]
    exact ⟨row_set h.1, h.2.1.setCell (Nat.le_refl _) _, by simpa using h.2.2⟩
  ·have hz : m - (coll b x0 n).length = 0 := by omega
   have HE : Shut ((coll b x0 n).length = m) := ⟨by omega⟩
   rw [hz]
   clear hz hlt hn
   generalize it n x0 = x at *
   go_wp2
   go_ret2
   exact ⟨_, rfl, Nat.le_refl _, by rw [HC.out n HE.out]; exact hI.out.1, hI.out.2.1⟩

theorem of_any (i b : Nat) (w : World) (hi : i ≤ 9999) (h1 : 1 ≤ b) (hb : b ≤ 24) (hL : Laid w) :
  Calls Tryz.prog 160 #[.int .i64 i, .int .i64 b] w fun e w' => ∃ g, e = .returned (.tuple #[.slice (some ⟨g, 0, none⟩) b b, .int .i64 0]) ∧ w.heap.size ≤ g ∧ w'.rowIs g 4 b (inAt (chosen b i)) ∧ Below w.heap.size w w' := by
 by_cases h : i < b
 ·exact of_low i b w hi h1 hb h
 ·exact of_high i b w hi h1 hb (by omega) hL

theorem mask_lies {w : World} {g nb i : Nat} (h : w.rowIs g 4 nb (inAt (chosen nb i))) : Lies w (some ⟨g, 0, none⟩) ((maskL nb i).map Value.bool) := by
 have := rowIs_lies h
 have e : (maskL nb i).map Value.bool = (List.range nb).map (inAt (chosen nb i)) := by
  unfold maskL
  rw [List.map_map]
  apply List.map_congr_left
  intro j _
  simp [inAt, mask]
 rw [e]
 exact this

theorem alloc4' (w : World) (o0 o1 o2 o3 : Obj) : ((((w.alloc o0).alloc o1).alloc o2).alloc o3).heap[w.heap.size]? = some o0 ∧ ((((w.alloc o0).alloc o1).alloc o2).alloc o3).heap[w.heap.size + 1]? = some o1 ∧
  ((((w.alloc o0).alloc o1).alloc o2).alloc o3).heap[w.heap.size + 2]? = some o2 ∧ ((((w.alloc o0).alloc o1).alloc o2).alloc o3).heap[w.heap.size + 3]? = some o3 := by
 simp only [heap_alloc_eq, size_alloc_eq]
 refine ⟨?_, ?_, ?_, ?_⟩
 ·rw [if_neg (by omega), if_neg (by omega), if_neg (by omega), if_pos (by first | omega | trivial)]
 ·rw [if_neg (by omega), if_neg (by omega), if_pos (by first | omega | trivial)]
 ·rw [if_neg (by omega), if_pos (by first | omega | trivial)]
 ·rw [if_pos (by first | omega | trivial)]

theorem with_chk (nb k m : Nat) (a : Option Addr) (c : Nat) (B K id : Int) (da : Option Addr) (dm dc : Nat) (w : World) (hB : I64 B) (hK : I64 K) (hd : dm ≤ maxLen) (h : chkS B K id dm ≠ 0) :
  Calls Tryz.prog 134 #[.agg #[.int .i64 nb, .int .i64 k, .slice a m c], .agg #[.int .i64 B, .int .i64 K], .agg #[.int .i64 id, .slice da dm dc]] w fun e w' => e = .returned (.tuple #[.agg #[.int .i64 0, .int .i64 0, .slice none 0 0], .int .i64 (chkS B K id dm)]) ∧ Below w.heap.size w w' := by
 obtain ⟨blk0, blk1, blk2, blk3⟩ := alloc4' w (.cells #[.int .i64 nb, .int .i64 k, .slice a m c] 203) (.cells #[.int .i64 B, .int .i64 K] 32) (.cells #[.int .i64 id, .slice da dm dc] 38) (.cells #[.int .i64 0, .int .i64 0, .slice none 0 0] 203)
 obtain ⟨W, hW⟩ : ∃ W, (((w.alloc (.cells #[.int .i64 nb, .int .i64 k, .slice a m c] 203)).alloc (.cells #[.int .i64 B, .int .i64 K] 32)).alloc (.cells #[.int .i64 id, .slice da dm dc] 38)).alloc (.cells #[.int .i64 0, .int .i64 0, .slice none 0 0] 203) = W := ⟨_, rfl⟩
 have hBl : Below w.heap.size w W := by rw [← hW]; exact ((((Below.refl _ _).alloc (Nat.le_refl _) _).alloc (by simp) _).alloc (by simp; omega) _).alloc (by simp; omega) _
 rw [hW] at blk0 blk1 blk2 blk3
 have p0 := cell_blk blk1 0
 have p1 := cell_blk blk1 1
 have y0 := cell_blk blk2 0
 have y1 := cell_blk blk2 1
 simp at p0 p1 y0 y1
 rw [← hW] at p0 p1 y0 y1
 have hC := codeCheck_any B K id da dm dc W hB hK hd
 obtain ⟨q, hq⟩ : ∃ q, chkS B K id dm = q := ⟨_, rfl⟩
 rw [hq] at hC h ⊢
 have h1 : (q != 0) = true := by simpa using h
 have HW := Shut.mk hW
 have HQ := Shut.mk blk3
 clear blk0 blk1 blk2 blk3 hW hq h
 go_enter Tryz.func134, Tryz.ntmps134
 go_wp2_with fail
 rw [HW.out]
 refine hC.mono ?_
 rintro e w1 ⟨rfl, hb⟩
 have b3 := blk_below HQ.out hb
 have z0 := cell_blk b3 0
 have z1 := cell_blk b3 1
 have z2 := cell_blk b3 2
 simp at z0 z1 z2
 have f0 := frozen_blk b3 0
 have f1 := frozen_blk b3 1
 have f2 := frozen_blk b3 2
 have hb1 := hBl.trans (hb.mono hBl.size)
 clear hC hb p0 p1 y0 y1 b3 HW hBl
 go_wp2
 obtain ⟨u0, u1, u2⟩ := set3 z0 z1 z2 (.int .i64 0) (.int .i64 0) (.slice none 0 0)
 have hbF := ((hb1.setCell (p := ⟨w.heap.size + 3, 0, none⟩) (by simp) (.int .i64 0)).setCell (p := ⟨w.heap.size + 3, 1, none⟩) (by simp) (.int .i64 0)).setCell (p := ⟨w.heap.size + 3, 2, none⟩) (by simp) (.slice none 0 0)
 generalize ((w1.setCell ⟨w.heap.size + 3, 0, none⟩ (.int .i64 0)).setCell ⟨w.heap.size + 3, 1, none⟩ (.int .i64 0)).setCell ⟨w.heap.size + 3, 2, none⟩ (.slice none 0 0) = w9 at *
 refine bodyPost_ret (v := .tuple #[.agg #[.int .i64 0, .int .i64 0, .slice none 0 0], .int .i64 q]) (by simp [results, Tryz.results134, go_sem, u0, u1, u2]) rfl ?_
 exact ⟨rfl, hbF⟩

set_option maxHeartbeats 1000000 in
theorem with_good (n nb k m i : Nat) (a : Option Addr) (c : Nat) (rows : List MRow) (A : List LRow) (B K : Int) (da : Option Addr) (dc : Nat) (d : List UInt8) (w : World) (g : Good B K n k nb) (hB : I64 B) (hK : I64 K) (hl : Lies w a (rowCells rows)) (hall : ∀ x ∈ rows, RowIn w x) (hmm : rows.length = m) (hAA : rows.map MRow.says = A) (hR : Right nb k A)
  (hd : Lies w da (bs d)) (hdk : d.length = k) (hi : i ≤ 9999) (hL : Laid w) (hc : chkS B K i k = 0) :
  Calls Tryz.prog 134 #[.agg #[.int .i64 nb, .int .i64 k, .slice a m c], .agg #[.int .i64 B, .int .i64 K], .agg #[.int .i64 i, .slice da k dc]] w fun e w' =>
   (addL A (maskL nb i, d) = none ∧ e = .returned (.tuple #[.agg #[.int .i64 0, .int .i64 0, .slice none 0 0], .int .i64 9]) ∨
    ∃ (P : List LRow) (a' : Option Addr) (c' : Nat) (rows' : List MRow), addL A (maskL nb i, d) = some P ∧ e = .returned (.tuple #[.agg #[.int .i64 nb, .int .i64 k, .slice a' rows'.length c'], .int .i64 0]) ∧ Lies w' a' (rowCells rows') ∧ (∀ x ∈ rows', RowIn w' x ∧ x.h.length ≤ x.hc) ∧ rows'.map MRow.says = P ∧ ∀ b o, a' = some ⟨b, o, none⟩ → w.heap.size ≤ b) ∧ Below w.heap.size w w' := by
 obtain ⟨blk0, blk1, blk2, blk3⟩ := alloc4' w (.cells #[.int .i64 nb, .int .i64 k, .slice a m c] 203) (.cells #[.int .i64 B, .int .i64 K] 32) (.cells #[.int .i64 i, .slice da k dc] 38) (.cells #[.int .i64 0, .int .i64 0, .slice none 0 0] 203)
 obtain ⟨W, hW⟩ : ∃ W, (((w.alloc (.cells #[.int .i64 nb, .int .i64 k, .slice a m c] 203)).alloc (.cells #[.int .i64 B, .int .i64 K] 32)).alloc (.cells #[.int .i64 i, .slice da k dc] 38)).alloc (.cells #[.int .i64 0, .int .i64 0, .slice none 0 0] 203) = W := ⟨_, rfl⟩
 have hBl : Below w.heap.size w W := by rw [← hW]; exact ((((Below.refl _ _).alloc (Nat.le_refl _) _).alloc (by simp) _).alloc (by simp; omega) _).alloc (by simp; omega) _
 have hsz : W.heap.size = w.heap.size + 4 := by rw [← hW]; simp
 rw [hW] at blk0 blk1 blk2 blk3
 have p0 := cell_blk blk1 0
 have p1 := cell_blk blk1 1
 have y0 := cell_blk blk2 0
 have y1 := cell_blk blk2 1
 simp at p0 p1 y0 y1
 rw [← hW] at p0 p1 y0 y1
 have n1 := hR.n1
 have n2 := hR.n2
 have k2 := hR.k2
 have hC := codeCheck_any B K i da k dc W hB hK (by unfold maxLen; omega)
 rw [hc] at hC
 have HW := Shut.mk hW
 have HQ := Shut.mk (And.intro blk0 (And.intro blk2 blk3))
 have HI := Shut.mk (And.intro hl (And.intro hall (And.intro hmm (And.intro hAA hR))))
 have HD := Shut.mk (And.intro hd hdk)
 have HLD := Shut.mk hL
 have HSZ := Shut.mk hsz
 clear blk0 blk1 blk2 blk3 hW hl hall hmm hAA hR hd hdk hL hc hsz
 go_enter Tryz.func134, Tryz.ntmps134
 go_wp2_with fail
 rw [HW.out]
 refine hC.mono ?_
 rintro e w1 ⟨rfl, hb⟩
 replace HQ := Shut.mk (And.intro (blk_below HQ.out.1 hb) (And.intro (blk_below HQ.out.2.1 hb) (blk_below HQ.out.2.2 hb)))
 have HS1 : Shut (w.heap.size + 3 < w1.heap.size) := ⟨by have := hb.size; rw [HSZ.out] at this; omega⟩
 have hb1 := hBl.trans (hb.mono hBl.size)
 clear hC hb p0 p1 y0 y1 HW hBl
 have y0 := cell_blk HQ.out.2.1 0
 have s0 := cell_blk HQ.out.1 0
 simp at y0 s0
 have hO := of_any i nb w1 hi n1 n2 (HLD.out.below hb1)
 go_wp2_with fail
 refine hO.mono ?_
 rintro e w2 ⟨g2, rfl, hg2, hr2, hb2⟩
 have hlm := mask_lies hr2
 replace HQ := Shut.mk (And.intro (blk_below HQ.out.1 hb2) (And.intro (blk_below HQ.out.2.1 hb2) (blk_below HQ.out.2.2 hb2)))
 have HS2 : Shut (w.heap.size + 3 < w2.heap.size) := ⟨Nat.lt_of_lt_of_le HS1.out hb2.size⟩
 replace hb1 := hb1.trans (hb2.mono hb1.size)
 clear hO hr2 hb2 y0 s0 hg2
 have y1 := cell_blk HQ.out.2.1 1
 have s0 := cell_blk HQ.out.1 0
 have s1 := cell_blk HQ.out.1 1
 have s2 := cell_blk HQ.out.1 2
 simp at y1 s0 s1 s2
 have hA := addS_right nb k m a c rows A ⟨some ⟨g2, 0, none⟩, nb, maskL nb i, da, dc, d⟩ (maskL nb i, d) w2 (HI.out.1.below hb1 (Nat.le_refl _)) (fun x hx => (HI.out.2.1 x hx).below hb1) ⟨hlm, HD.out.1.below hb1 (Nat.le_refl _), by simp only [maskL_length]; unfold maxLen; omega, by simp only [HD.out.2]; unfold maxLen; omega⟩ HI.out.2.2.1 HI.out.2.2.2.1 rfl HI.out.2.2.2.2 ⟨maskL_length nb i, HD.out.2⟩
 simp only [MRow.hv, MRow.dv, maskL_length, HD.out.2] at hA
 clear hlm
 go_wp2_with fail
 refine hA.mono ?_
 rintro e w3 ⟨hb3, hcase⟩
 replace HQ := Shut.mk (And.intro (blk_below HQ.out.1 hb3) (And.intro (blk_below HQ.out.2.1 hb3) (blk_below HQ.out.2.2 hb3)))
 have HS3 : Shut (w.heap.size + 3 < w3.heap.size) := ⟨Nat.lt_of_lt_of_le HS2.out hb3.size⟩
 replace hb1 := hb1.trans (hb3.mono hb1.size)
 clear hA y1 s0 s1 s2 hb3
 have s0 := cell_blk HQ.out.1 0
 have s1 := cell_blk HQ.out.1 1
 have s2 := cell_blk HQ.out.1 2
 have z0 := cell_blk HQ.out.2.2 0
 have z1 := cell_blk HQ.out.2.2 1
 have z2 := cell_blk HQ.out.2.2 2
 simp at s0 s1 s2 z0 z1 z2
 have f0 := frozen_blk HQ.out.1 0
 have f1 := frozen_blk HQ.out.1 1
 have f2 := frozen_blk HQ.out.1 2
 have q0 := frozen_blk HQ.out.2.2 0
 have q1 := frozen_blk HQ.out.2.2 1
 have q2 := frozen_blk HQ.out.2.2 2
 rcases hcase with ⟨hno, rfl⟩ | ⟨P, a', c', rows', hP, rfl, hl3, hr3, hs3, hn3⟩
 ·have HNO := Shut.mk hno
  clear hno
  go_wp2
  have hA1 := ((hb1.setCell (p := ⟨w.heap.size, 0, none⟩) (by simp) (.int .i64 0)).setCell (p := ⟨w.heap.size, 1, none⟩) (by simp) (.int .i64 0)).setCell (p := ⟨w.heap.size, 2, none⟩) (by simp) (.slice none 0 0)
  have z0' : (((w3.setCell ⟨w.heap.size, 0, none⟩ (.int .i64 0)).setCell ⟨w.heap.size, 1, none⟩ (.int .i64 0)).setCell ⟨w.heap.size, 2, none⟩ (.slice none 0 0)).cell? ⟨w.heap.size + 3, 0, none⟩ = some (.int .i64 0) := by rw [World.cell?_setCell_other _ _ _ _ (by intro e; injection e; omega), World.cell?_setCell_other _ _ _ _ (by intro e; injection e; omega), World.cell?_setCell_other _ _ _ _ (by intro e; injection e; omega)]; exact z0
  have z1' : (((w3.setCell ⟨w.heap.size, 0, none⟩ (.int .i64 0)).setCell ⟨w.heap.size, 1, none⟩ (.int .i64 0)).setCell ⟨w.heap.size, 2, none⟩ (.slice none 0 0)).cell? ⟨w.heap.size + 3, 1, none⟩ = some (.int .i64 0) := by rw [World.cell?_setCell_other _ _ _ _ (by intro e; injection e; omega), World.cell?_setCell_other _ _ _ _ (by intro e; injection e; omega), World.cell?_setCell_other _ _ _ _ (by intro e; injection e; omega)]; exact z1
  have z2' : (((w3.setCell ⟨w.heap.size, 0, none⟩ (.int .i64 0)).setCell ⟨w.heap.size, 1, none⟩ (.int .i64 0)).setCell ⟨w.heap.size, 2, none⟩ (.slice none 0 0)).cell? ⟨w.heap.size + 3, 2, none⟩ = some (.slice none 0 0) := by rw [World.cell?_setCell_other _ _ _ _ (by intro e; injection e; omega), World.cell?_setCell_other _ _ _ _ (by intro e; injection e; omega), World.cell?_setCell_other _ _ _ _ (by intro e; injection e; omega)]; exact z2
  clear s0 s1 s2 z0 z1 z2 f0 f1 f2 q0 q1 q2 HQ
  generalize ((w3.setCell ⟨w.heap.size, 0, none⟩ (.int .i64 0)).setCell ⟨w.heap.size, 1, none⟩ (.int .i64 0)).setCell ⟨w.heap.size, 2, none⟩ (.slice none 0 0) = wA at *
  obtain ⟨u0, u1, u2⟩ := set3 z0' z1' z2' (.int .i64 0) (.int .i64 0) (.slice none 0 0)
  have hbF := ((hA1.setCell (p := ⟨w.heap.size + 3, 0, none⟩) (by simp) (.int .i64 0)).setCell (p := ⟨w.heap.size + 3, 1, none⟩) (by simp) (.int .i64 0)).setCell (p := ⟨w.heap.size + 3, 2, none⟩) (by simp) (.slice none 0 0)
  generalize ((wA.setCell ⟨w.heap.size + 3, 0, none⟩ (.int .i64 0)).setCell ⟨w.heap.size + 3, 1, none⟩ (.int .i64 0)).setCell ⟨w.heap.size + 3, 2, none⟩ (.slice none 0 0) = w9 at *
  refine bodyPost_ret (v := .tuple #[.agg #[.int .i64 0, .int .i64 0, .slice none 0 0], .int .i64 9]) (by simp [results, Tryz.results134, go_sem, u0, u1, u2]) rfl ?_
  exact ⟨.inl ⟨HNO.out, rfl⟩, hbF⟩
 ·have hfit : ∀ x ∈ rows', 0 < x.h.length ∧ 0 < x.d.length := fun x hx => by
   have hRP := (addL_right HI.out.2.2.2.2 ⟨maskL_length nb i, HD.out.2⟩ hP).1
   have h := hRP.fits _ (by rw [← hs3]; exact List.mem_map_of_mem hx)
   have h1 := h.1
   have h2 := h.2
   have h3 := hRP.n1
   have h4 := hRP.k1
   simp only [MRow.says] at h1 h2
   omega
  have HX := Shut.mk (And.intro hP (And.intro hl3 (And.intro hr3 (And.intro hs3 (And.intro hn3 hfit)))))
  obtain ⟨m', hm'⟩ : ∃ m', rows'.length = m' := ⟨_, rfl⟩
  have HM' := Shut.mk hm'
  rw [hm']
  clear hP hl3 hr3 hs3 hn3 hfit hm'
  go_wp2
  obtain ⟨rs, hrs⟩ : ∃ rs, Value.slice a' m' c' = rs := ⟨_, rfl⟩
  rw [hrs]
  have hA1 := ((hb1.setCell (p := ⟨w.heap.size, 0, none⟩) (by simp) (.int .i64 nb)).setCell (p := ⟨w.heap.size, 1, none⟩) (by simp) (.int .i64 k)).setCell (p := ⟨w.heap.size, 2, none⟩) (by simp) rs
  have gr1 := grown_trans (grown_trans (grown_setCell w3 w.heap.size 0 (.int .i64 nb)) (grown_setCell _ w.heap.size 1 (.int .i64 k))) (grown_setCell _ w.heap.size 2 rs)
  have z0' : (((w3.setCell ⟨w.heap.size, 0, none⟩ (.int .i64 nb)).setCell ⟨w.heap.size, 1, none⟩ (.int .i64 k)).setCell ⟨w.heap.size, 2, none⟩ rs).cell? ⟨w.heap.size + 3, 0, none⟩ = some (.int .i64 0) := by rw [World.cell?_setCell_other _ _ _ _ (by intro e; injection e; omega), World.cell?_setCell_other _ _ _ _ (by intro e; injection e; omega), World.cell?_setCell_other _ _ _ _ (by intro e; injection e; omega)]; exact z0
  have z1' : (((w3.setCell ⟨w.heap.size, 0, none⟩ (.int .i64 nb)).setCell ⟨w.heap.size, 1, none⟩ (.int .i64 k)).setCell ⟨w.heap.size, 2, none⟩ rs).cell? ⟨w.heap.size + 3, 1, none⟩ = some (.int .i64 0) := by rw [World.cell?_setCell_other _ _ _ _ (by intro e; injection e; omega), World.cell?_setCell_other _ _ _ _ (by intro e; injection e; omega), World.cell?_setCell_other _ _ _ _ (by intro e; injection e; omega)]; exact z1
  have z2' : (((w3.setCell ⟨w.heap.size, 0, none⟩ (.int .i64 nb)).setCell ⟨w.heap.size, 1, none⟩ (.int .i64 k)).setCell ⟨w.heap.size, 2, none⟩ rs).cell? ⟨w.heap.size + 3, 2, none⟩ = some (.slice none 0 0) := by rw [World.cell?_setCell_other _ _ _ _ (by intro e; injection e; omega), World.cell?_setCell_other _ _ _ _ (by intro e; injection e; omega), World.cell?_setCell_other _ _ _ _ (by intro e; injection e; omega)]; exact z2
  have b3 := block_set (o := 2) (v := rs) (block_set (o := 1) (v := .int .i64 k) (block_set (o := 0) (v := .int .i64 nb) HQ.out.2.2 (show w.heap.size + 3 ≠ w.heap.size by omega)) (show w.heap.size + 3 ≠ w.heap.size by omega)) (show w.heap.size + 3 ≠ w.heap.size by omega)
  have HRA : Shut (Lies (((w3.setCell ⟨w.heap.size, 0, none⟩ (.int .i64 nb)).setCell ⟨w.heap.size, 1, none⟩ (.int .i64 k)).setCell ⟨w.heap.size, 2, none⟩ rs) a' (rowCells rows') ∧ ∀ x ∈ rows', RowIn (((w3.setCell ⟨w.heap.size, 0, none⟩ (.int .i64 nb)).setCell ⟨w.heap.size, 1, none⟩ (.int .i64 k)).setCell ⟨w.heap.size, 2, none⟩ rs) x) := ⟨lies_grown gr1 HX.out.2.1 fun b o e => by have := HX.out.2.2.2.2.1 b o e; have := HS2.out; omega, fun x hx => (HX.out.2.2.1 x hx).1.far (HX.out.2.2.2.2.2 x hx).1 (HX.out.2.2.2.2.2 x hx).2 HQ.out.1 (boxy3 _ _ _ _ _) gr1⟩
  clear s0 s1 s2 z0 z1 z2 f0 f1 f2 q0 q1 q2 HQ gr1
  generalize ((w3.setCell ⟨w.heap.size, 0, none⟩ (.int .i64 nb)).setCell ⟨w.heap.size, 1, none⟩ (.int .i64 k)).setCell ⟨w.heap.size, 2, none⟩ rs = wA at *
  obtain ⟨u0, u1, u2⟩ := set3 z0' z1' z2' (.int .i64 nb) (.int .i64 k) rs
  have gr2 := grown_trans (grown_trans (grown_setCell wA (w.heap.size + 3) 0 (.int .i64 nb)) (grown_setCell _ (w.heap.size + 3) 1 (.int .i64 k))) (grown_setCell _ (w.heap.size + 3) 2 rs)
  have hbF := ((hA1.setCell (p := ⟨w.heap.size + 3, 0, none⟩) (by simp) (.int .i64 nb)).setCell (p := ⟨w.heap.size + 3, 1, none⟩) (by simp) (.int .i64 k)).setCell (p := ⟨w.heap.size + 3, 2, none⟩) (by simp) rs
  have HRB : Shut (Lies (((wA.setCell ⟨w.heap.size + 3, 0, none⟩ (.int .i64 nb)).setCell ⟨w.heap.size + 3, 1, none⟩ (.int .i64 k)).setCell ⟨w.heap.size + 3, 2, none⟩ rs) a' (rowCells rows') ∧ ∀ x ∈ rows', RowIn (((wA.setCell ⟨w.heap.size + 3, 0, none⟩ (.int .i64 nb)).setCell ⟨w.heap.size + 3, 1, none⟩ (.int .i64 k)).setCell ⟨w.heap.size + 3, 2, none⟩ rs) x) := ⟨lies_grown gr2 HRA.out.1 fun b o e => by have := HX.out.2.2.2.2.1 b o e; have := HS2.out; omega, fun x hx => (HRA.out.2 x hx).far (HX.out.2.2.2.2.2 x hx).1 (HX.out.2.2.2.2.2 x hx).2 b3 (boxy3 _ _ _ _ _) gr2⟩
  clear gr2 z0' z1' z2' b3 HRA
  generalize ((wA.setCell ⟨w.heap.size + 3, 0, none⟩ (.int .i64 nb)).setCell ⟨w.heap.size + 3, 1, none⟩ (.int .i64 k)).setCell ⟨w.heap.size + 3, 2, none⟩ rs = w9 at *
  refine bodyPost_ret (v := .tuple #[.agg #[.int .i64 nb, .int .i64 k, rs], .int .i64 0]) (by simp [results, Tryz.results134, go_sem, u0, u1, u2]) rfl ?_
  refine ⟨.inr ⟨P, a', c', rows', HX.out.1, by rw [← hrs, HM'.out], HRB.out.1, fun x hx => ⟨HRB.out.2 x hx, (HX.out.2.2.1 x hx).2⟩, HX.out.2.2.2.1, fun b o e => by have := HX.out.2.2.2.2.1 b o e; have := HS2.out; omega⟩, hbF⟩

end Go.Proofs.YtakkajjoeimkdaaGreatDoor
