import Derived.Test.YtkiejflgphjfjacDoorPart9
import Derived.Test.YtkiejflgphjfjacDoorRows
import Derived.Test.YtkiejflgphjfjacDoorPart1
import Derived.Shelf.Sort.Plain
import Derived.Test.YtkiejflgphjfjacDoorProg
import Derived.Sort.OwnSortedInts
import Derived.Deep.CutBlock
/-
  pick.Of: its contract.
-/
namespace Go.Proofs.YtkiejflgphjfjacDoor
open Go.RowKit
set_option linter.unusedVariables false
set_option linter.unusedSimpArgs false

/-- what is wrong with a symbol's number, and a number of blocks -/
def OutOf (id b : Int) : Prop := id < 0 ∨ 9999 < id ∨ b < 1 ∨ 24 < b

instance (id b : Int) : Decidable (OutOf id b) := by unfold OutOf; infer_instance

/-- the cells of the answer -/
def inAt (l : List Nat) (k : Nat) : Value := .bool (decide (k ∈ l))

theorem infoB : (Tryd.prog.info? 4).map (fun i => (i.zero, i.size, i.bytes)) = some (some (.bool false), 1, 1) := by kernel_rfl

theorem of_bad (id b : Int) (w : World) (h : OutOf id b) :
    Calls Tryd.prog 24 #[.int .i64 id, .int .i64 b] w fun e w' => e = .returned (.tuple #[.slice none 0 0, .int .i64 3]) ∧ w = w' := by
  have h1 : id < 0 ∨ 0 ≤ id := by omega
  have h2 : 9999 < id ∨ id ≤ 9999 := by omega
  have h3 : b < 1 ∨ 1 ≤ b := by omega
  unfold OutOf at h
  rcases h1 with h1 | h1
  · clear h h2 h3
    go_enter Tryd.func24, Tryd.ntmps24
    go_wp2
    go_ret2
    exact ⟨rfl, rfl⟩
  rcases h2 with h2 | h2
  · clear h h3
    go_enter Tryd.func24, Tryd.ntmps24
    go_wp2
    go_ret2
    exact ⟨rfl, rfl⟩
  rcases h3 with h3 | h3
  · clear h
    go_enter Tryd.func24, Tryd.ntmps24
    go_wp2
    go_ret2
    exact ⟨rfl, rfl⟩
  have h4 : 24 < b := by omega
  clear h
  go_enter Tryd.func24, Tryd.ntmps24
  go_wp2
  go_ret2
  exact ⟨rfl, rfl⟩

theorem inAt_none (k : Nat) : inAt [] k = .bool false := by simp [inAt]

theorem madeAt {b i : Nat} (h : i < b) : (madeCells #[Value.bool false] b)[i]? = some (.bool false) := by simp [madeCells, h, Nat.mod_one]

theorem row_one {w : World} {b i : Nat} {t : TypeId} (h : i < b) : (w.alloc (.cells ((madeCells #[Value.bool false] b).setIfInBounds i (.bool true)) t)).rowIs w.heap.size t b (inAt [i]) := by
  refine ⟨_, by rw [heap_alloc_eq, if_pos rfl], by simp [size_madeCells], fun j hj => ?_⟩
  rw [Array.getElem?_setIfInBounds]
  by_cases e : i = j
  · subst e
    rw [if_pos rfl, if_pos (by simpa [size_madeCells] using hj)]
    simp [inAt]
  · rw [if_neg e, madeAt hj]
    simp [inAt, show ¬ j = i from fun h => e h.symm]

theorem of_low (i b : Nat) (w : World) (hi : i ≤ 9999) (h1 : 1 ≤ b) (hb : b ≤ 24) (hlt : i < b) :
    Calls Tryd.prog 24 #[.int .i64 i, .int .i64 b] w fun e w' => ∃ g, e = .returned (.tuple #[.slice (some ⟨g, 0, none⟩) b b, .int .i64 0]) ∧ w.heap.size ≤ g ∧ w'.rowIs g 4 b (inAt (chosen b i)) ∧ Below w.heap.size w w' := by
  have hmk := run_make_row' (P := Tryd.prog) 56 4 (.bool false) 1 Tryd.underlying56 infoB rfl .i64 .i64 b (by omega) (by omega)
  have hat := madeAt hlt
  go_enter Tryd.func24, Tryd.ntmps24
  go_wp2
  go_ret2
  exact ⟨_, rfl, Nat.le_refl _, by rw [chosen_low hlt]; exact row_one hlt, (Below.refl _ _).alloc (Nat.le_refl _) _⟩

/-- the loop's state after n steps -/
def OfInv (w wr : World) (g b x0 n : Nat) : Prop := wr.rowIs g 4 b (inAt (coll b x0 n)) ∧ Below w.heap.size w wr ∧ g < wr.heap.size

/-- a step that brings nothing new -/
theorem step_old {b x0 n x y k m mi : Nat} (hb : b ≤ 24) (HM1 : Shut (m ≤ b)) (HN : Shut ((coll b x0 n).length < m)) (HXE : Shut (it n x0 = x)) (HME : Shut (m - (coll b x0 n).length = mi)) (HY : Shut (nx x = y)) (HK : Shut (y / 7 % b = k)) (HIN : Shut (k ∈ coll b x0 n)) :
    coll b x0 (n + 1) = coll b x0 n ∧ it (n + 1) x0 = y ∧ toGo b x0 m mi y < toGo b x0 m mi x := by
  have h : newOne b (coll b x0 n) (nx (it n x0)) = false := by
    simp only [newOne, blkOf]
    rw [HXE.out, HY.out, HK.out]
    simpa using HIN.out
  refine ⟨coll_old h, by rw [it_next, HXE.out, HY.out], ?_⟩
  have := toGo_old hb HM1.out HN.out h
  rwa [HXE.out, HY.out, HME.out] at this

/-- a step that brings a new block -/
theorem step_new {b x0 n x y k m mi : Nat} (HN : Shut ((coll b x0 n).length < m)) (HXE : Shut (it n x0 = x)) (HME : Shut (m - (coll b x0 n).length = mi)) (HY : Shut (nx x = y)) (HK : Shut (y / 7 % b = k)) (HIN : Shut (¬ k ∈ coll b x0 n)) :
    coll b x0 (n + 1) = coll b x0 n ++ [k] ∧ it (n + 1) x0 = y ∧ toGo b x0 m (mi - 1) y < toGo b x0 m mi x := by
  have h : newOne b (coll b x0 n) (nx (it n x0)) = true := by
    simp only [newOne, blkOf]
    rw [HXE.out, HY.out, HK.out]
    simpa using HIN.out
  refine ⟨?_, by rw [it_next, HXE.out, HY.out], ?_⟩
  · rw [coll_new h, blkOf, HXE.out, HY.out, HK.out]
  · have := toGo_new (b := b) HN.out y
    rw [HXE.out, HME.out, show m - ((coll b x0 n).length + 1) = mi - 1 by have := HME.out; omega] at this
    exact this

theorem row_set {w : World} {g b k : Nat} {t : TypeId} {l : List Nat} (h : w.rowIs g t b (inAt l)) : (w.setCell ⟨g, k, none⟩ (.bool true)).rowIs g t b (inAt (l ++ [k])) := by
  refine (h.set k _).congr fun j hj => ?_
  by_cases e : j = k
  · subst e; simp [inAt]
  · rw [if_neg e]; simp [inAt, e]

set_option maxHeartbeats 400000 in
theorem of_high (i b : Nat) (w : World) (hi : i ≤ 9999) (h1 : 1 ≤ b) (hb : b ≤ 24) (hge : b ≤ i) (hL : Laid w) :
    Calls Tryd.prog 24 #[.int .i64 i, .int .i64 b] w fun e w' => ∃ g, e = .returned (.tuple #[.slice (some ⟨g, 0, none⟩) b b, .int .i64 0]) ∧ w.heap.size ≤ g ∧ w'.rowIs g 4 b (inAt (chosen b i)) ∧ Below w.heap.size w w' := by
  have hmk := run_make_row' (P := Tryd.prog) 56 4 (.bool false) 1 Tryd.underlying56 infoB rfl .i64 .i64 b (by omega) (by omega)
  have H0 : Shut (OfInv w (w.alloc (.cells (madeCells #[.bool false] b) 4)) w.heap.size b (nx i) 0) :=
    ⟨(World.rowIs_made w _ b _).congr fun j hj => (inAt_none j).symm, (Below.refl _ _).alloc (Nat.le_refl _) _, by simp⟩
  have HL1 : Shut (Laid (w.alloc (.cells (madeCells #[.bool false] b) 4))) := ⟨hL.below ((Below.refl _ _).alloc (Nat.le_refl _) _)⟩
  have HX0 := nx_small i
  have HM1 : Shut (many b (nx i) ≤ b) := ⟨many_le h1 (nx i)⟩
  have HC : Shut (∀ n, (coll b (nx i) n).length = many b (nx i) → chosen b i = coll b (nx i) n) := ⟨fun n hn => chosen_high (by omega) hn⟩
  go_enter Tryd.func24, Tryd.ntmps24
  go_wp2_with fail
  refine (next_any i _ (by omega)).mono ?_
  rintro e w1 ⟨rfl, rfl⟩
  go_wp2_with fail
  refine (howMany_any (nx i) b _ HX0.lt hb HL1.out).mono ?_
  rintro e w1 ⟨rfl, rfl⟩
  clear hL HL1 hmk
  generalize (w.alloc (.cells (madeCells #[.bool false] b) 4)) = w1 at *
  generalize nx i = x0 at *
  generalize many b x0 = m at *
  go_wp2
  go_loopw [7, 8] (fun x mi wr => ∃ n : Nat, (coll b x0 n).length ≤ m ∧ x = .int .i64 (it n x0 : Nat) ∧ mi = .int .i64 (m - (coll b x0 n).length : Nat) ∧ Shut (OfInv w wr w.heap.size b x0 n)) (fun x mi _ => toGo b x0 m (intOf mi).toNat (intOf x).toNat)
  case atStart => exact ⟨0, Nat.zero_le _, rfl, rfl, H0⟩
  case round =>
    clear H0
    obtain ⟨n, hn, rfl, rfl, hI⟩ := hrel
    by_cases hlt : (coll b x0 n).length < m
    · have HN : Shut ((coll b x0 n).length < m) := ⟨hlt⟩
      have hmi : 0 < m - (coll b x0 n).length := by omega
      have hmb : m - (coll b x0 n).length ≤ 24 := by have := HM1.out; omega
      have HS := it_small HX0 n
      clear hlt hn
      generalize hxe : it n x0 = x at *
      have HXE : Shut (it n x0 = x) := ⟨hxe⟩
      generalize hme : m - (coll b x0 n).length = mi at *
      have HME : Shut (m - (coll b x0 n).length = mi) := ⟨hme⟩
      clear hxe hme
      go_wp2_with fail
      refine (next_any x _ HS.lt).mono ?_
      rintro e w2 ⟨rfl, rfl⟩
      obtain ⟨y, hy⟩ : ∃ y, nx x = y := ⟨_, rfl⟩
      rw [hy]
      have HY : Shut (nx x = y) := ⟨hy⟩
      have hyb : y < 1000000 := by have := nx_lt x; omega
      clear hy
      obtain ⟨k, hk⟩ : ∃ k, y / 7 % b = k := ⟨_, rfl⟩
      have hq : (y : Int) / 7 % (b : Int) = (k : Int) := by rw [← hk]; simp
      have hkb : k < b := by rw [← hk]; exact Nat.mod_lt _ (by omega)
      have HK : Shut (y / 7 % b = k) := ⟨hk⟩
      clear hk
      have c1 := hI.out.1.cell hkb
      have c2 := hI.out.1.frozen k
      have z1 := hI.out.2.2
      simp only [inAt] at c1
      by_cases hin : k ∈ coll b x0 n
      · rw [decide_eq_true hin] at c1
        have HIN : Shut (k ∈ coll b x0 n) := ⟨hin⟩
        clear hin
        go_wp2
        obtain ⟨s1, s2, s3⟩ := step_old hb HM1 HN HXE HME HY HK HIN
        exact ⟨⟨n + 1, by rw [s1]; exact Nat.le_of_lt HN.out, by rw [s2], by rw [s1, HME.out], ⟨by have h := hI.out; unfold OfInv at h ⊢; rw [s1]; exact h⟩⟩, s3⟩
      · rw [decide_eq_false hin] at c1
        have HIN : Shut (¬ k ∈ coll b x0 n) := ⟨hin⟩
        clear hin
        go_wp2
        obtain ⟨s1, s2, s3⟩ := step_new HN HXE HME HY HK HIN
        have e1 : (mi : Int) - 1 = ((mi - 1 : Nat) : Int) := by omega
        have hN := HN.out
        have hE := HME.out
        rw [e1]
        refine ⟨⟨n + 1, by rw [s1]; simp; omega, by rw [s2], by rw [s1]; congr 2; simp; omega, ⟨?_⟩⟩, s3⟩
        have h := hI.out
        unfold OfInv at h ⊢
        rw [s1]
        exact ⟨row_set h.1, h.2.1.setCell (Nat.le_refl _) _, by simpa using h.2.2⟩
    · have hz : m - (coll b x0 n).length = 0 := by omega
      have HE : Shut ((coll b x0 n).length = m) := ⟨by omega⟩
      rw [hz]
      clear hz hlt hn
      generalize it n x0 = x at *
      go_wp2
      go_ret2
      exact ⟨_, rfl, Nat.le_refl _, by rw [HC.out n HE.out]; exact hI.out.1, hI.out.2.1⟩

/-- pick.Of -/
theorem of_any (i b : Nat) (w : World) (hi : i ≤ 9999) (h1 : 1 ≤ b) (hb : b ≤ 24) (hL : Laid w) :
    Calls Tryd.prog 24 #[.int .i64 i, .int .i64 b] w fun e w' => ∃ g, e = .returned (.tuple #[.slice (some ⟨g, 0, none⟩) b b, .int .i64 0]) ∧ w.heap.size ≤ g ∧ w'.rowIs g 4 b (inAt (chosen b i)) ∧ Below w.heap.size w w' := by
  by_cases h : i < b
  · exact of_low i b w hi h1 hb h
  · exact of_high i b w hi h1 hb (by omega) hL

end Go.Proofs.YtkiejflgphjfjacDoor

/-
  slices.Index and slices.Contains at ints: the contract of each.
-/
namespace Go.Proofs.YtkiejflgphjfjacDoor
open Go.RowKit
set_option linter.unusedVariables false
set_option linter.unusedSimpArgs false

theorem not_in_next {xs : List Int} {k : Nat} {v : Int} (h : ¬ v ∈ xs.take k) (hk : k < xs.length) (hne : ¬ v = xs[k]) : ¬ v ∈ xs.take (k + 1) := by
  rw [List.take_succ_eq_append_getElem hk]
  intro hm
  rcases List.mem_append.1 hm with hm | hm
  · exact h hm
  · exact hne (List.mem_singleton.1 hm)

theorem index_any (a : Option Addr) (cap : Nat) (xs : List Int) (v : Int) (w : World) (hx : xs.length ≤ maxLen) (ha : Lies w a (xs.map (Value.int .i64))) :
    Calls Tryd.prog 82 #[.slice a xs.length cap, .int .i64 v] w fun e w' => (∃ r : Int, e = .returned (.int .i64 r) ∧ decide (0 ≤ r) = decide (v ∈ xs)) ∧ w = w' := by
  unfold maxLen at hx
  go_enter Tryd.func82, Tryd.ntmps82
  go_wp2
  go_loopw [8] (fun i wr => ∃ k : Nat, k ≤ xs.length ∧ i = .int .i64 k ∧ wr = w ∧ Shut (¬ v ∈ xs.take k)) (fun i _ => xs.length - (intOf i).toNat)
  case atStart => exact ⟨0, Nat.zero_le _, rfl, rfl, ⟨by simp⟩⟩
  case round =>
    obtain ⟨k, hk, rfl, rfl, HN⟩ := hrel
    by_cases hlt : k < xs.length
    · obtain ⟨b1, o1, rfl⟩ := ha.some (k := k) (by simpa using hlt)
      have c1 : wr.cell? ⟨b1, o1 + k, none⟩ = some (.int .i64 xs[k]) := ha.at (by simp [hlt])
      have HM : Shut (xs[k] ∈ xs) := ⟨List.getElem_mem hlt⟩
      have HX : Shut (∀ h : ¬ v = xs[k], ¬ v ∈ xs.take (k + 1)) := ⟨fun h => not_in_next HN.out hlt h⟩
      clear ha HN
      generalize xs[k] = y at *
      by_cases hy : v = y
      · have hy2 : (v == y) = true := by simpa using hy
        have HY : Shut (v = y) := ⟨hy⟩
        clear hy HX
        go_wp2
        go_ret
        refine ⟨⟨_, rfl, ?_⟩, rfl⟩
        rw [HY.out, decide_eq_true HM.out]
        simp
      · have hy2 : (v == y) = false := by simpa using hy
        have HN := Shut.mk (HX.out hy)
        clear hy HX HM
        go_wp2
        go_roundw
        case rel => exact ⟨k + 1, by omega, by go_num, trivial, HN⟩
        case measure => simp [intOf]; omega
    · have HE : Shut (¬ v ∈ xs) := ⟨by have h := HN.out; rwa [List.take_of_length_le (by omega)] at h⟩
      clear ha HN
      go_wp2
      go_ret
      exact ⟨⟨_, rfl, by rw [decide_eq_false HE.out]; rfl⟩, rfl⟩

theorem contains_any (a : Option Addr) (cap : Nat) (xs : List Int) (v : Int) (w : World) (hx : xs.length ≤ maxLen) (ha : Lies w a (xs.map (Value.int .i64))) :
    Calls Tryd.prog 64 #[.slice a xs.length cap, .int .i64 v] w fun e w' => e = .returned (.bool (decide (v ∈ xs))) ∧ w = w' := by
  go_enter Tryd.func64, Tryd.ntmps64
  go_wp2_with fail
  refine (index_any a cap xs v w hx ha).mono ?_
  rintro e w1 ⟨⟨r, rfl, hr⟩, rfl⟩
  have HR := Shut.mk hr
  clear hr ha hx
  go_wp2
  all_goals go_ret
  all_goals exact ⟨retB (by rw [← HR.out]), rfl⟩

end Go.Proofs.YtkiejflgphjfjacDoor

/-
  The library's sort at this program: the contract of slices.Sort, laid by program in plain words.
-/
namespace Go.Proofs
open Go.Shelf
def Tryd.lays189_ren : Go.Shelf.Ren := ⟨fun | 189 => 65 | 125 => 84 | 257 => 83 | 128 => 100 | 129 => 101 | 294 => 91 | 295 => 92 | 296 => 93 | 297 => 94 | 298 => 95 | 299 => 96 | 216 => 97 | 300 => 98 | 301 => 99 | 328 => 103 | 329 => 104 | 330 => 105 | 331 => 106 | 332 => 107 | 215 => 108 | 343 => 110 | n => n, fun | 28 => 32 | 3 => 3 | 46 => 116 | 0 => 0 | 51 => 133 | 53 => 135 | 4 => 4 | 183 => 125 | 182 => 124 | 131 => 130 | 5 => 5 | 9 => 9 | 218 => 136 | 222 => 140 | 228 => 143 | 229 => 144 | n => n, fun | n => n⟩
theorem Tryd.lays189 : Go.Proofs.Lays.n189 Tryd.prog Tryd.lays189_ren := {
  mixed := by kernel_rfl
  f125 := Tryd.func84.trans (congrArg some (by kernel_rfl))
  f128 := Tryd.func100.trans (congrArg some (by kernel_rfl))
  f129 := Tryd.func101.trans (congrArg some (by kernel_rfl))
  f189 := Tryd.func65.trans (congrArg some (by kernel_rfl))
  f215 := Tryd.func108.trans (congrArg some (by kernel_rfl))
  f216 := Tryd.func97.trans (congrArg some (by kernel_rfl))
  f257 := Tryd.func83.trans (congrArg some (by kernel_rfl))
  f294 := Tryd.func91.trans (congrArg some (by kernel_rfl))
  f295 := Tryd.func92.trans (congrArg some (by kernel_rfl))
  f296 := Tryd.func93.trans (congrArg some (by kernel_rfl))
  f297 := Tryd.func94.trans (congrArg some (by kernel_rfl))
  f298 := Tryd.func95.trans (congrArg some (by kernel_rfl))
  f299 := Tryd.func96.trans (congrArg some (by kernel_rfl))
  f300 := Tryd.func98.trans (congrArg some (by kernel_rfl))
  f301 := Tryd.func99.trans (congrArg some (by kernel_rfl))
  f328 := Tryd.func103.trans (congrArg some (by kernel_rfl))
  f329 := Tryd.func104.trans (congrArg some (by kernel_rfl))
  f330 := Tryd.func105.trans (congrArg some (by kernel_rfl))
  f331 := Tryd.func106.trans (congrArg some (by kernel_rfl))
  f332 := Tryd.func107.trans (congrArg some (by kernel_rfl))
  f343 := Tryd.func110.trans (congrArg some (by kernel_rfl))
  t0 := Tryd.underlying0
  a0 := Tryd.isAgg0
  z0 := Tryd.sizeOf0
  v0 := Tryd.zeroValue0
  t3 := Tryd.underlying3
  a3 := Tryd.isAgg3
  z3 := Tryd.sizeOf3
  v3 := Tryd.zeroValue3
  t4 := Tryd.underlying4
  a4 := Tryd.isAgg4
  z4 := Tryd.sizeOf4
  v4 := Tryd.zeroValue4
  t5 := Tryd.underlying5
  a5 := Tryd.isAgg5
  z5 := Tryd.sizeOf5
  v5 := Tryd.zeroValue5
  t9 := Tryd.underlying9
  a9 := Tryd.isAgg9
  z9 := Tryd.sizeOf9
  v9 := Tryd.zeroValue9
  t28 := Tryd.underlying32
  a28 := Tryd.isAgg32
  z28 := Tryd.sizeOf32
  v28 := Tryd.zeroValue32
  t46 := Tryd.underlying116
  a46 := Tryd.isAgg116
  z46 := Tryd.sizeOf116
  v46 := Tryd.zeroValue116
  t51 := Tryd.underlying133
  a51 := Tryd.isAgg133
  z51 := Tryd.sizeOf133
  v51 := Tryd.zeroValue133
  t53 := Tryd.underlying135
  a53 := Tryd.isAgg135
  z53 := Tryd.sizeOf135
  v53 := Tryd.zeroValue135
  t131 := Tryd.underlying130
  a131 := Tryd.isAgg130
  z131 := Tryd.sizeOf130
  v131 := Tryd.zeroValue130
  t182 := Tryd.underlying124
  a182 := Tryd.isAgg124
  z182 := Tryd.sizeOf124
  v182 := Tryd.zeroValue124
  t183 := Tryd.underlying125
  a183 := Tryd.isAgg125
  z183 := Tryd.sizeOf125
  v183 := Tryd.zeroValue125
  t218 := Tryd.underlying136
  a218 := Tryd.isAgg136
  z218 := Tryd.sizeOf136
  v218 := Tryd.zeroValue136
  t222 := Tryd.underlying140
  a222 := Tryd.isAgg140
  z222 := Tryd.sizeOf140
  v222 := Tryd.zeroValue140
  t228 := Tryd.underlying143
  a228 := Tryd.isAgg143
  z228 := Tryd.sizeOf143
  v228 := Tryd.zeroValue143
  t229 := Tryd.underlying144
  a229 := Tryd.isAgg144
  z229 := Tryd.sizeOf144
  v229 := Tryd.zeroValue144 }
open Go.Sort Go.RowKit in
theorem Tryd.slices_Sort_int (blk off cap : Nat) (zs : List Int) (w : World) (hH : Holds (Value.int .i64) w blk off zs.toArray) (hblk : blk < w.heap.size) (hsz : zs.length < 4611686018427387904) :
    Calls Tryd.prog 65 #[.slice (some ⟨blk, off, none⟩) zs.length cap] w fun e w' =>
      e = .returned (.tuple #[]) ∧ ∃ n os, w' = grow (putRow (Value.int .i64) (Sort.ahead w n) blk off (zs.mergeSort fun x y => decide (x ≤ y)).toArray) os := Any.slices_Sort_int Tryd.lays189 blk off cap zs w hH hblk hsz
end Go.Proofs

/-
  The reference's Picked: its contract.
-/
namespace Go.Proofs.YtkiejflgphjfjacDoor
open Go.RowKit
set_option linter.unusedVariables false
set_option linter.unusedSimpArgs false

/-- numbers as Go's ints -/
def ints (l : List Nat) : List Int := l.map fun k : Nat => (k : Int)

theorem ints_length (l : List Nat) : (ints l).length = l.length := by simp [ints]

theorem mem_ints {l : List Nat} {k : Nat} : (k : Int) ∈ ints l ↔ k ∈ l := by
  unfold ints
  rw [List.mem_map]
  constructor
  · rintro ⟨j, hj, e⟩
    obtain rfl : j = k := by omega
    exact hj
  · exact fun h => ⟨k, h, rfl⟩

theorem infoI : (Tryd.prog.info? 3).map (fun i => (i.zero, i.size, i.bytes)) = some (some (.int .i64 0), 1, 8) := by kernel_rfl

theorem refPicked_bad (id b : Int) (w : World) (h : OutOf id b) :
    Calls Tryd.prog 38 #[.int .i64 id, .int .i64 b] w fun e w' => e = .returned (.tuple #[.slice none 0 0, .int .i64 3]) ∧ w = w' := by
  by_cases h1 : 0 ≤ id ∧ id ≤ 9999
  · have h2 : ¬ (1 ≤ b ∧ b ≤ 24) := by unfold OutOf at h; omega
    have H1 := Shut.mk (decide_eq_true h1)
    have H2 := Shut.mk (decide_eq_false h2)
    clear h1 h2 h
    go_enter Tryd.func38, Tryd.ntmps38
    go_wp2_with fail
    refine (in_any id 0 9999 _).mono ?_
    rintro e w1 ⟨rfl, rfl⟩
    rw [H1.out]
    go_wp2_with fail
    refine (in_any b 1 24 _).mono ?_
    rintro e w1 ⟨rfl, rfl⟩
    rw [H2.out]
    go_wp2
    go_ret2
    exact ⟨rfl, rfl⟩
  · have H1 := Shut.mk (decide_eq_false h1)
    clear h1 h
    go_enter Tryd.func38, Tryd.ntmps38
    go_wp2_with fail
    refine (in_any id 0 9999 _).mono ?_
    rintro e w1 ⟨rfl, rfl⟩
    rw [H1.out]
    go_wp2
    go_ret2
    exact ⟨rfl, rfl⟩

theorem refPicked_low (i b : Nat) (w : World) (hi : i ≤ 9999) (h1 : 1 ≤ b) (hb : b ≤ 24) (hlt : i < b) :
    Calls Tryd.prog 38 #[.int .i64 i, .int .i64 b] w fun e w' => ∃ (a : Option Addr) (cap : Nat) (L : List Int), e = .returned (.tuple #[.slice a L.length cap, .int .i64 0]) ∧ Lies w' a (L.map (Value.int .i64)) ∧ L.Perm (ints (chosen b i)) ∧ Below w.heap.size w w' := by
  have H1 : Shut (decide ((0 : Int) ≤ (i : Int) ∧ (i : Int) ≤ 9999) = true) := ⟨decide_eq_true (by omega)⟩
  have H2 : Shut (decide ((1 : Int) ≤ (b : Int) ∧ (b : Int) ≤ 24) = true) := ⟨decide_eq_true (by omega)⟩
  go_enter Tryd.func38, Tryd.ntmps38
  go_wp2_with fail
  refine (in_any i 0 9999 _).mono ?_
  rintro e w1 ⟨rfl, rfl⟩
  rw [H1.out]
  go_wp2_with fail
  refine (in_any b 1 24 _).mono ?_
  rintro e w1 ⟨rfl, rfl⟩
  rw [H2.out]
  go_wp2
  go_ret2
  refine ⟨_, 1, [(i : Int)], rfl, Lies.alloc_new _ _ _, ?_, (Below.refl _ _).alloc (Nat.le_refl _) _⟩
  rw [chosen_low hlt]
  exact List.Perm.refl _

/-- the list's state after n steps -/
def LInv (w wr : World) (v : Value) (b x0 n : Nat) : Prop := wr.ownsRow w.heap.size 3 1 v (coll b x0 n).length ((ints (coll b x0 n)).map (Value.int .i64)) ∧ Below w.heap.size w wr

/-- how many a slice has -/
def lenOf : Value → Nat
  | .slice _ n _ => n
  | _ => 0

/-- slices.Sort of ints that lie in memory of the call's own -/
theorem sort_own {w : World} {B : Nat} {v : Value} {zs : List Int} {n : Nat} (hn : n = zs.length) (h : w.ownsRow B 3 1 v n (zs.map (Value.int .i64))) (hp : 0 < n) (hbig : n < 4611686018427387904) :
    Calls Tryd.prog 65 #[v] w fun e w' => e = .returned (.tuple #[]) ∧ ∃ ts : List Int, ts.Perm zs ∧ w'.ownsRow B 3 1 v n (ts.map (Value.int .i64)) ∧ w.grownBy w' v.ownBlock := by
  subst hn
  rcases h.2 with ⟨rfl, h0⟩ | ⟨g, cap, cur, rfl, hb, hg, hnc, hcm, hcs, htake⟩
  · omega
  · have hlt : g < w.heap.size := (Array.getElem?_eq_some_iff.1 hg).1
    refine (Tryd.slices_Sort_int g 0 cap zs w (holds_of_blockI hg (by simpa using htake)) hlt hbig).mono ?_
    rintro e w' ⟨rfl, nn, os, rfl⟩
    refine ⟨rfl, zs.mergeSort fun x y => decide (x ≤ y), List.mergeSort_perm _ _, ?_, ?_⟩
    · exact ownsRow_sortedI (by simp) hb hg hnc hcm hcs
    · exact grownBy_sortedI _

theorem LInv.new {w wr w4 : World} {v v' : Value} {b x0 n k : Nat} (hB : w.heap.size ≤ wr.heap.size) (hb : Below w.heap.size w wr)
    (ho : wr.ownsRow w.heap.size 3 1 v (coll b x0 n).length ((ints (coll b x0 n)).map (Value.int .i64))) (o : Obj)
    (ho' : w4.ownsRow w.heap.size 3 1 v' ((coll b x0 n).length + 1) ((ints (coll b x0 n)).map (Value.int .i64) ++ [.int .i64 k])) (hg : (wr.alloc o).grownBy w4 v.ownBlock)
    (hc : coll b x0 (n + 1) = coll b x0 n ++ [k]) : LInv w w4 v' b x0 (n + 1) := by
  unfold LInv
  rw [hc]
  refine ⟨?_, ?_⟩
  · simpa [ints] using ho'
  · refine (hb.alloc hB o).grown hg (by simp; omega) ?_
    intro g hg'
    exact (ho.lt g hg').1

set_option maxHeartbeats 1000000 in
theorem refPicked_high (i b : Nat) (w : World) (hi : i ≤ 9999) (h1 : 1 ≤ b) (hb : b ≤ 24) (hge : b ≤ i) :
    Calls Tryd.prog 38 #[.int .i64 i, .int .i64 b] w fun e w' => ∃ (a : Option Addr) (cap : Nat) (L : List Int), e = .returned (.tuple #[.slice a L.length cap, .int .i64 0]) ∧ Lies w' a (L.map (Value.int .i64)) ∧ L.Perm (ints (chosen b i)) ∧ Below w.heap.size w w' := by
  have H1 : Shut (decide ((0 : Int) ≤ (i : Int) ∧ (i : Int) ≤ 9999) = true) := ⟨decide_eq_true (by omega)⟩
  have H2 : Shut (decide ((1 : Int) ≤ (b : Int) ∧ (b : Int) ≤ 24) = true) := ⟨decide_eq_true (by omega)⟩
  have HX0 := nx_small i
  have HM1 : Shut (many b (nx i) ≤ b) := ⟨many_le h1 (nx i)⟩
  have HM2 : Shut (1 ≤ many b (nx i)) := ⟨many_pos h1 (nx i)⟩
  have HC : Shut (∀ n, (coll b (nx i) n).length = many b (nx i) → chosen b i = coll b (nx i) n) := ⟨fun n hn => chosen_high (by omega) hn⟩
  have HMA : Shut (∀ k, k < 5 → (∀ j, j < k → lim.getD j 0 ≤ nx i) → nx i < lim.getD k 0 → many b (nx i) = min (k + 1) b) := ⟨fun k hk hlo hx => many_at hk hlo hx⟩
  have HME : Shut ((∀ j, j < 5 → lim.getD j 0 ≤ nx i) → many b (nx i) = max (b / 2) 1) := ⟨many_end⟩
  have hnx : ((i : Int) * 1109 + 12345) % 65536 = ((nx i : Nat) : Int) := by simp [nx]
  go_enter Tryd.func38, Tryd.ntmps38
  go_wp2_with fail
  refine (in_any i 0 9999 _).mono ?_
  rintro e w1 ⟨rfl, rfl⟩
  rw [H1.out]
  go_wp2_with fail
  refine (in_any b 1 24 _).mono ?_
  rintro e w1 ⟨rfl, rfl⟩
  rw [H2.out]
  clear H1 H2
  generalize nx i = x0 at *
  go_upto_region 6 with fail
  go_cut [6, 7] from 12 (fun s6 s7 wc => s6 = .int .i64 x0 ∧ s7 = .int .i64 (max (b / 2) 1 : Nat) ∧ w = wc)
  case first =>
    go_wp2
    all_goals go_meet
    all_goals exact ⟨congrArg (Value.int .i64) hnx, congrArg (Value.int .i64) (by omega), rfl⟩
  case rest =>
    obtain ⟨rfl, rfl, rfl⟩ := hcut
    clear hnx
    go_upto_block 0 with fail
    have hlw := Lies.alloc_new w #[.int .i64 8192, .int .i64 40960, .int .i64 51882, .int .i64 57344, .int .i64 60621] 3
    have hbw : Below w.heap.size w (w.alloc (.cells #[.int .i64 8192, .int .i64 40960, .int .i64 51882, .int .i64 57344, .int .i64 60621] 3)) := (Below.refl _ _).alloc (Nat.le_refl _) _
    obtain ⟨w2, hw2⟩ : ∃ w2, w.alloc (.cells #[.int .i64 8192, .int .i64 40960, .int .i64 51882, .int .i64 57344, .int .i64 60621] 3) = w2 := ⟨_, rfl⟩
    rw [hw2] at hlw hbw ⊢
    clear hw2
    go_cut [7] from 12 (fun s7 wd => s7 = .int .i64 (many b x0 : Nat) ∧ w2 = wd)
    case first =>
      go_wp2_with fail
      go_loopw [34, 7] (fun i m wr => ∃ k : Nat, k ≤ 5 ∧ i = .int .i64 k ∧ m = .int .i64 (max (b / 2) 1 : Nat) ∧ wr = w2 ∧ Shut (∀ j, j < k → lim.getD j 0 ≤ x0)) (fun i _ _ => 5 - (intOf i).toNat)
      case atStart => exact ⟨0, Nat.zero_le _, rfl, rfl, rfl, ⟨fun j hj => by omega⟩⟩
      case round =>
        obtain ⟨k, hk, rfl, rfl, rfl, HL⟩ := hrel
        by_cases hlt : k < 5
        · obtain ⟨L, hLk⟩ : ∃ L : Int, L = lim.getD k 0 := ⟨_, rfl⟩
          have c1 : wr.cell? ⟨w.heap.size, k, none⟩ = some (.int .i64 L) := by
            have h5 : k = 0 ∨ k = 1 ∨ k = 2 ∨ k = 3 ∨ k = 4 := by omega
            have h := hlw.at (k := k) (u := .int .i64 L) (by rw [hLk]; rcases h5 with rfl | rfl | rfl | rfl | rfl <;> rfl)
            simpa using h
          by_cases hx2 : x0 < lim.getD k 0
          · have HM : Shut (many b x0 = min (k + 1) b) := ⟨HMA.out k hlt HL.out hx2⟩
            have hx3 : (x0 : Int) < L := by omega
            have hk5 : (k : Int) < 5 := by omega
            clear hLk hx2 hlw HL
            go_wp2
            all_goals go_meet
            all_goals exact ⟨congrArg (Value.int .i64) (by rw [HM.out]; omega), rfl⟩
          · have HN : Shut (∀ j, j < k + 1 → lim.getD j 0 ≤ x0) := ⟨fun j hj => by
              by_cases e : j = k
              · subst e; omega
              · exact HL.out j (by omega)⟩
            have hx3 : L ≤ (x0 : Int) := by omega
            have hk5 : (k : Int) < 5 := by omega
            clear hLk hx2 hlw HL
            go_wp2
            exact ⟨⟨k + 1, by omega, by go_num, rfl, trivial, HN⟩, by simp [intOf]; omega⟩
        · obtain rfl : k = 5 := by omega
          have HM : Shut (many b x0 = max (b / 2) 1) := ⟨HME.out HL.out⟩
          clear HL
          go_wp2
          go_meet
          exact ⟨congrArg (Value.int .i64) (by rw [HM.out]), rfl⟩
    case rest =>
      obtain ⟨rfl, rfl⟩ := hcut
      clear hlw
      generalize many b x0 = m at *
      have H0 : Shut (LInv w w2 (.slice none 0 0) b x0 0) := ⟨World.ownsRow_nil _ _ _ _, hbw⟩
      obtain ⟨i0, hin, hz0, hz1, hz2⟩ := info_parts infoI
      clear HMA HME hbw
      go_wp2
      go_loopw [6, 10] (fun x v wr => ∃ n : Nat, (coll b x0 n).length ≤ m ∧ x = .int .i64 (it n x0 : Nat) ∧ Shut (LInv w wr v b x0 n)) (fun x v _ => toGo b x0 m (m - lenOf v) (intOf x).toNat)
      case atStart => exact ⟨0, Nat.zero_le _, rfl, H0⟩
      case round =>
        clear H0
        obtain ⟨n, hn, rfl, hI⟩ := hrel
        obtain ⟨p, q, rfl, hpq⟩ := own_slice hI.out.1
        have hla : Lies wr p ((ints (coll b x0 n)).map (Value.int .i64)) := by
          obtain ⟨a', c', e', h', _⟩ := own_lies hI.out.1
          cases e'
          exact h'
        by_cases hlt : (coll b x0 n).length < m
        · have HN : Shut ((coll b x0 n).length < m) := ⟨hlt⟩
          have hmb : m ≤ 24 := by have := HM1.out; omega
          have HS := it_small HX0 n
          clear hn
          generalize hxe : it n x0 = x at *
          have HXE : Shut (it n x0 = x) := ⟨hxe⟩
          have hC : ∀ k : Nat, Calls Tryd.prog 64 #[.slice p (coll b x0 n).length q, .int .i64 k] wr fun e w' => e = .returned (.bool (decide (k ∈ coll b x0 n))) ∧ wr = w' := by
            intro k
            have h := contains_any p q (ints (coll b x0 n)) k wr (by rw [ints_length]; unfold maxLen; omega) hla
            rw [ints_length] at h
            refine h.mono ?_
            rintro e w1 ⟨rfl, rfl⟩
            exact ⟨retB (by simp only [mem_ints]), rfl⟩
          obtain ⟨y, hy⟩ : ∃ y, nx x = y := ⟨_, rfl⟩
          have hq1 : ((x : Int) * 1109 + 12345) % 65536 = (y : Int) := by rw [← hy]; simp [nx]
          have HY : Shut (nx x = y) := ⟨hy⟩
          have hyb : y < 1000000 := by rw [← hy]; have := nx_lt x; omega
          have hxb : x < 1000000 := by have := HS.lt; omega
          clear hy hxe
          obtain ⟨k, hk⟩ : ∃ k, y / 7 % b = k := ⟨_, rfl⟩
          have hq2 : (y : Int) / 7 % (b : Int) = (k : Int) := by rw [← hk]; simp
          have hkb : k < b := by rw [← hk]; exact Nat.mod_lt _ (by omega)
          have HK : Shut (y / 7 % b = k) := ⟨hk⟩
          have hC := hC k
          clear hk hla
          go_wp2_with fail
          refine hC.mono ?_
          rintro e w3 ⟨rfl, rfl⟩
          clear hC
          simp only [hq1, hq2]
          have hown := hI.out.1
          have hbe := hI.out.2
          have hsz := hbe.size
          by_cases hin' : k ∈ coll b x0 n
          · rw [decide_eq_true hin']
            have HIN : Shut (k ∈ coll b x0 n) := ⟨hin'⟩
            clear hin' hown hbe hsz
            go_wp2
            obtain ⟨s1, s2, s3⟩ := step_old hb HM1 HN HXE ⟨rfl⟩ HY HK HIN
            refine ⟨⟨n + 1, by rw [s1]; exact Nat.le_of_lt HN.out, by rw [s2], ⟨?_⟩⟩, s3⟩
            have h := hI.out
            unfold LInv at h ⊢
            rw [s1]
            exact h
          · rw [decide_eq_false hin']
            have HIN : Shut (¬ k ∈ coll b x0 n) := ⟨hin'⟩
            clear hin'
            go_wp2_with (first | (at_builtin; refine wpList_append_own _ rfl _ _ 32 rfl w.heap.size 3 i0 (.int .i64 0) 1 8 Tryd.underlying32 hin hz0 hz1 hz2 rfl (by decide) _ _ _ rfl (hown.alloc _) ⟨wr.heap.size, 0, none⟩ 1 1 [.int .i64 k] rfl rfl ?c1 ?c2 ?c3 ?c4 ?c5 ?_) | go_in)
            case c1 =>
              intro j u hj
              match j, hj with
              | 0, hj => simp at hj; subst hj; simp [Addr.add]
            case c2 => intro u hu; simp at hu; subst hu; rfl
            case c3 => unfold maxLen; omega
            case c4 => omega
            case c5 => simp; omega
            intro v' w4 hown' hgrow _
            have R := LInv.new hsz hbe hown _ hown' hgrow (step_new HN HXE ⟨rfl⟩ HY HK HIN).1
            obtain ⟨p2, q2, rfl, hpq2⟩ := own_slice hown'
            clear hown' hgrow hown hbe
            go_wp2
            obtain ⟨s1, s2, s3⟩ := step_new HN HXE ⟨rfl⟩ HY HK HIN
            have hN := HN.out
            refine ⟨⟨n + 1, by rw [s1]; simp; omega, by rw [s2], ⟨R⟩⟩, ?_⟩
            show toGo b x0 m (m - ((coll b x0 n).length + 1)) _ < _
            rw [show m - ((coll b x0 n).length + 1) = m - (coll b x0 n).length - 1 by omega]
            exact s3
        · have HE : Shut ((coll b x0 n).length = m) := ⟨by omega⟩
          have hwm : ¬ ((coll b x0 n).length : Int) < (m : Int) := by omega
          clear hn hlt hla
          generalize it n x0 = x at *
          go_wp2_with fail
          have hm2 := HM2.out
          have hm1 := HM1.out
          have hE := HE.out
          refine (sort_own (ints_length _).symm hI.out.1 (by omega) (by omega)).mono ?_
          rintro e w4 ⟨rfl, ts, hperm, hown, hgr⟩
          have HR : Shut ((∃ (a : Option Addr) (cap : Nat) (L : List Int), (Value.slice p (coll b x0 n).length q) = .slice a L.length cap ∧ Lies w4 a (L.map (Value.int .i64)) ∧ L.Perm (ints (chosen b i))) ∧ Below w.heap.size w w4) := by
            obtain ⟨a', c', e', h', hl'⟩ := own_lies hown
            refine ⟨⟨a', c', ts, ?_, h', by rw [HC.out n hE]; exact hperm⟩, ?_⟩
            · rw [e']
              simpa using hl'
            · exact hI.out.2.grown hgr hI.out.2.size fun g hg' => (hI.out.1.lt g hg').1
          clear hperm hown hgr hI HC HE hm1 hm2 hE
          go_wp2
          go_ret2
          obtain ⟨⟨a, cap, L, h1', h2', h3'⟩, h4'⟩ := HR.out
          exact ⟨a, cap, L, ret2 h1' rfl, h2', h3', h4'⟩

/-- the reference's Picked -/
theorem refPicked_any (i b : Nat) (w : World) (hi : i ≤ 9999) (h1 : 1 ≤ b) (hb : b ≤ 24) :
    Calls Tryd.prog 38 #[.int .i64 i, .int .i64 b] w fun e w' => ∃ (a : Option Addr) (cap : Nat) (L : List Int), e = .returned (.tuple #[.slice a L.length cap, .int .i64 0]) ∧ Lies w' a (L.map (Value.int .i64)) ∧ L.Perm (ints (chosen b i)) ∧ Below w.heap.size w w' := by
  by_cases h : i < b
  · exact refPicked_low i b w hi h1 hb h
  · exact refPicked_high i b w hi h1 hb (by omega)

end Go.Proofs.YtkiejflgphjfjacDoor

/-
  slices.Grow of nothing and slices.Concat at numbers: the contract of each.
-/
namespace Go.Proofs.YtkiejflgphjfjacDoor
open Go.RowKit
set_option linter.unusedVariables false
set_option linter.unusedSimpArgs false

/-- a list of numbers in memory -/
structure IBlk where
  a : Option Addr
  cap : Nat
  l : List Int

def IBlk.val (b : IBlk) : Value := .slice b.a b.l.length b.cap
def is (l : List Int) : List Value := l.map (Value.int .i64)
theorem isl_length (l : List Int) : (is l).length = l.length := by simp [is]

set_option maxRecDepth 8000 in
set_option maxHeartbeats 1000000 in
theorem growI_nil (s : Nat) (w : World) (hs : s ≤ 65536) :
    Calls Tryd.prog 44 #[.slice none 0 0, .int .i64 s] w fun e w' => ∃ v, e = .returned v ∧ w'.ownsRow w.heap.size 3 1 v 0 [] ∧ Below w.heap.size w w' := by
  obtain ⟨i0, hi, hz0, hz1, hz2⟩ := info_parts infoI
  by_cases h0 : s = 0
  · subst h0
    go_enter Tryd.func44, Tryd.ntmps44
    go_wp2
    go_ret
    exact ⟨_, rfl, World.ownsRow_nil _ _ _ _, Below.refl _ _⟩
  · have h1 : 0 < s := by omega
    have h2 : (0 : Int) < (s : Int) := by omega
    clear h0
    have hrz : ∀ ty, (Builtin.append_ #[32, 3] ty #[.slice none 0 0, .int .i64 s]).run Tryd.prog w = .ok (.slice (some ⟨w.heap.size, 0, none⟩) s (grownCap w s 0 3)) (w.drew.alloc (.cells (Builtin.zeroCells #[.int .i64 0] s ++ Builtin.zeroCells #[.int .i64 0] (grownCap w s 0 3 - s)) 3)) := fun ty =>
      Lib.run_append_nil_zeros w 32 3 ty 3 i0 (.int .i64 0) .i64 .i64 Tryd.underlying32 Tryd.underlying3 hi hz0 s h1 (by omega) (by omega) (by rw [hz2]; omega)
    have hGn : s ≤ grownCap w s 0 3 := grownCap_ge w _ _ _
    have hG63 := grownCap_le_maxLen w s 0 3 (by unfold maxLen; omega)
    have HR : Hid ((w.drew.alloc (.cells (Builtin.zeroCells #[.int .i64 0] s ++ Builtin.zeroCells #[.int .i64 0] (grownCap w s 0 3 - s)) 3)).ownsRow w.heap.size 3 1 (.slice (some ⟨w.heap.size, 0, none⟩) 0 (grownCap w s 0 3)) 0 []) :=
      ⟨rfl, .inr ⟨w.heap.size, _, _, rfl, Nat.le_refl _, (heap_alloc_eq w.drew _ _).trans (if_pos rfl), Nat.zero_le _, hG63, by simp [zeroCells_size]; omega, rfl⟩⟩
    generalize grownCap w s 0 3 = G at *
    unfold maxLen at hG63
    have hG : (G : Int) ≤ 9223372036854775807 := by omega
    clear hG63
    go_enter Tryd.func44, Tryd.ntmps44
    go_wp2_with (at_builtin; refine Lib.wpList_append_run _ rfl _ _ _ _ rfl _ _ rfl rfl _ _ (hrz _) ?_)
    all_goals
      go_ret
      exact ⟨_, rfl, HR.out, (Below.refl _ _).drew.alloc (Nat.le_refl _) _⟩

/-- how many bytes the first m have -/
def totI (bl : List IBlk) (m : Nat) : Nat := (((bl.map IBlk.l).take m).flatten).length

theorem totI_succ {bl : List IBlk} {m : Nat} (h : m < bl.length) : totI bl (m + 1) = totI bl m + bl[m].l.length := by
  unfold totI
  rw [List.take_succ_eq_append_getElem (by simpa using h)]
  simp

theorem totI_le (bl : List IBlk) (m : Nat) : totI bl m ≤ ((bl.map IBlk.l).flatten).length := by
  unfold totI
  have h := congrArg (fun l => l.flatten.length) (List.take_append_drop m (bl.map IBlk.l))
  simp only [List.flatten_append, List.length_append] at h
  omega

theorem concatI_step {w wr w1 : World} {v v' : Value} {bl : List IBlk} {m : Nat} (hlt : m < bl.length) (hb : Below w.heap.size w wr) (ho : wr.ownsRow w.heap.size 3 1 v (totI bl m) (is ((bl.map IBlk.l).take m).flatten))
    (ho' : w1.ownsRow w.heap.size 3 1 v' (totI bl m + bl[m].l.length) (is ((bl.map IBlk.l).take m).flatten ++ is bl[m].l)) (hg : wr.grownBy w1 v.ownBlock) :
    w1.ownsRow w.heap.size 3 1 v' (totI bl (m + 1)) (is ((bl.map IBlk.l).take (m + 1)).flatten) ∧ Below w.heap.size w w1 := by
  refine ⟨?_, hb.grown hg hb.size fun g hg' => (ho.lt g hg').1⟩
  rw [totI_succ hlt, List.take_succ_eq_append_getElem (by simpa using hlt)]
  simpa [is] using ho'

theorem liesI_none {w : World} {l : List Int} (h : Lies w none (is l)) : l = [] := by
  cases l with
  | nil => rfl
  | cons x r =>
    obtain ⟨_, _, e, _⟩ := h 0 _ (by simp [is]; rfl)
    simp at e

theorem liesI_add {w : World} {ad : Addr} {l : List Int} (h : Lies w (some ad) (is l)) : ∀ j u, (is l)[j]? = some u → w.cell? (ad.add j) = some u := by
  intro j u hu
  obtain ⟨b, o, e, hc⟩ := h j u hu
  simp at e
  subst e
  simpa [Addr.add_lit] using hc

set_option maxRecDepth 8000 in
set_option maxHeartbeats 1000000 in
theorem concatI_any (a : Option Addr) (cap : Nat) (bl : List IBlk) (w : World) (hn : bl.length ≤ maxLen) (htot : ((bl.map IBlk.l).flatten).length ≤ 65536) (ha : Lies w a (bl.map IBlk.val)) (hall : ∀ b ∈ bl, Lies w b.a (is b.l)) :
    Calls Tryd.prog 21 #[.slice a bl.length cap] w fun e w' => ∃ v, e = .returned v ∧ w'.ownsRow w.heap.size 3 1 v ((bl.map IBlk.l).flatten).length (is (bl.map IBlk.l).flatten) ∧ Below w.heap.size w w' := by
  obtain ⟨i0, hi, hz0, hz1, hz2⟩ := info_parts infoI
  have HT : Hid (((bl.map IBlk.l).flatten).length ≤ 65536) := htot
  unfold maxLen at hn
  clear htot
  go_enter Tryd.func21, Tryd.ntmps21
  go_wp2
  go_loop [3, 11] (fun c i => ∃ m : Nat, m ≤ bl.length ∧ i = .int .i64 m ∧ c = .int .i64 (totI bl m)) (fun _ i => bl.length - (intOf i).toNat)
  case atStart => exact ⟨0, Nat.zero_le _, rfl, rfl⟩
  case round =>
    obtain ⟨m, hm, rfl, rfl⟩ := hrel
    by_cases hlt : m < bl.length
    · obtain ⟨b1, o1, rfl⟩ := ha.some (k := m) (by simpa using hlt)
      have h1 : w.cell? ⟨b1, o1 + m, none⟩ = some (.slice bl[m].a bl[m].l.length bl[m].cap) := ha.at (by simp [hlt, IBlk.val])
      have hs := totI_succ hlt
      have hle := totI_le bl (m + 1)
      have := HT.out
      have hb1 : totI bl m ≤ 65536 := by omega
      have hb2 : bl[m].l.length ≤ 65536 := by omega
      have HS : Hid (totI bl (m + 1) = totI bl m + bl[m].l.length) := hs
      clear hs hle this
      go_wp2
      go_round
      case rel => exact ⟨m + 1, by omega, by go_num, congrArg (Value.int .i64) (by rw [HS.out]; simp)⟩
      case measure => simp [intOf]; omega
    · have HM : Hid (m = bl.length) := by have : m = bl.length := by omega
                                          exact this
      have hle := totI_le bl m
      have := HT.out
      have hb1 : totI bl m ≤ 65536 := by omega
      clear hle this
      go_wp2_with fail
      refine (growI_nil _ _ hb1).mono ?_
      rintro e w1 ⟨v1, rfl, ho1, hb⟩
      clear hb1
      go_wp2
      go_loopw [6, 27] (fun v i wr => ∃ m : Nat, m ≤ bl.length ∧ i = .int .i64 m ∧ wr.ownsRow w.heap.size 3 1 v (totI bl m) (is ((bl.map IBlk.l).take m).flatten) ∧ Below w.heap.size w wr) (fun _ i _ => bl.length - (intOf i).toNat)
      case atStart => exact ⟨0, Nat.zero_le _, rfl, ho1, hb⟩
      case round =>
        clear ho1 hb
        obtain ⟨m, hm, rfl, hown, hbw⟩ := hrel
        by_cases hlt : m < bl.length
        · obtain ⟨b1, o1, rfl⟩ := ha.some (k := m) (by simpa using hlt)
          have h1 : wr.cell? ⟨b1, o1 + m, none⟩ = some (.slice bl[m].a bl[m].l.length bl[m].cap) := (ha.below hbw (Nat.le_refl _)).at (by simp [hlt, IBlk.val])
          have hla := (hall bl[m] (by simp)).below hbw (Nat.le_refl _)
          have hsz := hbw.size
          have hs := totI_succ hlt
          have hle := totI_le bl (m + 1)
          have := HT.out
          have hb1 : totI bl m + bl[m].l.length ≤ 65536 := by omega
          have HS : Hid (totI bl (m + 1) = totI bl m + bl[m].l.length) := hs
          clear hs hle this
          cases had : bl[m].a with
          | none =>
            rw [had] at h1 hla
            have HE : Hid (bl[m].l = []) := liesI_none hla
            have h0 : bl[m].l.length = 0 := by rw [HE.out]; rfl
            rw [h0] at h1
            obtain ⟨p6, q6, rfl, hq6⟩ := own_slice hown
            have hq : p6 = none → q6 = 0 := fun e => by subst e; exact own_none hown
            have R : Hid (wr.ownsRow w.heap.size 3 1 (.slice p6 (totI bl m) q6) (totI bl (m + 1)) (is ((bl.map IBlk.l).take (m + 1)).flatten)) := by
              show wr.ownsRow w.heap.size 3 1 (.slice p6 (totI bl m) q6) (totI bl (m + 1)) (is ((bl.map IBlk.l).take (m + 1)).flatten)
              rw [HS.out, List.take_succ_eq_append_getElem (by simpa using hlt)]
              simpa [h0, HE.out] using hown
            clear had hla h0 hown hb1
            go_wp2_with (first | (at_builtin; refine Lib.wpList_append_run _ rfl _ _ _ _ rfl _ _ rfl rfl _ _ (run_append_nothing _ _ _ 3 i0 Tryd.underlying32 hi _ _ _ _ hq6) ?_) | go_in)
            go_roundw
            case rel => exact ⟨m + 1, by omega, by go_num, R.out, hbw⟩
            case measure => simp [intOf]; omega
          | some ad =>
            rw [had] at h1 hla
            clear had
            go_wp2_with (first | (at_builtin; refine wpList_append_own _ rfl _ _ 32 rfl w.heap.size 3 i0 (.int .i64 0) 1 8 Tryd.underlying32 hi hz0 hz1 hz2 rfl (by decide) _ _ _ rfl hown ad bl[m].l.length bl[m].cap (is bl[m].l) rfl ?c0 ?c1 ?c2 ?c3 ?c4 ?c5 ?_) | go_in)
            case c0 => simp [isl_length]
            case c1 => exact liesI_add hla
            case c2 =>
              intro u hu
              obtain ⟨x, _, rfl⟩ := List.mem_map.1 hu
              rfl
            case c3 => unfold maxLen; omega
            case c4 => omega
            case c5 => omega
            intro v' w1 hown' hgrow _
            have R := concatI_step hlt hbw hown hown' hgrow
            clear hown' hgrow hown hbw h1 hla
            go_wp2
            go_roundw
            case rel => exact ⟨m + 1, by omega, by go_num, R.1, R.2⟩
            case measure => simp [intOf]; omega
        · have HK : Hid (m = bl.length) := by have : m = bl.length := by omega
                                              exact this
          go_wp2
          go_ret
          refine ⟨_, rfl, ?_, hbw⟩
          have hk := HK.out
          subst hk
          unfold totI at hown
          rwa [List.take_of_length_le (by simp)] at hown

end Go.Proofs.YtkiejflgphjfjacDoor
