import Derived.Test.YtkiejflgphjfjacDoorPart7
import Derived.Test.YtkiejflgphjfjacDoorRows
import Derived.Test.YtkiejflgphjfjacDoorPart1
import Derived.Shelf.Sort.Plain
import Derived.Test.YtkiejflgphjfjacDoorProg
import Derived.Test.YtkiejflgphjfjacDoorPart13
import Derived.Sort.OwnSortedInts
import Derived.Deep.CutBlock
import Derived.Test.YtkiejflgphjfjacDoorPart4
import Derived.Deep.RegionHeld3
import Derived.Test.YtkiejflgphjfjacDoorPart2
import Derived.Test.YtkiejflgphjfjacDoorPart12
import Derived.Test.YtkiejflgphjfjacDoorPart11
/-
  The reference's CutUp: its contract.
-/
namespace Go.Proofs.YtkiejflgphjfjacDoor
open Go.RowKit
set_option linter.unusedVariables false
set_option linter.unusedSimpArgs false

/-- the value of a block's first j bytes, then noughts -/
def pieceTo (k i j : Nat) (c : List UInt8) (t : Nat) : Value := .int .u8 (((if t < j then (c[i * k + t]?).getD 0 else 0) : UInt8).toNat : Int)

theorem pieceTo_all {k i : Nat} {c : List UInt8} {t : Nat} (h : t < k) : pieceTo k i k c t = u8at (piece k i c) t := by
  simp [pieceTo, u8at, piece_get c h, h]

/-- the values of the blocks that are laid at A -/
def valsAt (A : Nat → Nat) (k m : Nat) : List Value := (List.range m).map fun j => .slice (some ⟨A j, 0, none⟩) k k

def UpInv (w wr : World) (g0 n k : Nat) (c : List UInt8) (v : Value) (m : Nat) : Prop :=
  ∃ A : Nat → Nat, wr.ownsRow (g0 + 1) 36 1 v m (valsAt A k m) ∧ (∀ j, j < m → wr.rowIs (A j) 5 k (u8at (piece k j c))) ∧ Boxed wr g0 n k ∧ Below w.heap.size w wr

/-- within a round: the block at g has its first t bytes -/
def UpMid (wr ws : World) (k m : Nat) (c : List UInt8) (t : Nat) : Prop := ws.rowIs wr.heap.size 5 k (pieceTo k m t c) ∧ Below wr.heap.size wr ws

theorem UpMid.start (wr : World) (k m : Nat) (c : List UInt8) : UpMid wr (wr.alloc (.cells (madeCells #[.int .u8 0] k) 5)) k m c 0 := by
  refine ⟨(World.rowIs_made wr _ k _).congr fun i hi => ?_, (Below.refl _ _).alloc (Nat.le_refl _) _⟩
  simp [pieceTo]

theorem UpMid.set {wr ws : World} {k m t : Nat} {c : List UInt8} (h : UpMid wr ws k m c t) (hc : m * k + t < c.length) : UpMid wr (ws.setCell ⟨wr.heap.size, t, none⟩ (.int .u8 (c[m * k + t].toNat : Int))) k m c (t + 1) := by
  refine ⟨(h.1.set t _).congr fun i hi => ?_, h.2.setCell (Nat.le_refl _) _⟩
  unfold pieceTo
  by_cases e : i = t
  · subst e
    simp [hc]
  · rw [if_neg e]
    by_cases h : i < t
    · rw [if_pos h, if_pos (by omega)]
    · rw [if_neg h, if_neg (by omega)]

theorem UpMid.skip {wr ws : World} {k m t : Nat} {c : List UInt8} (h : UpMid wr ws k m c t) (hc : ¬ m * k + t < c.length) : UpMid wr ws k m c (t + 1) := by
  refine ⟨h.1.congr fun i hi => ?_, h.2⟩
  unfold pieceTo
  by_cases e : i = t
  · subst e
    have : c[m * k + i]? = none := List.getElem?_eq_none (by omega)
    simp [this]
  · by_cases h : i < t
    · rw [if_pos h, if_pos (by omega)]
    · rw [if_neg h, if_neg (by omega)]

/-- a row of bytes is no row of blocks -/
theorem own_ne {w : World} {B : Nat} {v : Value} {n : Nat} {xs : List Value} (h : w.ownsRow B 36 1 v n xs) {b k : Nat} {f : Nat → Value} (hr : w.rowIs b 5 k f) : some b ≠ v.ownBlock := by
  rcases h.2 with ⟨rfl, _⟩ | ⟨g, cap, cur, rfl, hbg, hg, hnc, hcm, hcs, htake⟩
  · intro e; cases e
  · intro e
    simp only [Value.ownBlock, Option.some.injEq] at e
    subst e
    obtain ⟨c, hc, _⟩ := hr
    rw [hg] at hc
    simp at hc

theorem valsAt_succ {A : Nat → Nat} {k m b : Nat} : valsAt A k m ++ [.slice (some ⟨b, 0, none⟩) k k] = valsAt (fun j => if j = m then b else A j) k (m + 1) := by
  unfold valsAt
  rw [List.range_succ, List.map_append]
  congr 1
  · apply List.map_congr_left
    intro j hj
    have : j < m := by simpa using hj
    simp [show ¬ j = m by omega]
  · simp

theorem up_step {w wr ws w1 : World} {g0 n k m : Nat} {c : List UInt8} {v v' : Value} {A : Nat → Nat} {o : Obj} (hg0 : w.heap.size ≤ g0) (h1 : wr.ownsRow (g0 + 1) 36 1 v m (valsAt A k m)) (h2 : ∀ j, j < m → wr.rowIs (A j) 5 k (u8at (piece k j c))) (h3 : Boxed wr g0 n k) (h4 : Below w.heap.size w wr)
    (hm : UpMid wr ws k m c k) (ho : w1.ownsRow (g0 + 1) 36 1 v' (m + 1) (valsAt A k m ++ [.slice (some ⟨wr.heap.size, 0, none⟩) k k])) (hg : (ws.alloc o).grownBy w1 v.ownBlock) : UpInv w w1 g0 n k c v' (m + 1) := by
  obtain ⟨m1, m2⟩ := hm
  have m3 : (ws.alloc o).rowIs wr.heap.size 5 k (pieceTo k m k c) := m1.alloc o
  have b1 : Below wr.heap.size wr (ws.alloc o) := m2.alloc m2.size o
  have o1 := own_below h1 b1
  refine ⟨fun j => if j = m then wr.heap.size else A j, by rw [← valsAt_succ]; exact ho, fun j hj => ?_, ?_, ?_⟩
  · by_cases e : j = m
    · subst e
      simp only [if_pos]
      exact (m3.of_block (hg.block _ m3.lt (own_ne o1 m3))).congr fun i hi => pieceTo_all hi
    · simp only [if_neg e]
      have r := h2 j (by omega)
      have r2 : (ws.alloc o).rowIs (A j) 5 k (u8at (piece k j c)) := r.of_block (b1.block _ r.lt)
      exact r2.of_block (hg.block _ r2.lt (own_ne o1 r2))
  · have x := h3.below b1
    have hne : some g0 ≠ v.ownBlock := fun e => by
      have := (o1.lt g0 e.symm).1
      omega
    have hlt := World.block_lt_of_cell? _ _ x.1
    have hcell : ∀ i, w1.cell? ⟨g0, i, none⟩ = (ws.alloc o).cell? ⟨g0, i, none⟩ := fun i => by
      simp only [World.cell?]
      rw [hg.block g0 hlt hne]
    exact ⟨by rw [hcell]; exact x.1, by rw [hcell]; exact x.2⟩
  · have b2 : Below w.heap.size w (ws.alloc o) := h4.trans (b1.mono h4.size)
    exact b2.grown hg b2.size fun g hg' => by have := (o1.lt g hg').1; omega

def upBl (A : Nat → Nat) (nb k : Nat) (c : List UInt8) : List Blk := (List.range nb).map fun j => ⟨some ⟨A j, 0, none⟩, k, piece k j c⟩

theorem upBl_val (A : Nat → Nat) (nb k : Nat) (c : List UInt8) : (upBl A nb k c).map Blk.val = valsAt A k nb := by
  simp [upBl, valsAt, Blk.val, piece_length, Function.comp_def]

theorem upBl_l (A : Nat → Nat) (nb k : Nat) (c : List UInt8) : (upBl A nb k c).map Blk.l = cutL nb k c := by
  simp [upBl, cutL, Function.comp_def]

end Go.Proofs.YtkiejflgphjfjacDoor

/-
  slices.Index and slices.Contains at ints: the contract of each.
-/
namespace Go.Proofs.YtkiejflgphjfjacDoor
open Go.RowKit
set_option linter.unusedVariables false
set_option linter.unusedSimpArgs false

theorem not_in_next {xs : List Int} {k : Nat} {v : Int} (h : ¬ v ∈ xs.take k) (hk : k < xs.length) (hne : ¬ v = xs[k]) : ¬ v ∈ xs.take (k + 1) := by
  rw [List.take_succ_eq_append_getElem hk]
  intro hm
  rcases List.mem_append.1 hm with hm | hm
  · exact h hm
  · exact hne (List.mem_singleton.1 hm)

theorem index_any (a : Option Addr) (cap : Nat) (xs : List Int) (v : Int) (w : World) (hx : xs.length ≤ maxLen) (ha : Lies w a (xs.map (Value.int .i64))) :
    Calls Tryd.prog 82 #[.slice a xs.length cap, .int .i64 v] w fun e w' => (∃ r : Int, e = .returned (.int .i64 r) ∧ decide (0 ≤ r) = decide (v ∈ xs)) ∧ w = w' := by
  unfold maxLen at hx
  go_enter Tryd.func82, Tryd.ntmps82
  go_wp2
  go_loopw [8] (fun i wr => ∃ k : Nat, k ≤ xs.length ∧ i = .int .i64 k ∧ wr = w ∧ Shut (¬ v ∈ xs.take k)) (fun i _ => xs.length - (intOf i).toNat)
  case atStart => exact ⟨0, Nat.zero_le _, rfl, rfl, ⟨by simp⟩⟩
  case round =>
    obtain ⟨k, hk, rfl, rfl, HN⟩ := hrel
    by_cases hlt : k < xs.length
    · obtain ⟨b1, o1, rfl⟩ := ha.some (k := k) (by simpa using hlt)
      have c1 : wr.cell? ⟨b1, o1 + k, none⟩ = some (.int .i64 xs[k]) := ha.at (by simp [hlt])
      have HM : Shut (xs[k] ∈ xs) := ⟨List.getElem_mem hlt⟩
      have HX : Shut (∀ h : ¬ v = xs[k], ¬ v ∈ xs.take (k + 1)) := ⟨fun h => not_in_next HN.out hlt h⟩
      clear ha HN
      generalize xs[k] = y at *
      by_cases hy : v = y
      · have hy2 : (v == y) = true := by simpa using hy
        have HY : Shut (v = y) := ⟨hy⟩
        clear hy HX
        go_wp2
        go_ret
        refine ⟨⟨_, rfl, ?_⟩, rfl⟩
        rw [HY.out, decide_eq_true HM.out]
        simp
      · have hy2 : (v == y) = false := by simpa using hy
        have HN := Shut.mk (HX.out hy)
        clear hy HX HM
        go_wp2
        go_roundw
        case rel => exact ⟨k + 1, by omega, by go_num, trivial, HN⟩
        case measure => simp [intOf]; omega
    · have HE : Shut (¬ v ∈ xs) := ⟨by have h := HN.out; rwa [List.take_of_length_le (by omega)] at h⟩
      clear ha HN
      go_wp2
      go_ret
      exact ⟨⟨_, rfl, by rw [decide_eq_false HE.out]; rfl⟩, rfl⟩

theorem contains_any (a : Option Addr) (cap : Nat) (xs : List Int) (v : Int) (w : World) (hx : xs.length ≤ maxLen) (ha : Lies w a (xs.map (Value.int .i64))) :
    Calls Tryd.prog 64 #[.slice a xs.length cap, .int .i64 v] w fun e w' => e = .returned (.bool (decide (v ∈ xs))) ∧ w = w' := by
  go_enter Tryd.func64, Tryd.ntmps64
  go_wp2_with fail
  refine (index_any a cap xs v w hx ha).mono ?_
  rintro e w1 ⟨⟨r, rfl, hr⟩, rfl⟩
  have HR := Shut.mk hr
  clear hr ha hx
  go_wp2
  all_goals go_ret
  all_goals exact ⟨retB (by rw [← HR.out]), rfl⟩

end Go.Proofs.YtkiejflgphjfjacDoor

/-
  The library's sort at this program: the contract of slices.Sort, laid by program in plain words.
-/
namespace Go.Proofs
open Go.Shelf
def Tryd.lays189_ren : Go.Shelf.Ren := ⟨fun | 189 => 65 | 125 => 84 | 257 => 83 | 128 => 100 | 129 => 101 | 294 => 91 | 295 => 92 | 296 => 93 | 297 => 94 | 298 => 95 | 299 => 96 | 216 => 97 | 300 => 98 | 301 => 99 | 328 => 103 | 329 => 104 | 330 => 105 | 331 => 106 | 332 => 107 | 215 => 108 | 343 => 110 | n => n, fun | 28 => 32 | 3 => 3 | 46 => 116 | 0 => 0 | 51 => 133 | 53 => 135 | 4 => 4 | 183 => 125 | 182 => 124 | 131 => 130 | 5 => 5 | 9 => 9 | 218 => 136 | 222 => 140 | 228 => 143 | 229 => 144 | n => n, fun | n => n⟩
theorem Tryd.lays189 : Go.Proofs.Lays.n189 Tryd.prog Tryd.lays189_ren := {
  mixed := by kernel_rfl
  f125 := Tryd.func84.trans (congrArg some (by kernel_rfl))
  f128 := Tryd.func100.trans (congrArg some (by kernel_rfl))
  f129 := Tryd.func101.trans (congrArg some (by kernel_rfl))
  f189 := Tryd.func65.trans (congrArg some (by kernel_rfl))
  f215 := Tryd.func108.trans (congrArg some (by kernel_rfl))
  f216 := Tryd.func97.trans (congrArg some (by kernel_rfl))
  f257 := Tryd.func83.trans (congrArg some (by kernel_rfl))
  f294 := Tryd.func91.trans (congrArg some (by kernel_rfl))
  f295 := Tryd.func92.trans (congrArg some (by kernel_rfl))
  f296 := Tryd.func93.trans (congrArg some (by kernel_rfl))
  f297 := Tryd.func94.trans (congrArg some (by kernel_rfl))
  f298 := Tryd.func95.trans (congrArg some (by kernel_rfl))
  f299 := Tryd.func96.trans (congrArg some (by kernel_rfl))
  f300 := Tryd.func98.trans (congrArg some (by kernel_rfl))
  f301 := Tryd.func99.trans (congrArg some (by kernel_rfl))
  f328 := Tryd.func103.trans (congrArg some (by kernel_rfl))
  f329 := Tryd.func104.trans (congrArg some (by kernel_rfl))
  f330 := Tryd.func105.trans (congrArg some (by kernel_rfl))
  f331 := Tryd.func106.trans (congrArg some (by kernel_rfl))
  f332 := Tryd.func107.trans (congrArg some (by kernel_rfl))
  f343 := Tryd.func110.trans (congrArg some (by kernel_rfl))
  t0 := Tryd.underlying0
  a0 := Tryd.isAgg0
  z0 := Tryd.sizeOf0
  v0 := Tryd.zeroValue0
  t3 := Tryd.underlying3
  a3 := Tryd.isAgg3
  z3 := Tryd.sizeOf3
  v3 := Tryd.zeroValue3
  t4 := Tryd.underlying4
  a4 := Tryd.isAgg4
  z4 := Tryd.sizeOf4
  v4 := Tryd.zeroValue4
  t5 := Tryd.underlying5
  a5 := Tryd.isAgg5
  z5 := Tryd.sizeOf5
  v5 := Tryd.zeroValue5
  t9 := Tryd.underlying9
  a9 := Tryd.isAgg9
  z9 := Tryd.sizeOf9
  v9 := Tryd.zeroValue9
  t28 := Tryd.underlying32
  a28 := Tryd.isAgg32
  z28 := Tryd.sizeOf32
  v28 := Tryd.zeroValue32
  t46 := Tryd.underlying116
  a46 := Tryd.isAgg116
  z46 := Tryd.sizeOf116
  v46 := Tryd.zeroValue116
  t51 := Tryd.underlying133
  a51 := Tryd.isAgg133
  z51 := Tryd.sizeOf133
  v51 := Tryd.zeroValue133
  t53 := Tryd.underlying135
  a53 := Tryd.isAgg135
  z53 := Tryd.sizeOf135
  v53 := Tryd.zeroValue135
  t131 := Tryd.underlying130
  a131 := Tryd.isAgg130
  z131 := Tryd.sizeOf130
  v131 := Tryd.zeroValue130
  t182 := Tryd.underlying124
  a182 := Tryd.isAgg124
  z182 := Tryd.sizeOf124
  v182 := Tryd.zeroValue124
  t183 := Tryd.underlying125
  a183 := Tryd.isAgg125
  z183 := Tryd.sizeOf125
  v183 := Tryd.zeroValue125
  t218 := Tryd.underlying136
  a218 := Tryd.isAgg136
  z218 := Tryd.sizeOf136
  v218 := Tryd.zeroValue136
  t222 := Tryd.underlying140
  a222 := Tryd.isAgg140
  z222 := Tryd.sizeOf140
  v222 := Tryd.zeroValue140
  t228 := Tryd.underlying143
  a228 := Tryd.isAgg143
  z228 := Tryd.sizeOf143
  v228 := Tryd.zeroValue143
  t229 := Tryd.underlying144
  a229 := Tryd.isAgg144
  z229 := Tryd.sizeOf144
  v229 := Tryd.zeroValue144 }
open Go.Sort Go.RowKit in
theorem Tryd.slices_Sort_int (blk off cap : Nat) (zs : List Int) (w : World) (hH : Holds (Value.int .i64) w blk off zs.toArray) (hblk : blk < w.heap.size) (hsz : zs.length < 4611686018427387904) :
    Calls Tryd.prog 65 #[.slice (some ⟨blk, off, none⟩) zs.length cap] w fun e w' =>
      e = .returned (.tuple #[]) ∧ ∃ n os, w' = grow (putRow (Value.int .i64) (Sort.ahead w n) blk off (zs.mergeSort fun x y => decide (x ≤ y)).toArray) os := Any.slices_Sort_int Tryd.lays189 blk off cap zs w hH hblk hsz
end Go.Proofs

/-
  The reference's Picked: its contract.
-/
namespace Go.Proofs.YtkiejflgphjfjacDoor
open Go.RowKit
set_option linter.unusedVariables false
set_option linter.unusedSimpArgs false

/-- numbers as Go's ints -/
def ints (l : List Nat) : List Int := l.map fun k : Nat => (k : Int)

theorem ints_length (l : List Nat) : (ints l).length = l.length := by simp [ints]

theorem mem_ints {l : List Nat} {k : Nat} : (k : Int) ∈ ints l ↔ k ∈ l := by
  unfold ints
  rw [List.mem_map]
  constructor
  · rintro ⟨j, hj, e⟩
    obtain rfl : j = k := by omega
    exact hj
  · exact fun h => ⟨k, h, rfl⟩

theorem infoI : (Tryd.prog.info? 3).map (fun i => (i.zero, i.size, i.bytes)) = some (some (.int .i64 0), 1, 8) := by kernel_rfl

theorem refPicked_bad (id b : Int) (w : World) (h : OutOf id b) :
    Calls Tryd.prog 38 #[.int .i64 id, .int .i64 b] w fun e w' => e = .returned (.tuple #[.slice none 0 0, .int .i64 3]) ∧ w = w' := by
  by_cases h1 : 0 ≤ id ∧ id ≤ 9999
  · have h2 : ¬ (1 ≤ b ∧ b ≤ 24) := by unfold OutOf at h; omega
    have H1 := Shut.mk (decide_eq_true h1)
    have H2 := Shut.mk (decide_eq_false h2)
    clear h1 h2 h
    go_enter Tryd.func38, Tryd.ntmps38
    go_wp2_with fail
    refine (in_any id 0 9999 _).mono ?_
    rintro e w1 ⟨rfl, rfl⟩
    rw [H1.out]
    go_wp2_with fail
    refine (in_any b 1 24 _).mono ?_
    rintro e w1 ⟨rfl, rfl⟩
    rw [H2.out]
    go_wp2
    go_ret2
    exact ⟨rfl, rfl⟩
  · have H1 := Shut.mk (decide_eq_false h1)
    clear h1 h
    go_enter Tryd.func38, Tryd.ntmps38
    go_wp2_with fail
    refine (in_any id 0 9999 _).mono ?_
    rintro e w1 ⟨rfl, rfl⟩
    rw [H1.out]
    go_wp2
    go_ret2
    exact ⟨rfl, rfl⟩

theorem refPicked_low (i b : Nat) (w : World) (hi : i ≤ 9999) (h1 : 1 ≤ b) (hb : b ≤ 24) (hlt : i < b) :
    Calls Tryd.prog 38 #[.int .i64 i, .int .i64 b] w fun e w' => ∃ (a : Option Addr) (cap : Nat) (L : List Int), e = .returned (.tuple #[.slice a L.length cap, .int .i64 0]) ∧ Lies w' a (L.map (Value.int .i64)) ∧ L.Perm (ints (chosen b i)) ∧ Below w.heap.size w w' := by
  have H1 : Shut (decide ((0 : Int) ≤ (i : Int) ∧ (i : Int) ≤ 9999) = true) := ⟨decide_eq_true (by omega)⟩
  have H2 : Shut (decide ((1 : Int) ≤ (b : Int) ∧ (b : Int) ≤ 24) = true) := ⟨decide_eq_true (by omega)⟩
  go_enter Tryd.func38, Tryd.ntmps38
  go_wp2_with fail
  refine (in_any i 0 9999 _).mono ?_
  rintro e w1 ⟨rfl, rfl⟩
  rw [H1.out]
  go_wp2_with fail
  refine (in_any b 1 24 _).mono ?_
  rintro e w1 ⟨rfl, rfl⟩
  rw [H2.out]
  go_wp2
  go_ret2
  refine ⟨_, 1, [(i : Int)], rfl, Lies.alloc_new _ _ _, ?_, (Below.refl _ _).alloc (Nat.le_refl _) _⟩
  rw [chosen_low hlt]
  exact List.Perm.refl _

/-- the list's state after n steps -/
def LInv (w wr : World) (v : Value) (b x0 n : Nat) : Prop := wr.ownsRow w.heap.size 3 1 v (coll b x0 n).length ((ints (coll b x0 n)).map (Value.int .i64)) ∧ Below w.heap.size w wr

/-- how many a slice has -/
def lenOf : Value → Nat
  | .slice _ n _ => n
  | _ => 0

/-- slices.Sort of ints that lie in memory of the call's own -/
theorem sort_own {w : World} {B : Nat} {v : Value} {zs : List Int} {n : Nat} (hn : n = zs.length) (h : w.ownsRow B 3 1 v n (zs.map (Value.int .i64))) (hp : 0 < n) (hbig : n < 4611686018427387904) :
    Calls Tryd.prog 65 #[v] w fun e w' => e = .returned (.tuple #[]) ∧ ∃ ts : List Int, ts.Perm zs ∧ w'.ownsRow B 3 1 v n (ts.map (Value.int .i64)) ∧ w.grownBy w' v.ownBlock := by
  subst hn
  rcases h.2 with ⟨rfl, h0⟩ | ⟨g, cap, cur, rfl, hb, hg, hnc, hcm, hcs, htake⟩
  · omega
  · have hlt : g < w.heap.size := (Array.getElem?_eq_some_iff.1 hg).1
    refine (Tryd.slices_Sort_int g 0 cap zs w (holds_of_blockI hg (by simpa using htake)) hlt hbig).mono ?_
    rintro e w' ⟨rfl, nn, os, rfl⟩
    refine ⟨rfl, zs.mergeSort fun x y => decide (x ≤ y), List.mergeSort_perm _ _, ?_, ?_⟩
    · exact ownsRow_sortedI (by simp) hb hg hnc hcm hcs
    · exact grownBy_sortedI _

theorem LInv.new {w wr w4 : World} {v v' : Value} {b x0 n k : Nat} (hB : w.heap.size ≤ wr.heap.size) (hb : Below w.heap.size w wr)
    (ho : wr.ownsRow w.heap.size 3 1 v (coll b x0 n).length ((ints (coll b x0 n)).map (Value.int .i64))) (o : Obj)
    (ho' : w4.ownsRow w.heap.size 3 1 v' ((coll b x0 n).length + 1) ((ints (coll b x0 n)).map (Value.int .i64) ++ [.int .i64 k])) (hg : (wr.alloc o).grownBy w4 v.ownBlock)
    (hc : coll b x0 (n + 1) = coll b x0 n ++ [k]) : LInv w w4 v' b x0 (n + 1) := by
  unfold LInv
  rw [hc]
  refine ⟨?_, ?_⟩
  · simpa [ints] using ho'
  · refine (hb.alloc hB o).grown hg (by simp; omega) ?_
    intro g hg'
    exact (ho.lt g hg').1

set_option maxHeartbeats 1000000 in
theorem refPicked_high (i b : Nat) (w : World) (hi : i ≤ 9999) (h1 : 1 ≤ b) (hb : b ≤ 24) (hge : b ≤ i) :
    Calls Tryd.prog 38 #[.int .i64 i, .int .i64 b] w fun e w' => ∃ (a : Option Addr) (cap : Nat) (L : List Int), e = .returned (.tuple #[.slice a L.length cap, .int .i64 0]) ∧ Lies w' a (L.map (Value.int .i64)) ∧ L.Perm (ints (chosen b i)) ∧ Below w.heap.size w w' := by
  have H1 : Shut (decide ((0 : Int) ≤ (i : Int) ∧ (i : Int) ≤ 9999) = true) := ⟨decide_eq_true (by omega)⟩
  have H2 : Shut (decide ((1 : Int) ≤ (b : Int) ∧ (b : Int) ≤ 24) = true) := ⟨decide_eq_true (by omega)⟩
  have HX0 := nx_small i
  have HM1 : Shut (many b (nx i) ≤ b) := ⟨many_le h1 (nx i)⟩
  have HM2 : Shut (1 ≤ many b (nx i)) := ⟨many_pos h1 (nx i)⟩
  have HC : Shut (∀ n, (coll b (nx i) n).length = many b (nx i) → chosen b i = coll b (nx i) n) := ⟨fun n hn => chosen_high (by omega) hn⟩
  have HMA : Shut (∀ k, k < 5 → (∀ j, j < k → lim.getD j 0 ≤ nx i) → nx i < lim.getD k 0 → many b (nx i) = min (k + 1) b) := ⟨fun k hk hlo hx => many_at hk hlo hx⟩
  have HME : Shut ((∀ j, j < 5 → lim.getD j 0 ≤ nx i) → many b (nx i) = max (b / 2) 1) := ⟨many_end⟩
  have hnx : ((i : Int) * 1109 + 12345) % 65536 = ((nx i : Nat) : Int) := by simp [nx]
  go_enter Tryd.func38, Tryd.ntmps38
  go_wp2_with fail
  refine (in_any i 0 9999 _).mono ?_
  rintro e w1 ⟨rfl, rfl⟩
  rw [H1.out]
  go_wp2_with fail
  refine (in_any b 1 24 _).mono ?_
  rintro e w1 ⟨rfl, rfl⟩
  rw [H2.out]
  clear H1 H2
  generalize nx i = x0 at *
  go_upto_region 6 with fail
  go_cut [6, 7] from 12 (fun s6 s7 wc => s6 = .int .i64 x0 ∧ s7 = .int .i64 (max (b / 2) 1 : Nat) ∧ w = wc)
  case first =>
    go_wp2
    all_goals go_meet
    all_goals exact ⟨congrArg (Value.int .i64) hnx, congrArg (Value.int .i64) (by omega), rfl⟩
  case rest =>
    obtain ⟨rfl, rfl, rfl⟩ := hcut
    clear hnx
    go_upto_block 0 with fail
    have hlw := Lies.alloc_new w #[.int .i64 8192, .int .i64 40960, .int .i64 51882, .int .i64 57344, .int .i64 60621] 3
    have hbw : Below w.heap.size w (w.alloc (.cells #[.int .i64 8192, .int .i64 40960, .int .i64 51882, .int .i64 57344, .int .i64 60621] 3)) := (Below.refl _ _).alloc (Nat.le_refl _) _
    obtain ⟨w2, hw2⟩ : ∃ w2, w.alloc (.cells #[.int .i64 8192, .int .i64 40960, .int .i64 51882, .int .i64 57344, .int .i64 60621] 3) = w2 := ⟨_, rfl⟩
    rw [hw2] at hlw hbw ⊢
    clear hw2
    go_cut [7] from 12 (fun s7 wd => s7 = .int .i64 (many b x0 : Nat) ∧ w2 = wd)
    case first =>
      go_wp2_with fail
      go_loopw [34, 7] (fun i m wr => ∃ k : Nat, k ≤ 5 ∧ i = .int .i64 k ∧ m = .int .i64 (max (b / 2) 1 : Nat) ∧ wr = w2 ∧ Shut (∀ j, j < k → lim.getD j 0 ≤ x0)) (fun i _ _ => 5 - (intOf i).toNat)
      case atStart => exact ⟨0, Nat.zero_le _, rfl, rfl, rfl, ⟨fun j hj => by omega⟩⟩
      case round =>
        obtain ⟨k, hk, rfl, rfl, rfl, HL⟩ := hrel
        by_cases hlt : k < 5
        · obtain ⟨L, hLk⟩ : ∃ L : Int, L = lim.getD k 0 := ⟨_, rfl⟩
          have c1 : wr.cell? ⟨w.heap.size, k, none⟩ = some (.int .i64 L) := by
            have h5 : k = 0 ∨ k = 1 ∨ k = 2 ∨ k = 3 ∨ k = 4 := by omega
            have h := hlw.at (k := k) (u := .int .i64 L) (by rw [hLk]; rcases h5 with rfl | rfl | rfl | rfl | rfl <;> rfl)
            simpa using h
          by_cases hx2 : x0 < lim.getD k 0
          · have HM : Shut (many b x0 = min (k + 1) b) := ⟨HMA.out k hlt HL.out hx2⟩
            have hx3 : (x0 : Int) < L := by omega
            have hk5 : (k : Int) < 5 := by omega
            clear hLk hx2 hlw HL
            go_wp2
            all_goals go_meet
            all_goals exact ⟨congrArg (Value.int .i64) (by rw [HM.out]; omega), rfl⟩
          · have HN : Shut (∀ j, j < k + 1 → lim.getD j 0 ≤ x0) := ⟨fun j hj => by
              by_cases e : j = k
              · subst e; omega
              · exact HL.out j (by omega)⟩
            have hx3 : L ≤ (x0 : Int) := by omega
            have hk5 : (k : Int) < 5 := by omega
            clear hLk hx2 hlw HL
            go_wp2
            exact ⟨⟨k + 1, by omega, by go_num, rfl, trivial, HN⟩, by simp [intOf]; omega⟩
        · obtain rfl : k = 5 := by omega
          have HM : Shut (many b x0 = max (b / 2) 1) := ⟨HME.out HL.out⟩
          clear HL
          go_wp2
          go_meet
          exact ⟨congrArg (Value.int .i64) (by rw [HM.out]), rfl⟩
    case rest =>
      obtain ⟨rfl, rfl⟩ := hcut
      clear hlw
      generalize many b x0 = m at *
      have H0 : Shut (LInv w w2 (.slice none 0 0) b x0 0) := ⟨World.ownsRow_nil _ _ _ _, hbw⟩
      obtain ⟨i0, hin, hz0, hz1, hz2⟩ := info_parts infoI
      clear HMA HME hbw
      go_wp2
      go_loopw [6, 10] (fun x v wr => ∃ n : Nat, (coll b x0 n).length ≤ m ∧ x = .int .i64 (it n x0 : Nat) ∧ Shut (LInv w wr v b x0 n)) (fun x v _ => toGo b x0 m (m - lenOf v) (intOf x).toNat)
      case atStart => exact ⟨0, Nat.zero_le _, rfl, H0⟩
      case round =>
        clear H0
        obtain ⟨n, hn, rfl, hI⟩ := hrel
        obtain ⟨p, q, rfl, hpq⟩ := own_slice hI.out.1
        have hla : Lies wr p ((ints (coll b x0 n)).map (Value.int .i64)) := by
          obtain ⟨a', c', e', h', _⟩ := own_lies hI.out.1
          cases e'
          exact h'
        by_cases hlt : (coll b x0 n).length < m
        · have HN : Shut ((coll b x0 n).length < m) := ⟨hlt⟩
          have hmb : m ≤ 24 := by have := HM1.out; omega
          have HS := it_small HX0 n
          clear hn
          generalize hxe : it n x0 = x at *
          have HXE : Shut (it n x0 = x) := ⟨hxe⟩
          have hC : ∀ k : Nat, Calls Tryd.prog 64 #[.slice p (coll b x0 n).length q, .int .i64 k] wr fun e w' => e = .returned (.bool (decide (k ∈ coll b x0 n))) ∧ wr = w' := by
            intro k
            have h := contains_any p q (ints (coll b x0 n)) k wr (by rw [ints_length]; unfold maxLen; omega) hla
            rw [ints_length] at h
            refine h.mono ?_
            rintro e w1 ⟨rfl, rfl⟩
            exact ⟨retB (by simp only [mem_ints]), rfl⟩
          obtain ⟨y, hy⟩ : ∃ y, nx x = y := ⟨_, rfl⟩
          have hq1 : ((x : Int) * 1109 + 12345) % 65536 = (y : Int) := by rw [← hy]; simp [nx]
          have HY : Shut (nx x = y) := ⟨hy⟩
          have hyb : y < 1000000 := by rw [← hy]; have := nx_lt x; omega
          have hxb : x < 1000000 := by have := HS.lt; omega
          clear hy hxe
          obtain ⟨k, hk⟩ : ∃ k, y / 7 % b = k := ⟨_, rfl⟩
          have hq2 : (y : Int) / 7 % (b : Int) = (k : Int) := by rw [← hk]; simp
          have hkb : k < b := by rw [← hk]; exact Nat.mod_lt _ (by omega)
          have HK : Shut (y / 7 % b = k) := ⟨hk⟩
          have hC := hC k
          clear hk hla
          go_wp2_with fail
          refine hC.mono ?_
          rintro e w3 ⟨rfl, rfl⟩
          clear hC
          simp only [hq1, hq2]
          have hown := hI.out.1
          have hbe := hI.out.2
          have hsz := hbe.size
          by_cases hin' : k ∈ coll b x0 n
          · rw [decide_eq_true hin']
            have HIN : Shut (k ∈ coll b x0 n) := ⟨hin'⟩
            clear hin' hown hbe hsz
            go_wp2
            obtain ⟨s1, s2, s3⟩ := step_old hb HM1 HN HXE ⟨rfl⟩ HY HK HIN
            refine ⟨⟨n + 1, by rw [s1]; exact Nat.le_of_lt HN.out, by rw [s2], ⟨?_⟩⟩, s3⟩
            have h := hI.out
            unfold LInv at h ⊢
            rw [s1]
            exact h
          · rw [decide_eq_false hin']
            have HIN : Shut (¬ k ∈ coll b x0 n) := ⟨hin'⟩
            clear hin'
            go_wp2_with (first | (at_builtin; refine wpList_append_own _ rfl _ _ 32 rfl w.heap.size 3 i0 (.int .i64 0) 1 8 Tryd.underlying32 hin hz0 hz1 hz2 rfl (by decide) _ _ _ rfl (hown.alloc _) ⟨wr.heap.size, 0, none⟩ 1 1 [.int .i64 k] rfl rfl ?c1 ?c2 ?c3 ?c4 ?c5 ?_) | go_in)
            case c1 =>
              intro j u hj
              match j, hj with
              | 0, hj => simp at hj; subst hj; simp [Addr.add]
            case c2 => intro u hu; simp at hu; subst hu; rfl
            case c3 => unfold maxLen; omega
            case c4 => omega
            case c5 => simp; omega
            intro v' w4 hown' hgrow _
            have R := LInv.new hsz hbe hown _ hown' hgrow (step_new HN HXE ⟨rfl⟩ HY HK HIN).1
            obtain ⟨p2, q2, rfl, hpq2⟩ := own_slice hown'
            clear hown' hgrow hown hbe
            go_wp2
            obtain ⟨s1, s2, s3⟩ := step_new HN HXE ⟨rfl⟩ HY HK HIN
            have hN := HN.out
            refine ⟨⟨n + 1, by rw [s1]; simp; omega, by rw [s2], ⟨R⟩⟩, ?_⟩
            show toGo b x0 m (m - ((coll b x0 n).length + 1)) _ < _
            rw [show m - ((coll b x0 n).length + 1) = m - (coll b x0 n).length - 1 by omega]
            exact s3
        · have HE : Shut ((coll b x0 n).length = m) := ⟨by omega⟩
          have hwm : ¬ ((coll b x0 n).length : Int) < (m : Int) := by omega
          clear hn hlt hla
          generalize it n x0 = x at *
          go_wp2_with fail
          have hm2 := HM2.out
          have hm1 := HM1.out
          have hE := HE.out
          refine (sort_own (ints_length _).symm hI.out.1 (by omega) (by omega)).mono ?_
          rintro e w4 ⟨rfl, ts, hperm, hown, hgr⟩
          have HR : Shut ((∃ (a : Option Addr) (cap : Nat) (L : List Int), (Value.slice p (coll b x0 n).length q) = .slice a L.length cap ∧ Lies w4 a (L.map (Value.int .i64)) ∧ L.Perm (ints (chosen b i))) ∧ Below w.heap.size w w4) := by
            obtain ⟨a', c', e', h', hl'⟩ := own_lies hown
            refine ⟨⟨a', c', ts, ?_, h', by rw [HC.out n hE]; exact hperm⟩, ?_⟩
            · rw [e']
              simpa using hl'
            · exact hI.out.2.grown hgr hI.out.2.size fun g hg' => (hI.out.1.lt g hg').1
          clear hperm hown hgr hI HC HE hm1 hm2 hE
          go_wp2
          go_ret2
          obtain ⟨⟨a, cap, L, h1', h2', h3'⟩, h4'⟩ := HR.out
          exact ⟨a, cap, L, ret2 h1' rfl, h2', h3', h4'⟩

/-- the reference's Picked -/
theorem refPicked_any (i b : Nat) (w : World) (hi : i ≤ 9999) (h1 : 1 ≤ b) (hb : b ≤ 24) :
    Calls Tryd.prog 38 #[.int .i64 i, .int .i64 b] w fun e w' => ∃ (a : Option Addr) (cap : Nat) (L : List Int), e = .returned (.tuple #[.slice a L.length cap, .int .i64 0]) ∧ Lies w' a (L.map (Value.int .i64)) ∧ L.Perm (ints (chosen b i)) ∧ Below w.heap.size w w' := by
  by_cases h : i < b
  · exact refPicked_low i b w hi h1 hb h
  · exact refPicked_high i b w hi h1 hb (by omega)

end Go.Proofs.YtkiejflgphjfjacDoor

/-
  The reference's SymbolOf: its contract.
-/
namespace Go.Proofs.YtkiejflgphjfjacDoor
open Go.RowKit
set_option linter.unusedVariables false
set_option linter.unusedSimpArgs false

theorem symCode_cut {B K id : Int} {c : List UInt8} (h : cutCode B K c ≠ 0) : symCode B K c id = cutCode B K c := if_pos h
theorem symCode_id {B K id : Int} {c : List UInt8} (h : cutCode B K c = 0) (hi : id < 0 ∨ 9999 < id) : symCode B K c id = 3 := by rw [symCode, if_neg (by simp [h]), if_pos hi]
theorem symCode_ok {B K id : Int} {c : List UInt8} (h : cutCode B K c = 0) (hi : ¬ (id < 0 ∨ 9999 < id)) : symCode B K c id = 0 := by rw [symCode, if_neg (by simp [h]), if_neg hi]

/-- the second box is the call's own to write -/
theorem frozen2 {w w1 : World} {o : Obj} {cs : Array Value} {u : TypeId} (hb : Below ((w.alloc o).alloc (.cells cs u)).heap.size ((w.alloc o).alloc (.cells cs u)) w1) :
    ∀ j, w1.frozen? ⟨w.heap.size + 1, j, none⟩ = false := by
  intro j
  rw [(bcell hb).2 _ _ (by simp)]
  have e : ((w.alloc o).alloc (.cells cs u)).heap[w.heap.size + 1]? = some (.cells cs u (0, 0)) := by rw [heap_alloc_eq, if_pos (by simp)]
  simp only [World.frozen?, e]
  simp

/-- both cells of a box, written -/
theorem set2 {w1 : World} {g : Nat} {u v : Value} (h0 : w1.cell? ⟨g, 0, none⟩ = some u) (h1 : w1.cell? ⟨g, 1, none⟩ = some v) (u' v' : Value) :
    ((w1.setCell ⟨g, 0, none⟩ u').setCell ⟨g, 1, none⟩ v').cell? ⟨g, 0, none⟩ = some u' ∧ ((w1.setCell ⟨g, 0, none⟩ u').setCell ⟨g, 1, none⟩ v').cell? ⟨g, 1, none⟩ = some v' := by
  have e0 : (w1.setCell ⟨g, 0, none⟩ u').cell? ⟨g, 0, none⟩ = some u' := World.cell?_setCell_same _ _ _ h0
  have e1 : (w1.setCell ⟨g, 0, none⟩ u').cell? ⟨g, 1, none⟩ = some v := by rw [World.cell?_setCell_other _ _ _ _ (by intro e; cases e)]; exact h1
  exact ⟨by rw [World.cell?_setCell_other _ _ _ _ (by intro e; cases e)]; exact e0, World.cell?_setCell_same _ _ _ e1⟩

theorem sizes2 {w w1 : World} {o : Obj} {o2 : Obj} (hb : Below ((w.alloc o).alloc o2).heap.size ((w.alloc o).alloc o2) w1) : w.heap.size + 1 < w1.heap.size := by
  have := hb.size
  simp at this
  omega

theorem perm_ints {L : List Int} {m : List Nat} (h : L.Perm (ints m)) : ∃ l, L = ints l ∧ l.Perm m := by
  have hc : ∀ x ∈ L, ((x.toNat : Nat) : Int) = x := fun x hx => by
    obtain ⟨j, _, rfl⟩ := List.mem_map.1 (h.mem_iff.1 hx)
    simp
  refine ⟨L.map Int.toNat, ?_, ?_⟩
  · unfold ints
    rw [List.map_map]
    conv => lhs; rw [← List.map_id L]
    exact List.map_congr_left fun x hx => (hc x hx).symm
  · have := h.map Int.toNat
    unfold ints at this
    rw [List.map_map] at this
    simpa [Function.comp_def] using this

/-- the symbol in the making -/
def SymInv (w2 wr : World) (g k i : Nat) (acc : List UInt8) : Prop :=
  Below w2.heap.size w2 wr ∧ g < wr.heap.size ∧ wr.cell? ⟨g, 0, none⟩ = some (.int .i64 i) ∧ (∃ (a : Option Addr) (c : Nat), wr.cell? ⟨g, 1, none⟩ = some (.slice a k c) ∧ Lies wr a (bs acc) ∧ ∀ b o, a = some ⟨b, o, none⟩ → w2.heap.size ≤ b) ∧ (∀ j, wr.frozen? ⟨g, j, none⟩ = false) ∧ acc.length = k

theorem SymInv.start (w2 : World) (k i : Nat) : SymInv w2 ((w2.alloc (.cells (madeCells #[.int .u8 0] k) 5)).alloc (.cells #[.int .i64 i, .slice (some ⟨w2.heap.size, 0, none⟩) k k] 39)) (w2.heap.size + 1) k i (zeros k) := by
  have hx := BoxS.mk (w2.alloc (.cells (madeCells #[.int .u8 0] k) 5)) i (.slice (some ⟨w2.heap.size, 0, none⟩) k k) 39
  have e : (w2.alloc (.cells (madeCells #[.int .u8 0] k) 5)).heap.size = w2.heap.size + 1 := by simp
  rw [e] at hx
  have hr := World.rowIs_made w2 (.int .u8 0) k 5
  have hl := (rowIs_lies hr).alloc (.cells #[.int .i64 i, .slice (some ⟨w2.heap.size, 0, none⟩) k k] 39)
  refine ⟨((Below.refl _ _).alloc (Nat.le_refl _) _).alloc (by simp) _, by simp, hx.1, ⟨_, _, hx.2, ?_, fun b o e => by cases e; exact Nat.le_refl _⟩, frozen2 (Below.refl _ _), by simp [zeros]⟩
  have e2 : bs (zeros k) = (List.range k).map fun _ => Value.int .u8 0 := by
    apply List.ext_getElem
    · simp [bs, zeros]
    · intro j h1 h2
      simp [bs, zeros]
  rw [e2]
  exact hl

/-- the reference's Sum of two blocks that stand in a list laid anew -/
theorem sum_two (w : World) (a : Option Addr) (ca : Nat) (b : Option Addr) (cb : Nat) (x y : List UInt8) (k : Nat) (hk : k ≤ 16) (hx : x.length = k) (hy : y.length = k) (ha : Lies w a (bs x)) (hb : Lies w b (bs y)) :
    Calls Tryd.prog 60 #[.slice (some ⟨w.heap.size, 0, none⟩) 2 2] (w.alloc (.cells #[.slice a k ca, .slice b k cb] 36)).drew fun e w' =>
      ∃ (p : Option Addr) (q : Nat), e = .returned (.slice p k q) ∧ Lies w' p (bs (xorl x y)) ∧ Below w.heap.size w w' ∧ ∀ c o, p = some ⟨c, o, none⟩ → w.heap.size ≤ c := by
  have hl : Lies (w.alloc (.cells #[.slice a k ca, .slice b k cb] 36)).drew (some ⟨w.heap.size, 0, none⟩) ([⟨a, ca, x⟩, ⟨b, cb, y⟩].map Blk.val) := by
    have h := (Lies.alloc_new w #[.slice a k ca, .slice b k cb] 36).drewN 1
    have e : ([⟨a, ca, x⟩, ⟨b, cb, y⟩].map Blk.val) = (#[.slice a k ca, .slice b k cb] : Array Value).toList := by simp [Blk.val, hx, hy]
    rw [e]
    exact h
  have hbw : Below w.heap.size w (w.alloc (.cells #[.slice a k ca, .slice b k cb] 36)).drew := ((Below.refl _ _).alloc (Nat.le_refl _) _).drew
  have hall : AllIn (w.alloc (.cells #[.slice a k ca, .slice b k cb] 36)).drew [⟨a, ca, x⟩, ⟨b, cb, y⟩] := by
    intro z hz
    simp at hz
    rcases hz with rfl | rfl
    · exact ⟨ha.below hbw (Nat.le_refl _), by unfold maxLen; simp [hx]; omega⟩
    · exact ⟨hb.below hbw (Nat.le_refl _), by unfold maxLen; simp [hy]; omega⟩
  have h := refSum_any (some ⟨w.heap.size, 0, none⟩) 2 k [⟨a, ca, x⟩, ⟨b, cb, y⟩] _ (by simp) hl hall (by simp) (by
    intro i hi
    match i, hi with
    | 0, _ => exact hx
    | 1, _ => exact hy) hk
  refine h.mono ?_
  rintro e w' ⟨v, rfl, hown, hb'⟩
  obtain ⟨p, q, rfl, hl', hn⟩ := own_lies hown
  have hsum : sumBl [⟨a, ca, x⟩, ⟨b, cb, y⟩] = xorl x y := by
    simp only [sumBl, sumOf, List.map_cons, List.map_nil, List.headD_cons, sumTo]
    congr 1
    apply List.ext_getElem
    · rw [xorl_length _ _ (by simp [zeros])]; simp [zeros]
    · intro t h1 h2
      simp [xorl, zeros]
  rw [hsum] at hl'
  refine ⟨p, q, rfl, hl', hbw.trans (hb'.mono hbw.size), ?_⟩
  rintro c o rfl
  have := (hown.lt c rfl).1
  simp at this
  omega

theorem SymInv.next {w2 wr w4 : World} {g k i q : Nat} {acc acc' : List UInt8} {p : Option Addr} (hI : SymInv w2 wr g k i acc) (hb : Below wr.heap.size wr w4) (hl : Lies w4 p (bs acc')) (hk : acc'.length = k) (hg : w2.heap.size ≤ g)
    (hp : ∀ c o, p = some ⟨c, o, none⟩ → wr.heap.size ≤ c) : SymInv w2 (w4.setCell ⟨g, 1, none⟩ (.slice p k q)) g k i acc' := by
  obtain ⟨i1, i2, i3, ⟨da, dc, i4, i5, i8⟩, i6, i7⟩ := hI
  have s0 := ((bcell hb).1 g 0 i2).trans i3
  have s1 := ((bcell hb).1 g 1 i2).trans i4
  refine ⟨(i1.trans (hb.mono i1.size)).setCell (by simpa using hg) _, by have := hb.size; simp; omega, ?_, ⟨p, q, World.cell?_setCell_same _ _ _ s1, ?_, fun b o e => by have := hp b o e; have := i1.size; omega⟩, fun j => ?_, hk⟩
  · rw [World.cell?_setCell_other _ _ _ _ (by intro e; cases e)]; exact s0
  · exact lies_grown (grown_setCell w4 g 1 _) hl fun c o e => by have := hp c o e; omega
  · have := ((bcell hb).2 g j i2).trans (i6 j)
    simpa using this

end Go.Proofs.YtkiejflgphjfjacDoor

/-
  'picked', the closed fact of chapter 3's statements: its contract.
-/
namespace Go.Proofs.YtkiejflgphjfjacDoor
open Go.RowKit
set_option linter.unusedVariables false
set_option linter.unusedSimpArgs false

/-- the answer's bools -/
def boolsOf (b : Nat) (l : List Nat) : List Bool := (List.range b).map fun k => decide (k ∈ l)

theorem boolsOf_length (b : Nat) (l : List Nat) : (boolsOf b l).length = b := by simp [boolsOf]

theorem row_bools {w : World} {g b : Nat} {t : TypeId} {l : List Nat} (h : w.rowIs g t b (inAt l)) : Lies w (some ⟨g, 0, none⟩) ((boolsOf b l).map Value.bool) := by
  have := rowIs_lies h
  rw [boolsOf, List.map_map]
  exact this

theorem nx7 : nx 7 = 20108 := by decide

theorem chosen_7 : chosen 3 7 = [2, 0] := by
  have h : (coll 3 (nx 7) 3).length = many 3 (nx 7) := by rw [nx7]; decide
  rw [chosen_high (by decide) h, nx7]
  decide

theorem bools_7 : boolsOf 3 (chosen 3 7) = [true, false, true] := by rw [chosen_7]; decide
theorem bools_1 : boolsOf 3 (chosen 3 1) = [false, true, false] := by rw [chosen_low (by decide)]; decide

/-- so many of the first are true -/
theorem count_next {xs : List Bool} {k : Nat} (h : k < xs.length) : (xs.take (k + 1)).count true = (xs.take k).count true + if xs[k] then 1 else 0 := by
  rw [List.take_succ_eq_append_getElem h, List.count_append]
  cases xs[k] <;> simp

end Go.Proofs.YtkiejflgphjfjacDoor

/-
  slices.Index and slices.Contains at bytes: the contract of each.
-/
namespace Go.Proofs.YtkiejflgphjfjacDoor
open Go.RowKit
set_option linter.unusedVariables false
set_option linter.unusedSimpArgs false

end Go.Proofs.YtkiejflgphjfjacDoor

/-
  'made', the closed fact of chapter 4's statements, over whatever Make and Check answer as chapter 4 asks.
-/
namespace Go.Proofs.YtkiejflgphjfjacDoor
open Go.RowKit
set_option linter.unusedVariables false
set_option linter.unusedSimpArgs false

/-- code.Make answers as chapter 4 asks -/
def MakeOk : Prop := ∀ (B K id : Int) (a : Option Addr) (cap : Nat) (c : List UInt8) (w : World), I64 B → I64 K → c.length ≤ maxLen → c.length ≤ cap → Lies w a (bs c) → Laid w →
    Calls Tryd.prog 42 #[.agg #[.int .i64 B, .int .i64 K], .slice a c.length cap, .int .i64 id] w fun e w' =>
      ∃ (a' : Option Addr) (c' : Nat), e = .returned (.tuple #[.agg #[.int .i64 (symID B K c id), .slice a' (symRes B K c id).length c'], .int .i64 (symCode B K c id)]) ∧ Lies w' a' (bs (symRes B K c id)) ∧ Below w.heap.size w w'

/-- code.Check answers as chapter 4 asks -/
def CheckOk : Prop := ∀ (B K id : Int) (a : Option Addr) (n cap : Nat) (w : World), I64 B → I64 K → n ≤ maxLen →
    Calls Tryd.prog 61 #[.agg #[.int .i64 B, .int .i64 K], .agg #[.int .i64 id, .slice a n cap]] w fun e w' => e = .returned (.int .i64 (chkS B K id n)) ∧ Below w.heap.size w w'

theorem cellB {w w' : World} {b o : Nat} {v : Value} (h : w.cell? ⟨b, o, none⟩ = some v) (hb : Below w.heap.size w w') : w'.cell? ⟨b, o, none⟩ = some v := by
  have := World.block_lt_of_cell? w _ h
  rw [(bcell hb).1 b o this]
  exact h

theorem cellA {w : World} {b o : Nat} {v : Value} (h : w.cell? ⟨b, o, none⟩ = some v) (ob : Obj) : (w.alloc ob).cell? ⟨b, o, none⟩ = some v := cellB h ((Below.refl _ _).alloc (Nat.le_refl _) _)

theorem good31 : Good 3 1 3 1 3 := ⟨rfl, rfl, by omega, by omega, by omega, by omega, by decide, by omega, by omega, by omega, by omega⟩

theorem code31 (id : Int) (h : ¬ (id < 0 ∨ 9999 < id)) : symCode 3 1 [1, 2, 4] id = 0 ∧ symID 3 1 [1, 2, 4] id = id ∧ symRes 3 1 [1, 2, 4] id = symL 3 1 [1, 2, 4] id.toNat := by
  have hc : cutCode 3 1 [1, 2, 4] = 0 := (cutCode_good good31 rfl).1
  have e : symCode 3 1 [1, 2, 4] id = 0 := by rw [symCode, if_neg (by simp [hc]), if_neg h]
  refine ⟨e, by simp [symID, e], ?_⟩
  rw [symRes, if_pos e, good31.eN]
  rfl

theorem sym7 : symL 3 1 [1, 2, 4] 7 = [5] := by
  rw [symL, chosen_7]
  decide

theorem sym2 : symL 3 1 [1, 2, 4] 2 = [4] := by
  rw [symL, chosen_low (by decide)]
  decide

theorem make31 (hM : MakeOk) (w : World) (hL : Laid w) (b : Nat) (hl : Lies w (some ⟨b, 0, none⟩) [.int .u8 1, .int .u8 2, .int .u8 4]) (id : Int) (x : UInt8) (h : ¬ (id < 0 ∨ 9999 < id)) (hx : symL 3 1 [1, 2, 4] id.toNat = [x]) :
    Calls Tryd.prog 42 #[.agg #[.int .i64 3, .int .i64 1], .slice (some ⟨b, 0, none⟩) 3 3, .int .i64 id] w fun e w' =>
      ∃ (a' : Option Addr) (c' : Nat), e = .returned (.tuple #[.agg #[.int .i64 id, .slice a' 1 c'], .int .i64 0]) ∧ Lies w' a' [.int .u8 (x.toNat : Int)] ∧ Below w.heap.size w w' := by
  have hc := hM 3 1 id (some ⟨b, 0, none⟩) 3 [1, 2, 4] w ⟨by omega, by omega⟩ ⟨by omega, by omega⟩ (by unfold maxLen; simp) (by simp) hl hL
  obtain ⟨e1, e2, e3⟩ := code31 id h
  rw [e1, e2, e3, hx] at hc
  refine hc.mono ?_
  rintro e w' ⟨a', c', rfl, h1, h2⟩
  exact ⟨a', c', rfl, h1, h2⟩

end Go.Proofs.YtkiejflgphjfjacDoor

/-
  'added', the closed fact of the statements on chapter 1; sum.Add as one contract.
-/
namespace Go.Proofs.YtkiejflgphjfjacDoor
open Go.RowKit
set_option linter.unusedVariables false
set_option linter.unusedSimpArgs false

/-- what Add answers, as bytes -/
def resL (bl : List Blk) : List UInt8 := if addCode bl = 0 then sumBl bl else []

/-- sum.Add -/
theorem add_any (a : Option Addr) (cap : Nat) (bl : List Blk) (w : World) (hn : bl.length ≤ maxLen) (ha : Lies w a (bl.map Blk.val)) (hall : AllIn w bl) :
    Calls Tryd.prog 71 #[.slice a bl.length cap] w fun e w' => ∃ a' c', e = .returned (.tuple #[.slice a' (resL bl).length c', .int .i64 (addCode bl)]) ∧ Lies w' a' (bs (resL bl)) ∧ Below w.heap.size w w' := by
  by_cases h : addCode bl = 0
  · refine (add_good a cap bl w hn ha hall h).mono ?_
    rintro e w' ⟨rfl, hrow, hb⟩
    have er : resL bl = sumBl bl := by simp [resL, h]
    rw [er, h]
    exact ⟨_, _, rfl, row_lies hrow rfl, hb⟩
  · refine (add_bad a cap bl w hn ha hall h).mono ?_
    rintro e w' ⟨rfl, rfl⟩
    have er : resL bl = [] := by simp [resL, h]
    rw [er]
    exact ⟨none, 0, rfl, Lies.nil _ _, Below.refl _ _⟩

def abl (n : Nat) : List Blk := [⟨some ⟨n, 0, none⟩, 2, [1, 2]⟩, ⟨some ⟨n + 1, 0, none⟩, 2, [3, 2]⟩, ⟨some ⟨n + 1 + 1, 0, none⟩, 2, [4, 9]⟩]

theorem abl_sum (n : Nat) : sumBl (abl n) = [6, 9] := by
  show sumOf [[1, 2], [3, 2], [4, 9]] = [6, 9]
  decide

theorem abl_code (n : Nat) : addCode (abl n) = 0 := by
  have h1 : chk (lens (abl n)) = 0 := by
    show chk [2, 2, 2] = 0
    decide
  have h2 : (abl n).length = 3 := rfl
  rw [addCode, h1, h2]
  rfl

theorem bs2 (x y : UInt8) : bs [x, y] = [.int .u8 (x.toNat : Int), .int .u8 (y.toNat : Int)] := rfl

end Go.Proofs.YtkiejflgphjfjacDoor
