/-
  The library's sort at this program: the contract of slices.Sort, laid by program in plain words.
-/
import Derived.Shelf.Sort.Plain
import Derived.Test.YtbkihfhdinoieabDoorProg
namespace Go.Proofs
open Go.Shelf
def Tryd.lays189_ren : Go.Shelf.Ren := ⟨fun | 189 => 13 | 125 => 16 | 257 => 15 | 128 => 26 | 129 => 27 | 294 => 17 | 295 => 18 | 296 => 19 | 297 => 20 | 298 => 21 | 299 => 22 | 216 => 23 | 300 => 24 | 301 => 25 | 328 => 28 | 329 => 29 | 330 => 30 | 331 => 31 | 332 => 32 | 215 => 33 | 343 => 34 | n => n, fun | 28 => 26 | 3 => 3 | 46 => 41 | 0 => 0 | 51 => 51 | 53 => 53 | 4 => 4 | 183 => 44 | 182 => 43 | 131 => 48 | 5 => 5 | 9 => 9 | 218 => 54 | 222 => 58 | 228 => 61 | 229 => 62 | n => n, fun | n => n⟩
theorem Tryd.lays189 : Go.Proofs.Lays.n189 Tryd.prog Tryd.lays189_ren := {
  mixed := by kernel_rfl
  f125 := Tryd.func16.trans (congrArg some (by kernel_rfl))
  f128 := Tryd.func26.trans (congrArg some (by kernel_rfl))
  f129 := Tryd.func27.trans (congrArg some (by kernel_rfl))
  f189 := Tryd.func13.trans (congrArg some (by kernel_rfl))
  f215 := Tryd.func33.trans (congrArg some (by kernel_rfl))
  f216 := Tryd.func23.trans (congrArg some (by kernel_rfl))
  f257 := Tryd.func15.trans (congrArg some (by kernel_rfl))
  f294 := Tryd.func17.trans (congrArg some (by kernel_rfl))
  f295 := Tryd.func18.trans (congrArg some (by kernel_rfl))
  f296 := Tryd.func19.trans (congrArg some (by kernel_rfl))
  f297 := Tryd.func20.trans (congrArg some (by kernel_rfl))
  f298 := Tryd.func21.trans (congrArg some (by kernel_rfl))
  f299 := Tryd.func22.trans (congrArg some (by kernel_rfl))
  f300 := Tryd.func24.trans (congrArg some (by kernel_rfl))
  f301 := Tryd.func25.trans (congrArg some (by kernel_rfl))
  f328 := Tryd.func28.trans (congrArg some (by kernel_rfl))
  f329 := Tryd.func29.trans (congrArg some (by kernel_rfl))
  f330 := Tryd.func30.trans (congrArg some (by kernel_rfl))
  f331 := Tryd.func31.trans (congrArg some (by kernel_rfl))
  f332 := Tryd.func32.trans (congrArg some (by kernel_rfl))
  f343 := Tryd.func34.trans (congrArg some (by kernel_rfl))
  t0 := Tryd.underlying0
  a0 := Tryd.isAgg0
  z0 := Tryd.sizeOf0
  v0 := Tryd.zeroValue0
  t3 := Tryd.underlying3
  a3 := Tryd.isAgg3
  z3 := Tryd.sizeOf3
  v3 := Tryd.zeroValue3
  t4 := Tryd.underlying4
  a4 := Tryd.isAgg4
  z4 := Tryd.sizeOf4
  v4 := Tryd.zeroValue4
  t5 := Tryd.underlying5
  a5 := Tryd.isAgg5
  z5 := Tryd.sizeOf5
  v5 := Tryd.zeroValue5
  t9 := Tryd.underlying9
  a9 := Tryd.isAgg9
  z9 := Tryd.sizeOf9
  v9 := Tryd.zeroValue9
  t28 := Tryd.underlying26
  a28 := Tryd.isAgg26
  z28 := Tryd.sizeOf26
  v28 := Tryd.zeroValue26
  t46 := Tryd.underlying41
  a46 := Tryd.isAgg41
  z46 := Tryd.sizeOf41
  v46 := Tryd.zeroValue41
  t51 := Tryd.underlying51
  a51 := Tryd.isAgg51
  z51 := Tryd.sizeOf51
  v51 := Tryd.zeroValue51
  t53 := Tryd.underlying53
  a53 := Tryd.isAgg53
  z53 := Tryd.sizeOf53
  v53 := Tryd.zeroValue53
  t131 := Tryd.underlying48
  a131 := Tryd.isAgg48
  z131 := Tryd.sizeOf48
  v131 := Tryd.zeroValue48
  t182 := Tryd.underlying43
  a182 := Tryd.isAgg43
  z182 := Tryd.sizeOf43
  v182 := Tryd.zeroValue43
  t183 := Tryd.underlying44
  a183 := Tryd.isAgg44
  z183 := Tryd.sizeOf44
  v183 := Tryd.zeroValue44
  t218 := Tryd.underlying54
  a218 := Tryd.isAgg54
  z218 := Tryd.sizeOf54
  v218 := Tryd.zeroValue54
  t222 := Tryd.underlying58
  a222 := Tryd.isAgg58
  z222 := Tryd.sizeOf58
  v222 := Tryd.zeroValue58
  t228 := Tryd.underlying61
  a228 := Tryd.isAgg61
  z228 := Tryd.sizeOf61
  v228 := Tryd.zeroValue61
  t229 := Tryd.underlying62
  a229 := Tryd.isAgg62
  z229 := Tryd.sizeOf62
  v229 := Tryd.zeroValue62 }
open Go.Sort Go.RowKit in
theorem Tryd.slices_Sort_int (blk off cap : Nat) (zs : List Int) (w : World) (hH : Holds (Value.int .i64) w blk off zs.toArray) (hblk : blk < w.heap.size) (hsz : zs.length < 4611686018427387904) :
    Calls Tryd.prog 13 #[.slice (some ⟨blk, off, none⟩) zs.length cap] w fun e w' =>
      e = .returned (.tuple #[]) ∧ ∃ n os, w' = grow (putRow (Value.int .i64) (Sort.ahead w n) blk off (zs.mergeSort fun x y => decide (x ≤ y)).toArray) os := Any.slices_Sort_int Tryd.lays189 blk off cap zs w hH hblk hsz
end Go.Proofs
