/-
  The closed fact 'solved': it is true.
-/
import Derived.Test.YtclbmfjincekfabSlvB
import Derived.Test.YtclbmfjincekfabSlvC
namespace Go.Proofs.Ytclbmfjincekfab
open Go.RowKit
set_option linter.unusedVariables false
set_option linter.unusedSimpArgs false

theorem right_nil {n k : Nat} (n1 : 1 ≤ n) (n2 : n ≤ 24) (k1 : 1 ≤ k) (k2 : k ≤ 16) : Right n k [] := ⟨n1, n2, k1, k2, (fun r hr => by cases hr), Sys.nil⟩

/-- a row of two blocks, one byte each, in two blocks of memory laid anew -/
theorem row2_in (w : World) (x y : Bool) (z : UInt8) : RowIn ((w.alloc (.cells #[.bool x, .bool y] 4)).alloc (.cells #[.int .u8 (z.toNat : Int)] 5)) ⟨some ⟨w.heap.size, 0, none⟩, 2, [x, y], some ⟨w.heap.size + 1, 0, none⟩, 1, [z]⟩ := by
  obtain ⟨b0, b1⟩ := alloc2 w (.cells #[.bool x, .bool y] 4) (.cells #[.int .u8 (z.toNat : Int)] 5)
  refine ⟨Lies.of_block b0, Lies.of_block b1, by simp [maxLen], by simp [maxLen]⟩

/-- solve.Add of a row of two blocks -/
theorem add2_any (w : World) (x y : Bool) (z : UInt8) (a : Option Addr) (c m : Nat) (rows : List MRow) (A : List LRow) (hm : A.length = m) (hl : Lies w a (rowCells rows)) (hr : ∀ r ∈ rows, RowIn w r) (hs : rows.map MRow.says = A) (hR : Right 2 1 A) :
    Calls Try.prog 6 #[.agg #[.int .i64 2, .int .i64 1, .slice a m c], .agg #[.slice (some ⟨w.heap.size, 0, none⟩) 2 2, .slice (some ⟨w.heap.size + 1, 0, none⟩) 1 1]] ((w.alloc (.cells #[.bool x, .bool y] 4)).alloc (.cells #[.int .u8 (z.toNat : Int)] 5)) fun e w' =>
      AddAnsC ((w.alloc (.cells #[.bool x, .bool y] 4)).alloc (.cells #[.int .u8 (z.toNat : Int)] 5)) w' 2 1 A ([x, y], [z]) e := by
  have hb : Below w.heap.size w ((w.alloc (.cells #[.bool x, .bool y] 4)).alloc (.cells #[.int .u8 (z.toNat : Int)] 5)) := ((Below.refl _ _).alloc (Nat.le_refl _) _).alloc (by simp) _
  have hml : rows.length = m := by rw [← hm, ← hs]; simp
  exact addS_right 2 1 m a c rows A ⟨some ⟨w.heap.size, 0, none⟩, 2, [x, y], some ⟨w.heap.size + 1, 0, none⟩, 1, [z]⟩ _ _ (hl.below hb (Nat.le_refl _)) (fun r hr' => (hr r hr').below hb) (row2_in w x y z) hml hs rfl hR ⟨rfl, rfl⟩

theorem p1 : addL [] ([true, true], [7]) = some [([true, true], [7])] := by decide
theorem p2 : addL [([true, true], [7])] ([false, true], [3]) = some [([true, false], [4]), ([false, true], [3])] := by decide
theorem p3 : addL [([true, false], [4]), ([false, true], [3])] ([true, false], [4]) = some [([true, false], [4]), ([false, true], [3])] := by decide
theorem p4 : addL [([true, false], [4]), ([false, true], [3])] ([true, false], [5]) = none := by decide
theorem p5 : knownL 2 [([true, false], [4]), ([false, true], [3])] = [[4], [3]] := by decide

end Go.Proofs.Ytclbmfjincekfab
