/-
  'added', the closed fact of the statements on chapter 1; sum.Add as one contract.
-/
import Derived.Test.YtdhholcbmeoagabDoorSum3
import Derived.Test.YtdhholcbmeoagabDoorSame
import Derived.Test.YtdhholcbmeoagabDoorEq
namespace Go.Proofs.YtdhholcbmeoagabDoor
open Go.RowKit
set_option linter.unusedVariables false
set_option linter.unusedSimpArgs false

/-- what Add answers, as bytes -/
def resL (bl : List Blk) : List UInt8 := if addCode bl = 0 then sumBl bl else []

/-- sum.Add -/
theorem add_any (a : Option Addr) (cap : Nat) (bl : List Blk) (w : World) (hn : bl.length ≤ maxLen) (ha : Lies w a (bl.map Blk.val)) (hall : AllIn w bl) :
    Calls Tryd.prog 19 #[.slice a bl.length cap] w fun e w' => ∃ a' c', e = .returned (.tuple #[.slice a' (resL bl).length c', .int .i64 (addCode bl)]) ∧ Lies w' a' (bs (resL bl)) ∧ Below w.heap.size w w' := by
  by_cases h : addCode bl = 0
  · refine (add_good a cap bl w hn ha hall h).mono ?_
    rintro e w' ⟨rfl, hrow, hb⟩
    have er : resL bl = sumBl bl := by simp [resL, h]
    rw [er, h]
    exact ⟨_, _, rfl, row_lies hrow rfl, hb⟩
  · refine (add_bad a cap bl w hn ha hall h).mono ?_
    rintro e w' ⟨rfl, rfl⟩
    have er : resL bl = [] := by simp [resL, h]
    rw [er]
    exact ⟨none, 0, rfl, Lies.nil _ _, Below.refl _ _⟩

def abl (n : Nat) : List Blk := [⟨some ⟨n, 0, none⟩, 2, [1, 2]⟩, ⟨some ⟨n + 1, 0, none⟩, 2, [3, 2]⟩, ⟨some ⟨n + 1 + 1, 0, none⟩, 2, [4, 9]⟩]

theorem abl_sum (n : Nat) : sumBl (abl n) = [6, 9] := by
  show sumOf [[1, 2], [3, 2], [4, 9]] = [6, 9]
  decide

theorem abl_code (n : Nat) : addCode (abl n) = 0 := by
  have h1 : chk (lens (abl n)) = 0 := by
    show chk [2, 2, 2] = 0
    decide
  have h2 : (abl n).length = 3 := rfl
  rw [addCode, h1, h2]
  rfl

theorem bs2 (x y : UInt8) : bs [x, y] = [.int .u8 (x.toNat : Int), .int .u8 (y.toNat : Int)] := rfl

end Go.Proofs.YtdhholcbmeoagabDoor
