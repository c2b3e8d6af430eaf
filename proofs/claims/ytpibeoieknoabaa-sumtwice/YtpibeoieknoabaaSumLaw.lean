/-
  'added', the closed fact of the statements on chapter 1; sum.Add as one contract.
-/
import Derived.Test.YtpibeoieknoabaaSum3
import Derived.Test.YtpibeoieknoabaaSame
import Derived.Test.YtpibeoieknoabaaEq
namespace Go.Proofs.Ytpibeoieknoabaa
open Go.RowKit
set_option linter.unusedVariables false
set_option linter.unusedSimpArgs false

/-- what Add answers, as bytes -/
def resL (bl : List Blk) : List UInt8 := if addCode bl = 0 then sumBl bl else []

/-- sum.Add -/
theorem add_any (a : Option Addr) (cap : Nat) (bl : List Blk) (w : World) (hn : bl.length ≤ maxLen) (ha : Lies w a (bl.map Blk.val)) (hall : AllIn w bl) :
    Calls Try.prog 7 #[.slice a bl.length cap] w fun e w' => ∃ a' c', e = .returned (.tuple #[.slice a' (resL bl).length c', .int .i64 (addCode bl)]) ∧ Lies w' a' (bs (resL bl)) ∧ Below w.heap.size w w' := by
  by_cases h : addCode bl = 0
  · refine (add_good a cap bl w hn ha hall h).mono ?_
    rintro e w' ⟨rfl, hrow, hb⟩
    have er : resL bl = sumBl bl := by simp [resL, h]
    rw [er, h]
    exact ⟨_, _, rfl, row_lies hrow rfl, hb⟩
  · refine (add_bad a cap bl w hn ha hall h).mono ?_
    rintro e w' ⟨rfl, rfl⟩
    have er : resL bl = [] := by simp [resL, h]
    rw [er]
    exact ⟨none, 0, rfl, Lies.nil _ _, Below.refl _ _⟩

def abl (n : Nat) : List Blk := [⟨some ⟨n, 0, none⟩, 2, [1, 2]⟩, ⟨some ⟨n + 1, 0, none⟩, 2, [3, 2]⟩, ⟨some ⟨n + 1 + 1, 0, none⟩, 2, [4, 9]⟩]

theorem abl_sum (n : Nat) : sumBl (abl n) = [6, 9] := by
  show sumOf [[1, 2], [3, 2], [4, 9]] = [6, 9]
  decide

theorem abl_code (n : Nat) : addCode (abl n) = 0 := by
  have h1 : chk (lens (abl n)) = 0 := by
    show chk [2, 2, 2] = 0
    decide
  have h2 : (abl n).length = 3 := rfl
  rw [addCode, h1, h2]
  rfl

theorem bs2 (x y : UInt8) : bs [x, y] = [.int .u8 (x.toNat : Int), .int .u8 (y.toNat : Int)] := rfl

set_option maxHeartbeats 1000000 in
theorem added_any (w : World) : Calls Try.prog 10 #[] w fun e w' => e = .returned (.bool true) ∧ Below w.heap.size w w' := by
  go_enter Try.func10, Try.ntmps10
  go_wp2_with fail
  refine (add_good _ _ (abl w.heap.size) _ (by show 3 ≤ maxLen; decide) ?_ ?_ (abl_code _)).mono ?_
  · have h := Lies.alloc_new (((w.alloc (.cells #[.int .u8 1, .int .u8 2] 5)).alloc (.cells #[.int .u8 3, .int .u8 2] 5)).alloc (.cells #[.int .u8 4, .int .u8 9] 5)) #[.slice (some ⟨w.heap.size, 0, none⟩) 2 2, .slice (some ⟨w.heap.size + 1, 0, none⟩) 2 2, .slice (some ⟨w.heap.size + 1 + 1, 0, none⟩) 2 2] 29
    simp only [size_alloc_eq] at h
    exact h
  · intro b hb
    simp only [abl, List.mem_cons, List.not_mem_nil, or_false] at hb
    rcases hb with rfl | rfl | rfl
    · exact ⟨Lies.of_block (c := #[.int .u8 1, .int .u8 2]) (t := 5) (f := (0, 0)) (by simp only [heap_alloc_eq, size_alloc_eq]; repeat (first | rw [if_pos trivial] | rw [if_pos (by omega)] | rw [if_neg (by omega)])), by show 2 ≤ maxLen; decide⟩
    · exact ⟨Lies.of_block (c := #[.int .u8 3, .int .u8 2]) (t := 5) (f := (0, 0)) (by simp only [heap_alloc_eq, size_alloc_eq]; repeat (first | rw [if_pos trivial] | rw [if_pos (by omega)] | rw [if_neg (by omega)])), by show 2 ≤ maxLen; decide⟩
    · exact ⟨Lies.of_block (c := #[.int .u8 4, .int .u8 9]) (t := 5) (f := (0, 0)) (by simp only [heap_alloc_eq, size_alloc_eq]; repeat (first | rw [if_pos trivial] | rw [if_pos (by omega)] | rw [if_neg (by omega)])), by show 2 ≤ maxLen; decide⟩
  rw [abl_sum]
  rintro e w1 ⟨rfl, hrow, hb1⟩
  have hl1 := row_lies hrow rfl
  simp only [size_alloc_eq] at hl1 hb1
  have hbb : Below w.heap.size w w1 := ((((((Below.refl _ _).alloc (Nat.le_refl _) _).alloc (by simp) _).alloc (by simp; omega) _).alloc (by simp; omega) _).trans (hb1.mono (by omega)))
  clear hrow hb1
  go_wp2_with fail
  refine (equalBlock _ _ _ _ [6, 9] [6, 9] (by decide) (by decide) (hl1.alloc _) (Lies.alloc_new _ #[.int .u8 6, .int .u8 9] 5)).mono ?_
  rintro e w2 ⟨rfl, n2, rfl⟩
  go_wp2_with fail
  refine (same_any _ _ _ _ _ _ [6, 9] [6, 9] _ rfl rfl ((hl1.alloc _).drewN _) ((hl1.alloc _).drewN _)).mono ?_
  rintro e w3 ⟨rfl, rfl⟩
  go_wp2
  go_ret
  refine ⟨by simp, ?_⟩
  exact (hbb.alloc hbb.size _).trans (bdn _ _ _)

end Go.Proofs.Ytpibeoieknoabaa
