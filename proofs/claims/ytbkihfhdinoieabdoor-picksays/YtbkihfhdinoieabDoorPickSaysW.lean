/-
  The walk of PickSays.
-/
import Derived.Test.YtbkihfhdinoieabDoorPickSomeW
import Derived.Test.YtbkihfhdinoieabDoorPick4
namespace Go.Proofs.YtbkihfhdinoieabDoor
open Go.RowKit
set_option linter.unusedVariables false
set_option linter.unusedSimpArgs false

theorem PickSays_bad (id many : Int) (w : World) (hL : Laid w) (h : OutOf id many) :
    Calls Tryd.prog 3 #[.int .i64 id, .int .i64 many] w fun e w' => e = .returned (.bool true) ∧ Below w.heap.size w w' := by
  go_enter Tryd.func3, Tryd.ntmps3
  go_wp2_with fail
  refine (of_bad id many _ h).mono ?_
  rintro e w1 ⟨rfl, rfl⟩
  go_wp2_with fail
  refine (refPicked_bad id many _ h).mono ?_
  rintro e w1 ⟨rfl, rfl⟩
  go_wp2_with fail
  refine (picked_any _ hL).mono ?_
  rintro e w1 ⟨rfl, hb⟩
  have hL1 := hL.below hb
  clear hL
  go_wp2_with fail
  refine (picked_any _ hL1).mono ?_
  rintro e w2 ⟨rfl, hb2⟩
  have hb := hb.trans (hb2.mono hb.size)
  clear hb2 hL1
  go_wp2
  go_ret
  exact ⟨rfl, hb⟩

set_option maxHeartbeats 400000 in
theorem PickSays_good (i b : Nat) (w : World) (hL : Laid w) (hi : i ≤ 9999) (h1 : 1 ≤ b) (hb24 : b ≤ 24) :
    Calls Tryd.prog 3 #[.int .i64 i, .int .i64 b] w fun e w' => e = .returned (.bool true) ∧ Below w.heap.size w w' := by
  go_enter Tryd.func3, Tryd.ntmps3
  go_wp2_with fail
  refine (of_any i b w hi h1 hb24 hL).mono ?_
  rintro e w1 ⟨g1, rfl, hg1, hr1, hb1⟩
  have hl1 := row_bools hr1
  have hL1 := hL.below hb1
  clear hr1 hg1 hL
  go_wp2_with fail
  refine (refPicked_any i b w1 hi h1 hb24).mono ?_
  rintro e w2 ⟨a, cap, L, rfl, hl2, hperm, hb2⟩
  have hl1 := hl1.below hb2 (Nat.le_refl _)
  have hL2 := hL1.below hb2
  have hb := hb1.trans (hb2.mono hb1.size)
  have HP : Shut (∀ k : Nat, decide ((k : Int) ∈ L) = decide (k ∈ chosen b i)) := ⟨fun k => by
    simp only [hperm.mem_iff, mem_ints]⟩
  have hll : L.length ≤ 24 := by
    rw [hperm.length_eq, ints_length]
    by_cases h : i < b
    · rw [chosen_low h]; simp
    · obtain ⟨n, e, hn⟩ := chosen_is h h1 hb24
      rw [e, hn]
      have := many_le h1 (nx i)
      omega
  clear hb1 hb2 hL1 hperm
  go_wp2_with fail
  refine (picked_any _ hL2).mono ?_
  rintro e w3 ⟨rfl, hb3⟩
  have hl1 := hl1.below hb3 (Nat.le_refl _)
  have hl2 := hl2.below hb3 (Nat.le_refl _)
  have hb := hb.trans (hb3.mono hb.size)
  clear hb3 hL2
  go_wp2
  go_loopw [51] (fun i wr => ∃ k : Nat, k ≤ b ∧ i = .int .i64 k ∧ wr = w3) (fun i _ => b - (intOf i).toNat)
  case atStart => exact ⟨0, Nat.zero_le _, rfl, rfl⟩
  case round =>
    obtain ⟨k, hk, rfl, rfl⟩ := hrel
    by_cases hlt : k < b
    · have c1 := hl1.at (k := k) (u := .bool (decide (k ∈ chosen b i))) (by simp [boolsOf, hlt])
      simp only [Nat.zero_add] at c1
      have hC := contains_any a cap L k wr (by unfold maxLen; omega) hl2
      rw [HP.out k] at hC
      generalize decide (k ∈ chosen b i) = q at *
      clear hl1 hl2
      go_wp2_with fail
      refine hC.mono ?_
      rintro e w4 ⟨rfl, rfl⟩
      clear hC
      go_wp2
      exact ⟨⟨k + 1, by omega, by go_num, trivial⟩, by simp [intOf]; omega⟩
    · clear hl1 hl2
      go_wp2
      go_ret
      exact ⟨rfl, hb⟩

theorem W_pickSays (id : Int) (many : Int) (w : World) (hL : Laid w) :
    Calls Tryd.prog 3 #[.int .i64 id, .int .i64 many] w fun e w' => e = .returned (.bool true) ∧ Below w.heap.size w w' := by
  by_cases h : OutOf id many
  · exact PickSays_bad id many w hL h
  · obtain ⟨i, b, rfl, rfl, h1, h2, h3⟩ := not_out h
    exact PickSays_good i b w hL h1 h2 h3

end Go.Proofs.YtbkihfhdinoieabDoor
