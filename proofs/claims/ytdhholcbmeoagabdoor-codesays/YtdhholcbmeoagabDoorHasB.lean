/-
  slices.Index and slices.Contains at bytes: the contract of each.
-/
import Derived.Test.YtdhholcbmeoagabDoorHas
namespace Go.Proofs.YtdhholcbmeoagabDoor
open Go.RowKit
set_option linter.unusedVariables false
set_option linter.unusedSimpArgs false

theorem indexB_any (a : Option Addr) (cap : Nat) (xs : List Int) (v : Int) (w : World) (hx : xs.length ≤ maxLen) (ha : Lies w a (xs.map (Value.int .u8))) :
    Calls Tryd.prog 40 #[.slice a xs.length cap, .int .u8 v] w fun e w' => (∃ r : Int, e = .returned (.int .i64 r) ∧ decide (0 ≤ r) = decide (v ∈ xs)) ∧ w = w' := by
  unfold maxLen at hx
  go_enter Tryd.func40, Tryd.ntmps40
  go_wp2
  go_loopw [8] (fun i wr => ∃ k : Nat, k ≤ xs.length ∧ i = .int .i64 k ∧ wr = w ∧ Shut (¬ v ∈ xs.take k)) (fun i _ => xs.length - (intOf i).toNat)
  case atStart => exact ⟨0, Nat.zero_le _, rfl, rfl, ⟨by simp⟩⟩
  case round =>
    obtain ⟨k, hk, rfl, rfl, HN⟩ := hrel
    by_cases hlt : k < xs.length
    · obtain ⟨b1, o1, rfl⟩ := ha.some (k := k) (by simpa using hlt)
      have c1 : wr.cell? ⟨b1, o1 + k, none⟩ = some (.int .u8 xs[k]) := ha.at (by simp [hlt])
      have HM : Shut (xs[k] ∈ xs) := ⟨List.getElem_mem hlt⟩
      have HX : Shut (∀ h : ¬ v = xs[k], ¬ v ∈ xs.take (k + 1)) := ⟨fun h => not_in_next HN.out hlt h⟩
      clear ha HN
      generalize xs[k] = y at *
      by_cases hy : v = y
      · have hy2 : (v == y) = true := by simpa using hy
        have HY : Shut (v = y) := ⟨hy⟩
        clear hy HX
        go_wp2
        go_ret
        refine ⟨⟨_, rfl, ?_⟩, rfl⟩
        rw [HY.out, decide_eq_true HM.out]
        simp
      · have hy2 : (v == y) = false := by simpa using hy
        have HN := Shut.mk (HX.out hy)
        clear hy HX HM
        go_wp2
        go_roundw
        case rel => exact ⟨k + 1, by omega, by go_num, trivial, HN⟩
        case measure => simp [intOf]; omega
    · have HE : Shut (¬ v ∈ xs) := ⟨by have h := HN.out; rwa [List.take_of_length_le (by omega)] at h⟩
      clear ha HN
      go_wp2
      go_ret
      exact ⟨⟨_, rfl, by rw [decide_eq_false HE.out]; rfl⟩, rfl⟩

theorem containsB_any (a : Option Addr) (cap : Nat) (xs : List Int) (v : Int) (w : World) (hx : xs.length ≤ maxLen) (ha : Lies w a (xs.map (Value.int .u8))) :
    Calls Tryd.prog 30 #[.slice a xs.length cap, .int .u8 v] w fun e w' => e = .returned (.bool (decide (v ∈ xs))) ∧ w = w' := by
  go_enter Tryd.func30, Tryd.ntmps30
  go_wp2_with fail
  refine (indexB_any a cap xs v w hx ha).mono ?_
  rintro e w1 ⟨⟨r, rfl, hr⟩, rfl⟩
  have HR := Shut.mk hr
  clear hr ha hx
  go_wp2
  all_goals go_ret
  all_goals exact ⟨retB (by rw [← HR.out]), rfl⟩

end Go.Proofs.YtdhholcbmeoagabDoor
