/-
  slices.Equal at bools: its contract.
-/
import Derived.Test.YtclbmfjincekfabRows
import Derived.Test.YtclbmfjincekfabGen
import Derived.BigQuiet
import Derived.Deep.QuietTactic
namespace Go.Proofs.Ytclbmfjincekfab
open Go.RowKit
set_option linter.unusedVariables false
set_option linter.unusedSimpArgs false

theorem take_eq_succB {xs ys : List Bool} {k : Nat} (h : xs.take k = ys.take k) (h1 : k < xs.length) (h2 : k < ys.length) (e : xs[k] = ys[k]) : xs.take (k + 1) = ys.take (k + 1) := by
  rw [List.take_succ_eq_append_getElem h1, List.take_succ_eq_append_getElem h2, h, e]

set_option maxHeartbeats 400000 in
theorem equalBools {w : World} (a b : Option Addr) (ca cb : Nat) (xs ys : List Bool) (hx : xs.length ≤ maxLen) (hy : ys.length ≤ maxLen)
    (ha : Lies w a (xs.map Value.bool)) (hb : Lies w b (ys.map Value.bool)) :
    Calls Try.prog 31 #[.slice a xs.length ca, .slice b ys.length cb] w fun e w' => e = .returned (.bool (decide (xs = ys))) ∧ ∃ n, w' = w.drewN n := by
  unfold maxLen at hx hy
  by_cases hl : xs.length = ys.length
  · have hne : ((xs.length : Int) != (ys.length : Int)) = false := by simp [hl]
    have HL : Hid (xs.length = ys.length) := hl
    have hle : xs.length ≤ ys.length := by omega
    clear hl
    go_enter Try.func31, Try.ntmps31
    go_wp2
    go_loopw [13] (fun i wr => ∃ k nq : Nat, k ≤ xs.length ∧ i = .int .i64 k ∧ wr = w.drewN nq ∧ xs.take k = ys.take k) (fun i _ => xs.length - (intOf i).toNat)
    case atStart => exact ⟨0, 0, Nat.zero_le _, rfl, rfl, rfl⟩
    case round =>
      obtain ⟨k, nq, hk, rfl, rfl, heq⟩ := hrel
      have HE : Hid (xs.take k = ys.take k) := heq
      clear heq
      by_cases hlt : k < xs.length
      · obtain ⟨b1, o1, rfl⟩ := ha.some (k := k) (by simpa using hlt)
        obtain ⟨b2, o2, rfl⟩ := hb.some (k := k) (by simp; omega)
        have hlt2 : k < ys.length := by omega
        have h1 : w.cell? ⟨b1, o1 + k, none⟩ = some (.bool xs[k]) := ha.at (by simp [hlt])
        have h2 : w.cell? ⟨b2, o2 + k, none⟩ = some (.bool ys[k]) := hb.at (by simp [hlt2])
        clear ha hb
        go_wp2
        go_quiet (fail)
        go_wp2
        · go_ret
          have hd : ¬ xs = ys := fun e => by
            have h : (xs[k] != ys[k]) = true := by assumption
            subst e
            simp at h
          exact ⟨by simp [hd], _, World.drewN_drewN ..⟩
        · have hd : xs[k] = ys[k] := by
            have h : (xs[k] != ys[k]) = false := by assumption
            simpa using h
          go_roundw
          case rel => exact ⟨k + 1, _, by omega, by go_num, rfl, take_eq_succB HE.out hlt hlt2 hd⟩
          case measure => simp [intOf]; omega
      · have HD : Hid (xs = ys) := by
          have h := HE.out
          have hL := HL.out
          rw [List.take_of_length_le (by omega), List.take_of_length_le (by omega)] at h
          exact h
        clear ha hb
        go_wp2
        go_ret
        exact ⟨by simp [HD.out], _, rfl⟩
  · have hne : ((xs.length : Int) != (ys.length : Int)) = true := by simp; omega
    have hd : ¬ xs = ys := fun e => hl (by rw [e])
    have HD : Hid (¬ xs = ys) := hd
    clear hd hl ha hb
    go_enter Try.func31, Try.ntmps31
    go_wp2
    go_ret
    exact ⟨by simp [HD.out], 0, rfl⟩

end Go.Proofs.Ytclbmfjincekfab
