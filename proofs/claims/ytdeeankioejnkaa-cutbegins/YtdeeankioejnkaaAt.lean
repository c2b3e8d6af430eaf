/-
  'at' of the statements: its contract.
-/
import Derived.Test.YtdeeankioejnkaaSum1
namespace Go.Proofs.Ytdeeankioejnkaa
open Go.RowKit
set_option linter.unusedVariables false
set_option linter.unusedSimpArgs false

/-- a number brought among so many -/
def atN (k n : Int) : Int := if k.tmod n < 0 then k.tmod n + n else k.tmod n

theorem atN_lt (k : Int) {n : Int} (h : 0 < n) : 0 ≤ atN k n ∧ atN k n < n := by
  unfold atN
  have h1 := Int.tmod_lt_of_pos k h
  have h2 := Int.lt_tmod_of_pos k h
  split <;> omega

theorem at_any (k n : Int) (w : World) (hk : -9223372036854775808 ≤ k ∧ k ≤ 9223372036854775807) (hn : 0 < n) (hn2 : n ≤ 9223372036854775807) :
    Calls Try.prog 19 #[.int .i64 k, .int .i64 n] w fun e w' => e = .returned (.int .i64 (atN k n)) ∧ w = w' := by
  obtain ⟨hk1, hk2⟩ := hk
  have h1 := Int.tmod_lt_of_pos k hn
  have h2 := Int.lt_tmod_of_pos k hn
  have hn0 : (n == 0) = false := by rw [beq_eq_false_iff_ne]; omega
  have HA : Hid (atN k n = if k.tmod n < 0 then k.tmod n + n else k.tmod n) := rfl
  go_enter Try.func19, Try.ntmps19
  go_wp2
  · go_ret
    exact ⟨ret_int (by rw [HA.out, if_pos (by assumption)]), rfl⟩
  · go_ret
    exact ⟨ret_int (by rw [HA.out, if_neg (by omega)]), rfl⟩

end Go.Proofs.Ytdeeankioejnkaa
