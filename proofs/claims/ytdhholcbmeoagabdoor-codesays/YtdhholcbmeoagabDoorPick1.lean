/-
  pick.next and pick.howMany: the contract of each.
-/
import Derived.Test.YtdhholcbmeoagabDoorIn
import Derived.Test.YtdhholcbmeoagabDoorPickPure
namespace Go.Proofs.YtdhholcbmeoagabDoor
open Go.RowKit
set_option linter.unusedVariables false
set_option linter.unusedSimpArgs false

/-- the variable's cells -/
def limV : List Value := [.int .i64 8192, .int .i64 40960, .int .i64 51882, .int .i64 57344, .int .i64 60621]

/-- the program's limits are laid as its text lays them -/
def Laid (w : World) : Prop := Lies w (some ⟨0, 0, none⟩) limV

theorem Laid.below {w w' : World} (h : Laid w) (hb : Below w.heap.size w w') : Laid w' := Lies.below hb h (Nat.le_refl _)

theorem next_any (x : Nat) (w : World) (hx : x < 65536) :
    Calls Tryd.prog 21 #[.int .i64 x] w fun e w' => e = .returned (.int .i64 (nx x : Nat)) ∧ w = w' := by
  go_enter Tryd.func21, Tryd.ntmps21
  go_wp2
  go_ret
  exact ⟨ret_int (by simp [nx]), rfl⟩

theorem howMany_any (x b : Nat) (w : World) (hx : x < 65536) (hb : b ≤ 24) (hL : Laid w) :
    Calls Tryd.prog 22 #[.int .i64 x, .int .i64 b] w fun e w' => e = .returned (.int .i64 (many b x : Nat)) ∧ w = w' := by
  have c0 := Lies.at hL (k := 0) rfl
  have c1 := Lies.at hL (k := 1) rfl
  have c2 := Lies.at hL (k := 2) rfl
  have c3 := Lies.at hL (k := 3) rfl
  have c4 := Lies.at hL (k := 4) rfl
  have i0 : ∀ W : World, (Instr.index 63 (.agg #[.int .i64 8192, .int .i64 40960, .int .i64 51882, .int .i64 57344, .int .i64 60621]) (.int .i64 0)).run Tryd.prog W = .ok (.int .i64 8192) W := fun _ => by kernel_rfl
  have i1 : ∀ W : World, (Instr.index 63 (.agg #[.int .i64 8192, .int .i64 40960, .int .i64 51882, .int .i64 57344, .int .i64 60621]) (.int .i64 1)).run Tryd.prog W = .ok (.int .i64 40960) W := fun _ => by kernel_rfl
  have i2 : ∀ W : World, (Instr.index 63 (.agg #[.int .i64 8192, .int .i64 40960, .int .i64 51882, .int .i64 57344, .int .i64 60621]) (.int .i64 2)).run Tryd.prog W = .ok (.int .i64 51882) W := fun _ => by kernel_rfl
  have i3 : ∀ W : World, (Instr.index 63 (.agg #[.int .i64 8192, .int .i64 40960, .int .i64 51882, .int .i64 57344, .int .i64 60621]) (.int .i64 3)).run Tryd.prog W = .ok (.int .i64 57344) W := fun _ => by kernel_rfl
  have i4 : ∀ W : World, (Instr.index 63 (.agg #[.int .i64 8192, .int .i64 40960, .int .i64 51882, .int .i64 57344, .int .i64 60621]) (.int .i64 4)).run Tryd.prog W = .ok (.int .i64 60621) W := fun _ => by kernel_rfl
  go_enter Tryd.func22, Tryd.ntmps22
  clear hL
  go_wp2
  clear c0 c1 c2 c3 c4
  go_loopw [8] (fun i wr => ∃ k : Nat, k ≤ 5 ∧ i = .int .i64 k ∧ wr = w ∧ Hid (∀ j, j < k → lim.getD j 0 ≤ x)) (fun i _ => 5 - (intOf i).toNat)
  case atStart => exact ⟨0, Nat.zero_le _, rfl, rfl, fun j hj => by omega⟩
  case round =>
    obtain ⟨k, hk, rfl, rfl, HL⟩ := hrel
    by_cases hlt : k < 5
    · by_cases hx2 : x < lim.getD k 0
      · have HM : Hid (many b x = min (k + 1) b) := many_at hlt HL.out hx2
        have h5 : k = 0 ∨ k = 1 ∨ k = 2 ∨ k = 3 ∨ k = 4 := by omega
        clear hlt hk HL
        obtain ⟨L, hLk⟩ : ∃ L : Int, L = lim.getD k 0 := ⟨_, rfl⟩
        have hx3 : (x : Int) < L := by omega
        have hi : ∀ W : World, (Instr.index 63 (.agg #[.int .i64 8192, .int .i64 40960, .int .i64 51882, .int .i64 57344, .int .i64 60621]) (.int .i64 k)).run Tryd.prog W = .ok (.int .i64 L) W := by
          rcases h5 with rfl | rfl | rfl | rfl | rfl
          · rw [hLk]; exact i0
          · rw [hLk]; exact i1
          · rw [hLk]; exact i2
          · rw [hLk]; exact i3
          · rw [hLk]; exact i4
        have hk5 : (k : Int) < 5 := by omega
        clear i0 i1 i2 i3 i4 hLk hx2 h5 hx
        go_wp2
        all_goals go_ret
        all_goals exact ⟨ret_int (by rw [HM.out]; omega), rfl⟩
      · have HN : Hid (∀ j, j < k + 1 → lim.getD j 0 ≤ x) := fun j hj => by
          by_cases e : j = k
          · subst e; omega
          · exact HL.out j (by omega)
        have h5 : k = 0 ∨ k = 1 ∨ k = 2 ∨ k = 3 ∨ k = 4 := by omega
        clear hlt hk HL
        obtain ⟨L, hLk⟩ : ∃ L : Int, L = lim.getD k 0 := ⟨_, rfl⟩
        have hx3 : L ≤ (x : Int) := by omega
        have hi : ∀ W : World, (Instr.index 63 (.agg #[.int .i64 8192, .int .i64 40960, .int .i64 51882, .int .i64 57344, .int .i64 60621]) (.int .i64 k)).run Tryd.prog W = .ok (.int .i64 L) W := by
          rcases h5 with rfl | rfl | rfl | rfl | rfl
          · rw [hLk]; exact i0
          · rw [hLk]; exact i1
          · rw [hLk]; exact i2
          · rw [hLk]; exact i3
          · rw [hLk]; exact i4
        have hk5 : (k : Int) < 5 := by omega
        clear i0 i1 i2 i3 i4 hLk hx2 hx
        go_wp2
        go_roundw
        case rel => exact ⟨k + 1, by omega, by go_num, trivial, HN⟩
        case measure => simp [intOf]; omega
    · obtain rfl : k = 5 := by omega
      have HM : Hid (many b x = max (b / 2) 1) := many_end HL.out
      clear hlt hk HL
      go_wp2
      all_goals go_ret
      all_goals exact ⟨ret_int (by rw [HM.out]; omega), rfl⟩

end Go.Proofs.YtdhholcbmeoagabDoor
