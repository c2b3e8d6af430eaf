/-
  Chapter 2's smaller functions, and the reference's: the contract of each.
-/
import Derived.Test.YtcpnbkgkknlocaaDoorSum1
import Derived.Test.YtcpnbkgkknlocaaDoorCutPure
namespace Go.Proofs.YtcpnbkgkknlocaaDoor
open Go.RowKit
set_option linter.unusedVariables false
set_option linter.unusedSimpArgs false

theorem div_le {B K : Int} (h : 1 ≤ B) (k : 1 ≤ K) : 0 ≤ (B - 1) / K ∧ (B - 1) / K ≤ B - 1 :=
  ⟨Int.ediv_nonneg (by omega) (by omega), Int.ediv_le_self _ (by omega)⟩

theorem cutBlocks_any (B K : Int) (w : World) (hB : I64 B) (hK : I64 K) :
    Calls Tryd.prog 49 #[.agg #[.int .i64 B, .int .i64 K]] w fun e w' => e = .returned (.int .i64 (nB B K)) ∧ Below w.heap.size w w' := by
  obtain ⟨hB1, hB2⟩ := hB
  obtain ⟨hK1, hK2⟩ := hK
  by_cases h1 : B < 1
  · go_enter Tryd.func49, Tryd.ntmps49
    go_wp2
    all_goals go_ret
    all_goals exact ⟨ret_int (nB_none (.inl h1)).symm, (Below.refl _ _).alloc (Nat.le_refl _) _⟩
  have h1 : 1 ≤ B := by omega
  by_cases h2 : K < 1
  · go_enter Tryd.func49, Tryd.ntmps49
    go_wp2
    all_goals go_ret
    all_goals exact ⟨ret_int (nB_none (.inr h2)).symm, (Below.refl _ _).alloc (Nat.le_refl _) _⟩
  have h2 : 1 ≤ K := by omega
  obtain ⟨d1, d2⟩ := div_le h1 h2
  go_enter Tryd.func49, Tryd.ntmps49
  go_wp2
  go_ret
  exact ⟨ret_int (nB_some h1 h2).symm, (Below.refl _ _).alloc (Nat.le_refl _) _⟩

theorem chkP_range {B K : Int} (h : B < 1 ∨ 360 < B ∨ K < 1 ∨ 16 < K) : chkP B K = 3 := if_pos h
theorem chkP_many {B K : Int} (h : ¬ (B < 1 ∨ 360 < B ∨ K < 1 ∨ 16 < K)) (k : 24 < nB B K) : chkP B K = 2 := by rw [chkP, if_neg h, if_pos k]
theorem chkP_ok {B K : Int} (h : ¬ (B < 1 ∨ 360 < B ∨ K < 1 ∨ 16 < K)) (k : ¬ 24 < nB B K) : chkP B K = 0 := by rw [chkP, if_neg h, if_neg k]

theorem cutCheck_any (B K : Int) (w : World) (hB : I64 B) (hK : I64 K) :
    Calls Tryd.prog 24 #[.agg #[.int .i64 B, .int .i64 K]] w fun e w' => e = .returned (.int .i64 (chkP B K)) ∧ Below w.heap.size w w' := by
  by_cases h1 : B < 1
  · go_enter Tryd.func24, Tryd.ntmps24
    go_wp2
    all_goals go_ret
    all_goals exact ⟨ret_int (chkP_range (.inl h1)).symm, (Below.refl _ _).alloc (Nat.le_refl _) _⟩
  have h1 : 1 ≤ B := by omega
  by_cases h2 : 360 < B
  · go_enter Tryd.func24, Tryd.ntmps24
    go_wp2
    all_goals go_ret
    all_goals exact ⟨ret_int (chkP_range (.inr (.inl h2))).symm, (Below.refl _ _).alloc (Nat.le_refl _) _⟩
  have h2 : B ≤ 360 := by omega
  by_cases h3 : K < 1
  · go_enter Tryd.func24, Tryd.ntmps24
    go_wp2
    all_goals go_ret
    all_goals exact ⟨ret_int (chkP_range (.inr (.inr (.inl h3)))).symm, (Below.refl _ _).alloc (Nat.le_refl _) _⟩
  have h3 : 1 ≤ K := by omega
  by_cases h4 : 16 < K
  · go_enter Tryd.func24, Tryd.ntmps24
    go_wp2
    all_goals go_ret
    all_goals exact ⟨ret_int (chkP_range (.inr (.inr (.inr h4)))).symm, (Below.refl _ _).alloc (Nat.le_refl _) _⟩
  have h4 : K ≤ 16 := by omega
  have hr : Hid (¬ (B < 1 ∨ 360 < B ∨ K < 1 ∨ 16 < K)) := show ¬ (B < 1 ∨ 360 < B ∨ K < 1 ∨ 16 < K) by omega
  by_cases h5 : 24 < nB B K
  · go_enter Tryd.func24, Tryd.ntmps24
    go_wp2_with fail
    refine (cutBlocks_any B K _ hB hK).mono ?_
    rintro e w1 ⟨rfl, hb⟩
    have hb := boxBelow hb
    go_wp2
    go_ret
    exact ⟨ret_int (chkP_many hr.out h5).symm, hb⟩
  · go_enter Tryd.func24, Tryd.ntmps24
    go_wp2_with fail
    refine (cutBlocks_any B K _ hB hK).mono ?_
    rintro e w1 ⟨rfl, hb⟩
    have hb := boxBelow hb
    go_wp2
    go_ret
    exact ⟨ret_int (chkP_ok hr.out (Int.not_lt.2 h5)).symm, hb⟩

theorem nB_alt {B K : Int} (h1 : 1 ≤ B) (h2 : 1 ≤ K) : (0 < B % K → nB B K = B / K + 1) ∧ (¬ 0 < B % K → nB B K = B / K) := by
  rw [nB_some h1 h2]
  have e := Int.mul_ediv_add_emod B K
  have m1 := Int.emod_nonneg B (show K ≠ 0 by omega)
  have m2 := Int.emod_lt_of_pos B (show 0 < K by omega)
  refine ⟨fun h => ?_, fun h => ?_⟩
  · have : (B - 1) / K = B / K := by
      have e2 : B - 1 = (B % K - 1) + K * (B / K) := by omega
      rw [e2, Int.add_mul_ediv_left _ _ (by omega), Int.ediv_eq_zero_of_lt (by omega) (by omega)]
      omega
    rw [this]
  · have : (B - 1) / K = B / K - 1 := by
      have e2 : B - 1 = (K - 1) + K * (B / K - 1) := by rw [Int.mul_sub]; omega
      rw [e2, Int.add_mul_ediv_left _ _ (by omega), Int.ediv_eq_zero_of_lt (by omega) (by omega)]
      omega
    omega

theorem div_le' {B K : Int} (h : 1 ≤ B) (k : 1 ≤ K) : 0 ≤ B / K ∧ B / K ≤ B := ⟨Int.ediv_nonneg (by omega) (by omega), Int.ediv_le_self _ (by omega)⟩

theorem div_room {B K : Int} (h : 1 ≤ B) (k : 1 ≤ K) (hB : B ≤ 9223372036854775807) (hm : 0 < B % K) : B / K + 1 ≤ 9223372036854775807 := by
  have := (nB_alt h k).1 hm
  rw [nB_some h k] at this
  have := div_le h k
  omega

theorem refBlocks_any (B K : Int) (w : World) (hB : I64 B) (hK : I64 K) :
    Calls Tryd.prog 50 #[.agg #[.int .i64 B, .int .i64 K]] w fun e w' => e = .returned (.int .i64 (nB B K)) ∧ Below w.heap.size w w' := by
  obtain ⟨hB1, hB2⟩ := hB
  obtain ⟨hK1, hK2⟩ := hK
  by_cases h1 : B < 1
  · go_enter Tryd.func50, Tryd.ntmps50
    go_wp2
    all_goals go_ret
    all_goals exact ⟨ret_int (nB_none (.inl h1)).symm, (Below.refl _ _).alloc (Nat.le_refl _) _⟩
  have h1 : 1 ≤ B := by omega
  by_cases h2 : K < 1
  · go_enter Tryd.func50, Tryd.ntmps50
    go_wp2
    all_goals go_ret
    all_goals exact ⟨ret_int (nB_none (.inr h2)).symm, (Below.refl _ _).alloc (Nat.le_refl _) _⟩
  have h2 : 1 ≤ K := by omega
  obtain ⟨d1, d2⟩ := div_le' h1 h2
  by_cases hm : 0 < B % K
  · have d3 := div_room h1 h2 hB2 hm
    go_enter Tryd.func50, Tryd.ntmps50
    go_wp2
    go_ret
    exact ⟨ret_int ((nB_alt h1 h2).1 hm).symm, (Below.refl _ _).alloc (Nat.le_refl _) _⟩
  · go_enter Tryd.func50, Tryd.ntmps50
    go_wp2
    go_ret
    exact ⟨ret_int ((nB_alt h1 h2).2 (Int.not_lt.2 hm)).symm, (Below.refl _ _).alloc (Nat.le_refl _) _⟩

theorem checkPlan_any (B K : Int) (w : World) (hB : I64 B) (hK : I64 K) :
    Calls Tryd.prog 26 #[.agg #[.int .i64 B, .int .i64 K]] w fun e w' => e = .returned (.int .i64 (chkP B K)) ∧ Below w.heap.size w w' := by
  by_cases h1 : 1 ≤ B ∧ B ≤ 360
  · have d1 : decide (1 ≤ B ∧ B ≤ 360) = true := decide_eq_true h1
    by_cases h2 : 1 ≤ K ∧ K ≤ 16
    · have d2 : decide (1 ≤ K ∧ K ≤ 16) = true := decide_eq_true h2
      have hr : Hid (¬ (B < 1 ∨ 360 < B ∨ K < 1 ∨ 16 < K)) := show ¬ (B < 1 ∨ 360 < B ∨ K < 1 ∨ 16 < K) by omega
      by_cases h5 : 24 < nB B K
      · go_enter Tryd.func26, Tryd.ntmps26
        go_wp2_with (go_at_call 25; refine (in_any _ _ _ _).mono ?_; rintro e w' ⟨rfl, rfl⟩)
        refine (refBlocks_any B K _ hB hK).mono ?_
        rintro e w1 ⟨rfl, hb⟩
        have hb := boxBelow hb
        go_wp2
        go_ret
        exact ⟨ret_int (chkP_many hr.out h5).symm, hb⟩
      · go_enter Tryd.func26, Tryd.ntmps26
        go_wp2_with (go_at_call 25; refine (in_any _ _ _ _).mono ?_; rintro e w' ⟨rfl, rfl⟩)
        refine (refBlocks_any B K _ hB hK).mono ?_
        rintro e w1 ⟨rfl, hb⟩
        have hb := boxBelow hb
        go_wp2
        go_ret
        exact ⟨ret_int (chkP_ok hr.out (Int.not_lt.2 h5)).symm, hb⟩
    · have d2 : decide (1 ≤ K ∧ K ≤ 16) = false := decide_eq_false h2
      have hr : Hid (chkP B K = 3) := chkP_range (by omega)
      clear h1 h2
      go_enter Tryd.func26, Tryd.ntmps26
      go_wp2_with (go_at_call 25; refine (in_any _ _ _ _).mono ?_; rintro e w' ⟨rfl, rfl⟩)
      go_ret
      exact ⟨ret_int hr.out.symm, (Below.refl _ _).alloc (Nat.le_refl _) _⟩
  · have d1 : decide (1 ≤ B ∧ B ≤ 360) = false := decide_eq_false h1
    have hr : Hid (chkP B K = 3) := chkP_range (by omega)
    clear h1
    go_enter Tryd.func26, Tryd.ntmps26
    go_wp2_with (go_at_call 25; refine (in_any _ _ _ _).mono ?_; rintro e w' ⟨rfl, rfl⟩)
    go_ret
    exact ⟨ret_int hr.out.symm, (Below.refl _ _).alloc (Nat.le_refl _) _⟩

theorem allZero_no {l : List UInt8} {k : Nat} (h : k < l.length) (hne : ((l[k].toNat : Int) != 0) = true) : allZero l = false := by
  rw [Bool.eq_false_iff]
  intro hz
  simp only [allZero, List.all_eq_true, beq_iff_eq] at hz
  have := hz l[k] (by simp)
  rw [this] at hne
  simp at hne

theorem u8_zero {x : UInt8} (h : ((x.toNat : Int) != 0) = false) : x = 0 := by
  simp at h
  exact UInt8.toNat_inj.1 (by simpa using h)

end Go.Proofs.YtcpnbkgkknlocaaDoor
