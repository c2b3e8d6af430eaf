import Derived.Test.YthhhlampphlmgaaRows
import Derived.Test.YthhhlampphlmgaaPart1
import Derived.Deep.OwnRows
import Derived.BigQuiet
import Derived.Deep.QuietTactic
import Derived.Laws.BitsAllLaws
import Derived.Laws.CopyOwn
import Derived.Laws.StructEq
/-
  Chapter 1's smaller functions: the contract of each.
-/
namespace Go.Proofs.Ythhhlampphlmgaa
open Go.RowKit
set_option linter.unusedVariables false
set_option linter.unusedSimpArgs false

theorem AllIn.below {w w' : World} {bl : List Blk} (h : AllIn w bl) (hb : Below w.heap.size w w') : AllIn w' bl := fun b hm => ⟨(h b hm).1.below hb (Nat.le_refl _), (h b hm).2⟩

theorem lens_get {bl : List Blk} {k : Nat} (h : k < bl.length) : (lens bl)[k]'(by simpa [lens] using h) = bl[k].l.length := by simp [lens]

theorem chk_2 {bl : List Blk} {k : Nat} (hok : Hid (okTo ((lens bl).headD 0) (lens bl) k)) (h : k < bl.length) (hb : (bl[k].l.length : Int) < 1 ∨ 16 < (bl[k].l.length : Int)) : (2 : Int) = chk (lens bl) :=
  (((chkFrom_at hok.out (by simpa [lens] using h)).1 (by rw [lens_get h]; omega))).symm

theorem lens_head {bl : List Blk} (h : 0 < bl.length) : (lens bl).headD 0 = bl[0].l.length := by
  cases bl with
  | nil => simp at h
  | cons b r => simp [lens]

theorem chk_4 {bl : List Blk} {k : Nat} (hok : Hid (okTo ((lens bl).headD 0) (lens bl) k)) (h : k < bl.length) (h0 : 0 < bl.length) (h1 : 1 ≤ (bl[k].l.length : Int)) (h2 : (bl[k].l.length : Int) ≤ 16) (hne : ((bl[k].l.length : Int) != (bl[0].l.length : Int)) = true) : (4 : Int) = chk (lens bl) :=
  (((chkFrom_at hok.out (by simpa [lens] using h)).2 (by rw [lens_get h]; omega) (by
    rw [lens_get h, lens_head h0]
    simp at hne
    omega))).symm

theorem chk_go {bl : List Blk} {k : Nat} (hok : Hid (okTo ((lens bl).headD 0) (lens bl) k)) (h : k < bl.length) (h0 : 0 < bl.length) (h1 : 1 ≤ (bl[k].l.length : Int)) (h2 : (bl[k].l.length : Int) ≤ 16) (hne : ((bl[k].l.length : Int) != (bl[0].l.length : Int)) = false) : okTo ((lens bl).headD 0) (lens bl) (k + 1) :=
  okTo_succ hok.out (by simpa [lens] using h) (by rw [lens_get h]; omega) (by rw [lens_get h]; omega) (by
    rw [lens_get h, lens_head h0]
    simp at hne
    omega)

theorem chk_end {bl : List Blk} {k : Nat} (hok : Hid (okTo ((lens bl).headD 0) (lens bl) k)) (hk : k = bl.length) : (0 : Int) = chk (lens bl) := by
  subst hk
  exact (chkFrom_all (l := lens bl) (by simpa [lens] using hok.out)).symm

theorem okTo_prev {f : Nat} {l : List Nat} {k : Nat} (h : Hid (okTo f l k)) (hk : 0 < k) (hl : k ≤ l.length) : l[k - 1]'(by omega) = f := (h.out (k - 1) (by omega) (by omega)).2.2

theorem chk_4p {bl : List Blk} {k : Nat} (hok : Hid (okTo ((lens bl).headD 0) (lens bl) k)) (h : k < bl.length) (hp : k - 1 < bl.length) (h1 : 1 ≤ (bl[k].l.length : Int)) (h2 : (bl[k].l.length : Int) ≤ 16)
    (HP : Hid (bl[k - 1].l.length = (lens bl).headD 0)) (hne : ((bl[k].l.length : Int) != (bl[k - 1].l.length : Int)) = true) : (4 : Int) = chk (lens bl) :=
  (((chkFrom_at hok.out (by simpa [lens] using h)).2 (by rw [lens_get h]; omega) (by
    rw [lens_get h, ← HP.out]
    simp at hne
    omega))).symm

theorem chk_gop {bl : List Blk} {k : Nat} (hok : Hid (okTo ((lens bl).headD 0) (lens bl) k)) (h : k < bl.length) (hp : k - 1 < bl.length) (h1 : 1 ≤ (bl[k].l.length : Int)) (h2 : (bl[k].l.length : Int) ≤ 16)
    (HP : Hid (bl[k - 1].l.length = (lens bl).headD 0)) (hne : ((bl[k].l.length : Int) != (bl[k - 1].l.length : Int)) = false) : okTo ((lens bl).headD 0) (lens bl) (k + 1) :=
  okTo_succ hok.out (by simpa [lens] using h) (by rw [lens_get h]; omega) (by rw [lens_get h]; omega) (by
    rw [lens_get h, ← HP.out]
    simp at hne
    omega)

end Go.Proofs.Ythhhlampphlmgaa

/-
  Chapter 2's smaller functions, and the reference's: the contract of each.
-/
namespace Go.Proofs.Ythhhlampphlmgaa
open Go.RowKit
set_option linter.unusedVariables false
set_option linter.unusedSimpArgs false

theorem div_le {B K : Int} (h : 1 ≤ B) (k : 1 ≤ K) : 0 ≤ (B - 1) / K ∧ (B - 1) / K ≤ B - 1 :=
  ⟨Int.ediv_nonneg (by omega) (by omega), Int.ediv_le_self _ (by omega)⟩

theorem cutBlocks_any (B K : Int) (w : World) (hB : I64 B) (hK : I64 K) :
    Calls Try.prog 42 #[.agg #[.int .i64 B, .int .i64 K]] w fun e w' => e = .returned (.int .i64 (nB B K)) ∧ Below w.heap.size w w' := by
  obtain ⟨hB1, hB2⟩ := hB
  obtain ⟨hK1, hK2⟩ := hK
  by_cases h1 : B < 1
  · go_enter Try.func42, Try.ntmps42
    go_wp2
    all_goals go_ret
    all_goals exact ⟨ret_int (nB_none (.inl h1)).symm, (Below.refl _ _).alloc (Nat.le_refl _) _⟩
  have h1 : 1 ≤ B := by omega
  by_cases h2 : K < 1
  · go_enter Try.func42, Try.ntmps42
    go_wp2
    all_goals go_ret
    all_goals exact ⟨ret_int (nB_none (.inr h2)).symm, (Below.refl _ _).alloc (Nat.le_refl _) _⟩
  have h2 : 1 ≤ K := by omega
  obtain ⟨d1, d2⟩ := div_le h1 h2
  go_enter Try.func42, Try.ntmps42
  go_wp2
  go_ret
  exact ⟨ret_int (nB_some h1 h2).symm, (Below.refl _ _).alloc (Nat.le_refl _) _⟩

theorem chkP_range {B K : Int} (h : B < 1 ∨ 360 < B ∨ K < 1 ∨ 16 < K) : chkP B K = 3 := if_pos h
theorem chkP_many {B K : Int} (h : ¬ (B < 1 ∨ 360 < B ∨ K < 1 ∨ 16 < K)) (k : 24 < nB B K) : chkP B K = 2 := by rw [chkP, if_neg h, if_pos k]
theorem chkP_ok {B K : Int} (h : ¬ (B < 1 ∨ 360 < B ∨ K < 1 ∨ 16 < K)) (k : ¬ 24 < nB B K) : chkP B K = 0 := by rw [chkP, if_neg h, if_neg k]

theorem chkP_zero {B K : Int} (h : chkP B K = 0) : 1 ≤ B ∧ B ≤ 360 ∧ 1 ≤ K ∧ K ≤ 16 := by
  unfold chkP at h
  split at h
  · simp at h
  · omega

theorem cutCheck_any (B K : Int) (w : World) (hB : I64 B) (hK : I64 K) :
    Calls Try.prog 39 #[.agg #[.int .i64 B, .int .i64 K]] w fun e w' => e = .returned (.int .i64 (chkP B K)) ∧ Below w.heap.size w w' := by
  by_cases h1 : B < 1
  · go_enter Try.func39, Try.ntmps39
    go_wp2
    all_goals go_ret
    all_goals exact ⟨ret_int (chkP_range (.inl h1)).symm, (Below.refl _ _).alloc (Nat.le_refl _) _⟩
  have h1 : 1 ≤ B := by omega
  by_cases h2 : 360 < B
  · go_enter Try.func39, Try.ntmps39
    go_wp2
    all_goals go_ret
    all_goals exact ⟨ret_int (chkP_range (.inr (.inl h2))).symm, (Below.refl _ _).alloc (Nat.le_refl _) _⟩
  have h2 : B ≤ 360 := by omega
  by_cases h3 : K < 1
  · go_enter Try.func39, Try.ntmps39
    go_wp2
    all_goals go_ret
    all_goals exact ⟨ret_int (chkP_range (.inr (.inr (.inl h3)))).symm, (Below.refl _ _).alloc (Nat.le_refl _) _⟩
  have h3 : 1 ≤ K := by omega
  by_cases h4 : 16 < K
  · go_enter Try.func39, Try.ntmps39
    go_wp2
    all_goals go_ret
    all_goals exact ⟨ret_int (chkP_range (.inr (.inr (.inr h4)))).symm, (Below.refl _ _).alloc (Nat.le_refl _) _⟩
  have h4 : K ≤ 16 := by omega
  have hr : Hid (¬ (B < 1 ∨ 360 < B ∨ K < 1 ∨ 16 < K)) := show ¬ (B < 1 ∨ 360 < B ∨ K < 1 ∨ 16 < K) by omega
  by_cases h5 : 24 < nB B K
  · go_enter Try.func39, Try.ntmps39
    go_wp2_with fail
    refine (cutBlocks_any B K _ hB hK).mono ?_
    rintro e w1 ⟨rfl, hb⟩
    have hb := boxBelow hb
    go_wp2
    go_ret
    exact ⟨ret_int (chkP_many hr.out h5).symm, hb⟩
  · go_enter Try.func39, Try.ntmps39
    go_wp2_with fail
    refine (cutBlocks_any B K _ hB hK).mono ?_
    rintro e w1 ⟨rfl, hb⟩
    have hb := boxBelow hb
    go_wp2
    go_ret
    exact ⟨ret_int (chkP_ok hr.out (Int.not_lt.2 h5)).symm, hb⟩

theorem nB_alt {B K : Int} (h1 : 1 ≤ B) (h2 : 1 ≤ K) : (0 < B % K → nB B K = B / K + 1) ∧ (¬ 0 < B % K → nB B K = B / K) := by
  rw [nB_some h1 h2]
  have e := Int.mul_ediv_add_emod B K
  have m1 := Int.emod_nonneg B (show K ≠ 0 by omega)
  have m2 := Int.emod_lt_of_pos B (show 0 < K by omega)
  refine ⟨fun h => ?_, fun h => ?_⟩
  · have : (B - 1) / K = B / K := by
      have e2 : B - 1 = (B % K - 1) + K * (B / K) := by omega
      rw [e2, Int.add_mul_ediv_left _ _ (by omega), Int.ediv_eq_zero_of_lt (by omega) (by omega)]
      omega
    rw [this]
  · have : (B - 1) / K = B / K - 1 := by
      have e2 : B - 1 = (K - 1) + K * (B / K - 1) := by rw [Int.mul_sub]; omega
      rw [e2, Int.add_mul_ediv_left _ _ (by omega), Int.ediv_eq_zero_of_lt (by omega) (by omega)]
      omega
    omega

theorem div_le' {B K : Int} (h : 1 ≤ B) (k : 1 ≤ K) : 0 ≤ B / K ∧ B / K ≤ B := ⟨Int.ediv_nonneg (by omega) (by omega), Int.ediv_le_self _ (by omega)⟩

theorem div_room {B K : Int} (h : 1 ≤ B) (k : 1 ≤ K) (hB : B ≤ 9223372036854775807) (hm : 0 < B % K) : B / K + 1 ≤ 9223372036854775807 := by
  have := (nB_alt h k).1 hm
  rw [nB_some h k] at this
  have := div_le h k
  omega

theorem refBlocks_any (B K : Int) (w : World) (hB : I64 B) (hK : I64 K) :
    Calls Try.prog 36 #[.agg #[.int .i64 B, .int .i64 K]] w fun e w' => e = .returned (.int .i64 (nB B K)) ∧ Below w.heap.size w w' := by
  obtain ⟨hB1, hB2⟩ := hB
  obtain ⟨hK1, hK2⟩ := hK
  by_cases h1 : B < 1
  · go_enter Try.func36, Try.ntmps36
    go_wp2
    all_goals go_ret
    all_goals exact ⟨ret_int (nB_none (.inl h1)).symm, (Below.refl _ _).alloc (Nat.le_refl _) _⟩
  have h1 : 1 ≤ B := by omega
  by_cases h2 : K < 1
  · go_enter Try.func36, Try.ntmps36
    go_wp2
    all_goals go_ret
    all_goals exact ⟨ret_int (nB_none (.inr h2)).symm, (Below.refl _ _).alloc (Nat.le_refl _) _⟩
  have h2 : 1 ≤ K := by omega
  obtain ⟨d1, d2⟩ := div_le' h1 h2
  by_cases hm : 0 < B % K
  · have d3 := div_room h1 h2 hB2 hm
    go_enter Try.func36, Try.ntmps36
    go_wp2
    go_ret
    exact ⟨ret_int ((nB_alt h1 h2).1 hm).symm, (Below.refl _ _).alloc (Nat.le_refl _) _⟩
  · go_enter Try.func36, Try.ntmps36
    go_wp2
    go_ret
    exact ⟨ret_int ((nB_alt h1 h2).2 (Int.not_lt.2 hm)).symm, (Below.refl _ _).alloc (Nat.le_refl _) _⟩

theorem checkPlan_any (B K : Int) (w : World) (hB : I64 B) (hK : I64 K) :
    Calls Try.prog 29 #[.agg #[.int .i64 B, .int .i64 K]] w fun e w' => e = .returned (.int .i64 (chkP B K)) ∧ Below w.heap.size w w' := by
  by_cases h1 : 1 ≤ B ∧ B ≤ 360
  · have d1 : decide (1 ≤ B ∧ B ≤ 360) = true := decide_eq_true h1
    by_cases h2 : 1 ≤ K ∧ K ≤ 16
    · have d2 : decide (1 ≤ K ∧ K ≤ 16) = true := decide_eq_true h2
      have hr : Hid (¬ (B < 1 ∨ 360 < B ∨ K < 1 ∨ 16 < K)) := show ¬ (B < 1 ∨ 360 < B ∨ K < 1 ∨ 16 < K) by omega
      by_cases h5 : 24 < nB B K
      · go_enter Try.func29, Try.ntmps29
        go_wp2_with (go_at_call 18; refine (in_any _ _ _ _).mono ?_; rintro e w' ⟨rfl, rfl⟩)
        refine (refBlocks_any B K _ hB hK).mono ?_
        rintro e w1 ⟨rfl, hb⟩
        have hb := boxBelow hb
        go_wp2
        go_ret
        exact ⟨ret_int (chkP_many hr.out h5).symm, hb⟩
      · go_enter Try.func29, Try.ntmps29
        go_wp2_with (go_at_call 18; refine (in_any _ _ _ _).mono ?_; rintro e w' ⟨rfl, rfl⟩)
        refine (refBlocks_any B K _ hB hK).mono ?_
        rintro e w1 ⟨rfl, hb⟩
        have hb := boxBelow hb
        go_wp2
        go_ret
        exact ⟨ret_int (chkP_ok hr.out (Int.not_lt.2 h5)).symm, hb⟩
    · have d2 : decide (1 ≤ K ∧ K ≤ 16) = false := decide_eq_false h2
      have hr : Hid (chkP B K = 3) := chkP_range (by omega)
      clear h1 h2
      go_enter Try.func29, Try.ntmps29
      go_wp2_with (go_at_call 18; refine (in_any _ _ _ _).mono ?_; rintro e w' ⟨rfl, rfl⟩)
      go_ret
      exact ⟨ret_int hr.out.symm, (Below.refl _ _).alloc (Nat.le_refl _) _⟩
  · have d1 : decide (1 ≤ B ∧ B ≤ 360) = false := decide_eq_false h1
    have hr : Hid (chkP B K = 3) := chkP_range (by omega)
    clear h1
    go_enter Try.func29, Try.ntmps29
    go_wp2_with (go_at_call 18; refine (in_any _ _ _ _).mono ?_; rintro e w' ⟨rfl, rfl⟩)
    go_ret
    exact ⟨ret_int hr.out.symm, (Below.refl _ _).alloc (Nat.le_refl _) _⟩

theorem allZero_no {l : List UInt8} {k : Nat} (h : k < l.length) (hne : ((l[k].toNat : Int) != 0) = true) : allZero l = false := by
  rw [Bool.eq_false_iff]
  intro hz
  simp only [allZero, List.all_eq_true, beq_iff_eq] at hz
  have := hz l[k] (by simp)
  rw [this] at hne
  simp at hne

theorem u8_zero {x : UInt8} (h : ((x.toNat : Int) != 0) = false) : x = 0 := by
  simp at h
  exact UInt8.toNat_inj.1 (by simpa using h)

end Go.Proofs.Ythhhlampphlmgaa

/-
  Chapter 7, the reference: CheckHead.
-/
namespace Go.Proofs.Ythhhlampphlmgaa
open Go.RowKit
set_option linter.unusedVariables false
set_option linter.unusedSimpArgs false

/-- a head, told by its numbers -/
structure Hd where
  F : Int
  Q : Int
  T : Int
  L : Int
  B : Int
  K : Int

def Hd.val (h : Hd) : Value := .agg #[.int .i64 h.F, .int .i64 h.Q, .int .i64 h.T, .int .i64 h.L, .int .i64 h.B, .int .i64 h.K]
def Hd.ok (h : Hd) : Prop := I64 h.F ∧ I64 h.Q ∧ I64 h.T ∧ I64 h.L ∧ I64 h.B ∧ I64 h.K

/-- is it within its bounds? -/
def Hd.fits (h : Hd) : Prop := (0 ≤ h.F ∧ h.F ≤ 3) ∧ (0 ≤ h.T ∧ h.T ≤ 3) ∧ (0 ≤ h.Q ∧ h.Q ≤ 49) ∧ (1 ≤ h.L ∧ h.L ≤ 1000000)

instance (h : Hd) : Decidable h.fits := by unfold Hd.fits; exact inferInstance

/-- what chapter 7's Head answers -/
def hdCode (h : Hd) : Int := if ¬ h.fits then 3 else if h.F = h.T then 5 else chkP h.B h.K

set_option maxRecDepth 8000 in
theorem checkHead_any (h : Hd) (w : World) (ho : h.ok) :
    Calls Try.prog 19 #[h.val] w fun e w' => e = .returned (.int .i64 (hdCode h)) ∧ Below w.heap.size w w' := by
  obtain ⟨F, Q, T, L, B, K⟩ := h
  obtain ⟨oF, oQ, oT, oL, oB, oK⟩ := ho
  simp only [Hd.val] at *
  have hBl : Below w.heap.size w (w.alloc (.cells #[.int .i64 F, .int .i64 Q, .int .i64 T, .int .i64 L, .int .i64 B, .int .i64 K] 26)) := (Below.refl _ _).alloc (Nat.le_refl _) _
  by_cases h1 : 0 ≤ F ∧ F ≤ 3
  · by_cases h2 : 0 ≤ T ∧ T ≤ 3
    · by_cases h3 : 0 ≤ Q ∧ Q ≤ 49
      · by_cases h4 : 1 ≤ L ∧ L ≤ 1000000
        · have d1 := Shut.mk (decide_eq_true h1)
          have d2 := Shut.mk (decide_eq_true h2)
          have d3 := Shut.mk (decide_eq_true h3)
          have d4 := Shut.mk (decide_eq_true h4)
          have hf : (⟨F, Q, T, L, B, K⟩ : Hd).fits := ⟨h1, h2, h3, h4⟩
          by_cases h5 : F = T
          · have hc : hdCode ⟨F, Q, T, L, B, K⟩ = 5 := by rw [hdCode, if_neg (by simp [hf]), if_pos h5]
            have HC := Shut.mk hc
            have h5' : (F == T) = true := by simpa using h5
            clear h1 h2 h3 h4 hf hc h5
            go_enter Try.func19, Try.ntmps19
            go_wp2_with fail
            refine (in_any F 0 3 _).mono ?_
            rintro e w2 ⟨rfl, rfl⟩
            rw [d1.out]
            go_wp2_with fail
            refine (in_any T 0 3 _).mono ?_
            rintro e w2 ⟨rfl, rfl⟩
            rw [d2.out]
            go_wp2_with fail
            refine (in_any Q 0 49 _).mono ?_
            rintro e w2 ⟨rfl, rfl⟩
            rw [d3.out]
            go_wp2_with fail
            refine (in_any L 1 1000000 _).mono ?_
            rintro e w2 ⟨rfl, rfl⟩
            rw [d4.out]
            go_wp2
            go_ret
            exact ⟨ret_int HC.out.symm, hBl⟩
          · have hc : hdCode ⟨F, Q, T, L, B, K⟩ = chkP B K := by rw [hdCode, if_neg (by simp [hf]), if_neg h5]
            have HC := Shut.mk hc
            have h5' : (F == T) = false := by simpa using h5
            have hP := checkPlan_any B K (w.alloc (.cells #[.int .i64 F, .int .i64 Q, .int .i64 T, .int .i64 L, .int .i64 B, .int .i64 K] 26)) oB oK
            clear h1 h2 h3 h4 hf hc h5
            go_enter Try.func19, Try.ntmps19
            go_wp2_with fail
            refine (in_any F 0 3 _).mono ?_
            rintro e w2 ⟨rfl, rfl⟩
            rw [d1.out]
            go_wp2_with fail
            refine (in_any T 0 3 _).mono ?_
            rintro e w2 ⟨rfl, rfl⟩
            rw [d2.out]
            go_wp2_with fail
            refine (in_any Q 0 49 _).mono ?_
            rintro e w2 ⟨rfl, rfl⟩
            rw [d3.out]
            go_wp2_with fail
            refine (in_any L 1 1000000 _).mono ?_
            rintro e w2 ⟨rfl, rfl⟩
            rw [d4.out]
            go_wp2_with fail
            refine hP.mono ?_
            rintro e w3 ⟨rfl, hb3⟩
            have hF := hBl.trans (hb3.mono hBl.size)
            clear hP hb3
            go_wp2
            go_ret
            exact ⟨ret_int HC.out.symm, hF⟩
        · have d1 := Shut.mk (decide_eq_true h1)
          have d2 := Shut.mk (decide_eq_true h2)
          have d3 := Shut.mk (decide_eq_true h3)
          have d4 := Shut.mk (decide_eq_false h4)
          have HC : Shut (hdCode ⟨F, Q, T, L, B, K⟩ = 3) := ⟨by rw [hdCode, if_pos (fun hf => h4 hf.2.2.2)]⟩
          clear h1 h2 h3 h4
          go_enter Try.func19, Try.ntmps19
          go_wp2_with fail
          refine (in_any F 0 3 _).mono ?_
          rintro e w2 ⟨rfl, rfl⟩
          rw [d1.out]
          go_wp2_with fail
          refine (in_any T 0 3 _).mono ?_
          rintro e w2 ⟨rfl, rfl⟩
          rw [d2.out]
          go_wp2_with fail
          refine (in_any Q 0 49 _).mono ?_
          rintro e w2 ⟨rfl, rfl⟩
          rw [d3.out]
          go_wp2_with fail
          refine (in_any L 1 1000000 _).mono ?_
          rintro e w2 ⟨rfl, rfl⟩
          rw [d4.out]
          go_wp2
          go_ret
          exact ⟨ret_int HC.out.symm, hBl⟩
      · have d1 := Shut.mk (decide_eq_true h1)
        have d2 := Shut.mk (decide_eq_true h2)
        have d3 := Shut.mk (decide_eq_false h3)
        have HC : Shut (hdCode ⟨F, Q, T, L, B, K⟩ = 3) := ⟨by rw [hdCode, if_pos (fun hf => h3 hf.2.2.1)]⟩
        clear h1 h2 h3
        go_enter Try.func19, Try.ntmps19
        go_wp2_with fail
        refine (in_any F 0 3 _).mono ?_
        rintro e w2 ⟨rfl, rfl⟩
        rw [d1.out]
        go_wp2_with fail
        refine (in_any T 0 3 _).mono ?_
        rintro e w2 ⟨rfl, rfl⟩
        rw [d2.out]
        go_wp2_with fail
        refine (in_any Q 0 49 _).mono ?_
        rintro e w2 ⟨rfl, rfl⟩
        rw [d3.out]
        go_wp2
        go_ret
        exact ⟨ret_int HC.out.symm, hBl⟩
    · have d1 := Shut.mk (decide_eq_true h1)
      have d2 := Shut.mk (decide_eq_false h2)
      have HC : Shut (hdCode ⟨F, Q, T, L, B, K⟩ = 3) := ⟨by rw [hdCode, if_pos (fun hf => h2 hf.2.1)]⟩
      clear h1 h2
      go_enter Try.func19, Try.ntmps19
      go_wp2_with fail
      refine (in_any F 0 3 _).mono ?_
      rintro e w2 ⟨rfl, rfl⟩
      rw [d1.out]
      go_wp2_with fail
      refine (in_any T 0 3 _).mono ?_
      rintro e w2 ⟨rfl, rfl⟩
      rw [d2.out]
      go_wp2
      go_ret
      exact ⟨ret_int HC.out.symm, hBl⟩
  · have d1 := Shut.mk (decide_eq_false h1)
    have HC : Shut (hdCode ⟨F, Q, T, L, B, K⟩ = 3) := ⟨by rw [hdCode, if_pos (fun hf => h1 hf.1)]⟩
    clear h1
    go_enter Try.func19, Try.ntmps19
    go_wp2_with fail
    refine (in_any F 0 3 _).mono ?_
    rintro e w2 ⟨rfl, rfl⟩
    rw [d1.out]
    go_wp2
    go_ret
    exact ⟨ret_int HC.out.symm, hBl⟩

end Go.Proofs.Ythhhlampphlmgaa

/-
  'blocks' of the statements; sum.addTo and sum.Add: the contract of each.
-/
namespace Go.Proofs.Ythhhlampphlmgaa
open Go.RowKit
set_option linter.unusedVariables false
set_option linter.unusedSimpArgs false

theorem infoBlk : (Try.prog.info? 28).map (fun i => (i.zero, i.size, i.bytes)) = some (some (.slice none 0 0), 1, 24) := by kernel_rfl
theorem infoU8 : (Try.prog.info? 5).map (fun i => (i.zero, i.size, i.bytes)) = some (some (.int .u8 0), 1, 1) := by kernel_rfl

theorem blocks_step {w wr w1 : World} {v v' : Value} {bl : List Blk} {k : Nat} (hlt : k < bl.length) (hB : w.heap.size ≤ wr.heap.size) (hb : Below w.heap.size w wr)
    (ho : wr.ownsRow w.heap.size 28 1 v k ((bl.map Blk.val).take k)) (o : Obj)
    (ho' : w1.ownsRow w.heap.size 28 1 v' (k + 1) ((bl.map Blk.val).take k ++ [.slice bl[k].a bl[k].l.length bl[k].cap])) (hg : (wr.alloc o).grownBy w1 v.ownBlock) :
    w1.ownsRow w.heap.size 28 1 v' (k + 1) ((bl.map Blk.val).take (k + 1)) ∧ Below w.heap.size w w1 := by
  refine ⟨?_, ?_⟩
  · rw [List.take_succ_eq_append_getElem (by simpa using hlt)]
    simpa [Blk.val] using ho'
  · refine (hb.alloc hB o).grown hg (by simp; omega) ?_
    intro g hg'
    exact (ho.lt g hg').1

/-- the bytes of a row, by their places -/
def u8at (l : List UInt8) (i : Nat) : Value := .int .u8 ((l[i]?.getD 0).toNat : Int)

theorem row_lies {w : World} {g n : Nat} {l : List UInt8} (h : w.rowIs g 5 n (u8at l)) (hn : l.length = n) : Lies w (some ⟨g, 0, none⟩) (bs l) := by
  refine Lies.mk fun k hk => ?_
  have hk' : k < l.length := by simpa [bs] using hk
  rw [Nat.zero_add, h.cell (by omega)]
  simp [u8at, bs, hk']

/-- the first k bytes are added -/
def xorK (xs ys : List UInt8) (k : Nat) : List UInt8 := xorl (xs.take k) (ys.take k) ++ xs.drop k

theorem xorK_zero (xs ys : List UInt8) : xorK xs ys 0 = xs := by simp [xorK, xorl]

theorem xorK_all {xs ys : List UInt8} (h : ys.length = xs.length) : xorK xs ys xs.length = xorl xs ys := by
  simp [xorK]
  rw [List.take_of_length_le (by omega)]

theorem xorK_get {xs ys : List UInt8} (h : ys.length = xs.length) (k i : Nat) (hi : i < xs.length) :
    (xorK xs ys k)[i]? = some (if i < k then xs[i] ^^^ ys[i] else xs[i]) := by
  unfold xorK xorl
  rw [List.getElem?_append]
  have hl : (List.zipWith (fun x y => x ^^^ y) (List.take k xs) (List.take k ys)).length = min k xs.length := by simp [h]
  rw [hl]
  by_cases hik : i < k
  · rw [if_pos (by omega), List.getElem?_zipWith]
    simp [hik, hi, h]
  · rw [if_neg (by omega)]
    simp [hik]
    rw [List.getElem?_eq_getElem (by omega)]
    simp
    congr 1
    omega

theorem u8xor (x y : UInt8) : bits .xor .u8 (x.toNat : Int) (y.toNat : Int) = ((x ^^^ y).toNat : Int) := by
  rw [u8_xor_nat _ _ x.toNat_lt y.toNat_lt]
  simp

theorem addTo_step {w : World} {g n k : Nat} {xs ys : List UInt8} (hx : k < xs.length) (hy : k < ys.length) (he : ys.length = xs.length) (HX : Hid (xs.length = n)) (hr : w.rowIs g 5 n (u8at (xorK xs ys k))) :
    (w.setCell ⟨g, k, none⟩ (.int .u8 ((xs[k].toNat ^^^ ys[k].toNat : Nat) : Int))).rowIs g 5 n (u8at (xorK xs ys (k + 1))) := by
  refine (hr.set k _).congr fun i hi => ?_
  have hi' : i < xs.length := by rw [HX.out]; exact hi
  simp only [u8at, xorK_get he _ i hi']
  by_cases e : i = k
  · subst e
    simp
  · rw [if_neg e]
    by_cases h : i < k
    · simp [h, show i < k + 1 by omega]
    · simp [h, show ¬ i < k + 1 by omega]


/-- how Add answers -/
def addCode (bl : List Blk) : Int := if chk (lens bl) = 0 then (if bl.length = 0 then 8 else 0) else chk (lens bl)

def sumBl (bl : List Blk) : List UInt8 := sumOf (bl.map Blk.l)

theorem addCode_bad {bl : List Blk} (h : chk (lens bl) ≠ 0) : addCode bl = chk (lens bl) := by simp [addCode, h]

theorem addCode_good {bl : List Blk} (h : addCode bl = 0) : chk (lens bl) = 0 ∧ 0 < bl.length := by
  unfold addCode at h
  by_cases hc : chk (lens bl) = 0
  · rw [if_pos hc] at h
    by_cases h0 : bl.length = 0
    · rw [if_pos h0] at h; omega
    · exact ⟨hc, by omega⟩
  · rw [if_neg hc] at h; exact absurd h hc

/-- all are as long as the first -/
theorem good_lens {bl : List Blk} (h : addCode bl = 0) (h0 : 0 < bl.length) : ∀ i (hi : i < bl.length), bl[i].l.length = bl[0].l.length ∧ 1 ≤ bl[i].l.length ∧ bl[i].l.length ≤ 16 := by
  intro i hi
  obtain ⟨hc, _⟩ := addCode_good h
  have := chk_zero hc i (by simpa [lens] using hi)
  rw [lens_get hi, lens_head h0] at this
  omega

theorem take_map_succ {bl : List Blk} {k : Nat} (h : k < bl.length) (acc : List UInt8) : sumTo acc ((bl.map Blk.l).take (k + 1)) = xorl (sumTo acc ((bl.map Blk.l).take k)) bl[k].l := by
  rw [List.take_succ_eq_append_getElem (by simpa using h), sumTo_append]
  simp [sumTo]

theorem made_row {w : World} {n : Nat} : (w.alloc (.cells (madeCells #[.int .u8 0] n) 5)).rowIs w.heap.size 5 n (u8at (zeros n)) := by
  refine (World.rowIs_made w (.int .u8 0) n 5).congr fun i hi => ?_
  simp [u8at, zeros, hi]

theorem sumTo_take_length {bl : List Blk} {n : Nat} {h0 : 0 < bl.length} (HG : Hid (∀ i (hi : i < bl.length), bl[i].l.length = bl[0].l.length ∧ 1 ≤ bl[i].l.length ∧ bl[i].l.length ≤ 16)) (HN : Hid (n = bl[0].l.length)) (k : Nat) :
    (sumTo (zeros n) ((bl.map Blk.l).take k)).length = n := by
  refine sumTo_length _ _ (by simp [zeros]) fun b hb => ?_
  have hm := List.mem_of_mem_take hb
  obtain ⟨c, hc, rfl⟩ := List.mem_map.1 hm
  obtain ⟨i, hi, rfl⟩ := List.mem_iff_getElem.1 hc
  rw [HN.out]
  exact (HG.out i hi).1

theorem sumBl_eq {bl : List Blk} {n : Nat} {h : 0 < bl.length} (HN : Hid (n = bl[0].l.length)) (h0 : 0 < bl.length) : sumTo (zeros n) ((bl.map Blk.l).take bl.length) = sumBl bl := by
  rw [List.take_of_length_le (by simp), HN.out]
  cases bl with
  | nil => simp at h0
  | cons b r => rfl

/-- what lies in old memory is no block of new memory -/
theorem lies_ne {w : World} {a : Option Addr} {l : List UInt8} {g n : Nat} (h : Lies w a (bs l)) (hg : w.heap.size ≤ g) (hl : Hid (l.length = n)) : ∀ c o, a = some ⟨c, o, none⟩ → c ≠ g ∨ n = 0 := by
  intro c o e
  by_cases h0 : n = 0
  · exact .inr h0
  · refine .inl ?_
    have hl0 : 0 < l.length := by rw [hl.out]; omega
    have hc := h.lt e 0 (by rw [bs_length]; exact hl0)
    have := World.block_lt_of_cell? w _ hc
    simp at this
    omega

end Go.Proofs.Ythhhlampphlmgaa

/-
  cut.Cut: its contract.
-/
namespace Go.Proofs.Ythhhlampphlmgaa
open Go.RowKit
set_option linter.unusedVariables false
set_option linter.unusedSimpArgs false

theorem Lies.takeB {w : World} {a : Option Addr} {l : List UInt8} (h : Lies w a (bs l)) (q : Nat) : Lies w a (bs (l.take q)) := by
  intro k u hu
  refine h k u ?_
  simp only [bs, List.map_take, List.getElem?_take] at hu ⊢
  split at hu
  · exact hu
  · cases hu

theorem Lies.takeV {w : World} {a : Option Addr} {l : List Value} (h : Lies w a l) (q : Nat) : Lies w a (l.take q) := by
  intro k u hu
  refine h k u ?_
  rw [List.getElem?_take] at hu
  split at hu
  · exact hu
  · cases hu

/-- the plan's box -/
def Boxed (w : World) (g : Nat) (B K : Int) : Prop := w.cell? ⟨g, 0, none⟩ = some (.int .i64 B) ∧ w.cell? ⟨g, 1, none⟩ = some (.int .i64 K)

theorem Boxed.mk (w : World) (B K : Int) (t : TypeId) : Boxed (w.alloc (.cells #[.int .i64 B, .int .i64 K] t)) w.heap.size B K := by
  have h := Lies.alloc_new w #[.int .i64 B, .int .i64 K] t
  exact ⟨h.at (k := 0) rfl, h.at (k := 1) rfl⟩

theorem Boxed.below {w w1 : World} {g : Nat} {B K : Int} (h : Boxed w g B K) (hb : Below w.heap.size w w1) : Boxed w1 g B K := by
  have h1 := World.block_lt_of_cell? w _ h.1
  simp at h1
  exact ⟨by rw [(bcell hb).1 g 0 h1]; exact h.1, by rw [(bcell hb).1 g 1 h1]; exact h.2⟩

theorem cutCode_chk {B K : Int} {c : List UInt8} (h : chkP B K ≠ 0) : cutCode B K c = chkP B K := by simp [cutCode, h]

/-- the row of blocks after i rounds: i of them laid behind g -/
def rowAt (g k i : Nat) (j : Nat) : Value := if j < i then .slice (some ⟨g + 1 + j, 0, none⟩) k k else .slice none 0 0

def CutInv (w wr : World) (g0 g n k nb : Nat) (c : List UInt8) (i : Nat) : Prop :=
  wr.heap.size = g + 1 + i ∧ wr.rowIs g 28 nb (rowAt g k i) ∧ (∀ j, j < i → wr.rowIs (g + 1 + j) 5 k (u8at (piece k j c))) ∧ Boxed wr g0 n k ∧ Below w.heap.size w wr

theorem CutInv.start {w w2 : World} {g0 n k nb : Nat} {c : List UInt8} (hx : Boxed w2 g0 n k) (hb : Below w.heap.size w w2) :
    CutInv w (w2.alloc (.cells (madeCells #[.slice none 0 0] nb) 28)) g0 w2.heap.size n k nb c 0 := by
  refine ⟨by simp, (World.rowIs_made w2 _ nb _).congr fun i hi => by simp [rowAt], fun j hj => by omega, hx.below ((Below.refl _ _).alloc (Nat.le_refl _) _), hb.alloc hb.size _⟩

/-- copy into a row that is known whole, as one step of a region that draws its order: the world behind it is named -/
theorem step_copy_row {P : Program} {ops : Array Oper} {o : Oper} {a : Act} {w : World} {K : Act → World → Prop} {Q : Exit → Act → World → Prop} {E : Prop} (hgd : o.guard = none) (d s : Operand) (dT sT : TypeId)
    (ho : o.op = .call { callee := .builtin .copy, args := #[d, s], argTypes := #[dT, sT] }) (elem : TypeId) (hu : P.underlying dT = some (.slice elem)) (hsz : (P.info? elem).map (·.size) = some 1)
    (g off dLen dCap : Nat) (ad : Addr) (sLen sCap : Nat) (hd : a.eval d = .slice (some ⟨g, off, none⟩) dLen dCap) (hs : a.eval s = .slice (some ad) sLen sCap)
    (cur cs : List Value) (t : TypeId) (hg : w.heap[g]? = some (.cells cur.toArray t (0, 0))) (hn : cs.length = Nat.min sLen dLen)
    (hsrc : ∀ j v, cs[j]? = some v → w.cell? (ad.add j) = some v) (hfit : off + cs.length ≤ cur.length) (h1 : ∀ v ∈ cs, v.oneCell' = true)
    (h : K (a.put o.dst (goInt cs.length)) (w.setRow g (splice cur off cs).toArray)) :
    if Region.wanted o (yielded ops a.tmps) = true then Oper.wp P o a w K Q else E := by
  have hw : Region.wanted o (yielded ops a.tmps) = true := by simp [Region.wanted, hgd]
  rw [if_pos hw]
  have hrun := run_copy_row P w dT sT o.type elem g off dLen dCap ad sLen sCap cur.toArray t cs hu hsz hg hn hsrc (by simpa using hfit) h1
  unfold Oper.wp
  simp [execOp, ho, resolve, invoke, builtin, hd, hs, hrun, Result.andThen]
  simp only [splice] at h
  exact h

/-- between the store and the copy -/
def CutMid (w w3 : World) (g0 g n k nb : Nat) (c : List UInt8) (m : Nat) : Prop :=
  w3.heap.size = g + 1 + (m + 1) ∧ w3.rowIs g 28 nb (rowAt g k (m + 1)) ∧ (∀ j, j < m → w3.rowIs (g + 1 + j) 5 k (u8at (piece k j c))) ∧ Boxed w3 g0 n k ∧ Below w.heap.size w w3 ∧
    w3.heap[g + 1 + m]? = some (.cells (List.replicate k (Value.int .u8 0)).toArray 5 (0, 0))

theorem Boxed.setOther {w : World} {g b o : Nat} {B K : Int} {v : Value} (h : Boxed w g B K) (hne : g ≠ b) : Boxed (w.setCell ⟨b, o, none⟩ v) g B K :=
  ⟨by rw [World.cell?_setCell_other _ _ _ _ (by intro e; cases e; exact hne rfl)]; exact h.1, by rw [World.cell?_setCell_other _ _ _ _ (by intro e; cases e; exact hne rfl)]; exact h.2⟩

theorem CutInv.mid {w wr : World} {g0 g n k nb m : Nat} {c : List UInt8} (hI : CutInv w wr g0 g n k nb c m) (hlt : m < nb) (hgg : g0 < g) (hw : w.heap.size ≤ g0) :
    CutMid w ((wr.setCell ⟨g, m, none⟩ (.slice (some ⟨wr.heap.size, 0, none⟩) k k)).alloc (.cells (madeCells #[.int .u8 0] k) 5)) g0 g n k nb c m := by
  obtain ⟨i1, i2, i3, i4, i5⟩ := hI
  refine ⟨by simp; omega, ?_, ?_, ?_, ?_, ?_⟩
  · refine ((i2.set m _).alloc _).congr fun j hj => ?_
    rw [i1]
    simp only [rowAt]
    by_cases e : j = m
    · subst e; simp
    · rw [if_neg e]
      by_cases h : j < m
      · rw [if_pos h, if_pos (by omega)]
      · rw [if_neg h, if_neg (by omega)]
  · exact fun j hj => ((i3 j hj).setOther (by simp; omega) _).alloc _
  · exact (i4.setOther (by omega)).below ((Below.refl _ _).alloc (Nat.le_refl _) _)
  · exact (i5.setCell (by simp; omega) _).alloc (by simp; omega) _
  · rw [heap_alloc_eq, if_pos (by simp; omega)]
    congr 2
    apply Array.ext'
    rw [toList_madeCells_one]

theorem sizeU8 : (Try.prog.info? 5).map (·.size) = some 1 := by kernel_rfl

theorem bs_one {cs : List Value} {l : List UInt8} (h : Hid (cs = bs l)) : ∀ v ∈ cs, v.oneCell' = true := by
  rw [h.out]
  intro v hv
  obtain ⟨x, _, rfl⟩ := List.mem_map.1 hv
  rfl

theorem copy_len {cs : List Value} {c : List UInt8} {m k n p : Nat} (h : Hid (cs = bs ((c.drop (m * k)).take k))) (hp : Hid (p = m * k)) (hl : Hid (c.length = n)) : cs.length = Nat.min (n - p) k := by
  rw [h.out, hp.out, bs_length, List.length_take, List.length_drop, hl.out]
  exact Nat.min_comm _ _

theorem copy_fit {cs : List Value} {k q : Nat} (h : Hid (cs.length = Nat.min q k)) : 0 + cs.length ≤ (List.replicate k (Value.int .u8 0)).length := by
  rw [h.out, List.length_replicate]
  have : Nat.min q k ≤ k := Nat.min_le_right _ _
  omega

theorem copy_src {cs : List Value} {c : List UInt8} {m k p ab ao : Nat} {w : World} (h : Hid (cs = bs ((c.drop (m * k)).take k))) (hp : Hid (p = m * k)) (hl : Lies w (some ⟨ab, ao, none⟩) (bs c)) :
    ∀ j v, cs[j]? = some v → w.cell? ((⟨ab, ao + p, none⟩ : Addr).add j) = some v := by
  intro j v hj
  rw [h.out] at hj
  have hj' : (bs c)[p + j]? = some v := by
    rw [hp.out]
    simp only [bs, List.map_take, List.map_drop, List.getElem?_take, List.getElem?_drop] at hj ⊢
    split at hj
    · exact hj
    · cases hj
  have := hl.at hj'
  simpa [Addr.add_lit, Nat.add_assoc] using this

theorem CutMid.drew {w w3 : World} {g0 g n k nb m : Nat} {c : List UInt8} (h : CutMid w w3 g0 g n k nb c m) : CutMid w w3.drew g0 g n k nb c m :=
  ⟨h.1, h.2.1, h.2.2.1, h.2.2.2.1, h.2.2.2.2.1.drew, h.2.2.2.2.2⟩

theorem rowIs_setRow {w : World} {g n : Nat} {t : TypeId} {old : Array Value} {cs : List Value} {f : Nat → Value} (hg : w.heap[g]? = some (.cells old t (0, 0))) (hn : cs.length = n) (hf : ∀ i (hi : i < cs.length), cs[i] = f i) : (w.setRow g cs.toArray).rowIs g t n f := by
  refine ⟨cs.toArray, setRow_heap w g old cs.toArray t _ hg, by simpa using hn, fun i hi => ?_⟩
  have hi' : i < cs.length := by omega
  simp [hi', hf i hi']

theorem splice_piece {c : List UInt8} {cs : List Value} {m k : Nat} (HCS : Hid (cs = bs ((c.drop (m * k)).take k))) : (splice (List.replicate k (Value.int .u8 0)) 0 cs).length = k ∧ ∀ i (hi : i < (splice (List.replicate k (Value.int .u8 0)) 0 cs).length), (splice (List.replicate k (Value.int .u8 0)) 0 cs)[i] = u8at (piece k m c) i := by
  have hcl : cs.length = min k (c.length - m * k) := by rw [HCS.out, bs_length]; simp
  have hl : (splice (List.replicate k (Value.int .u8 0)) 0 cs).length = k := by
    rw [length_splice _ _ _ (by simp; omega)]; simp
  refine ⟨hl, fun i hi => ?_⟩
  have hik : i < k := by omega
  apply Option.some.inj
  rw [← List.getElem?_eq_getElem hi, u8at, piece_get c hik]
  unfold splice
  rw [List.take_zero, List.nil_append, List.getElem?_append]
  by_cases h : i < cs.length
  · rw [if_pos h, HCS.out]
    have h2 : m * k + i < c.length := by omega
    simp [bs, hik, h2]
  · rw [if_neg h]
    have h2 : c[m * k + i]? = none := List.getElem?_eq_none (by omega)
    rw [h2, List.getElem?_drop, List.getElem?_replicate, if_pos (by omega)]
    rfl

theorem CutMid.next {w w3 : World} {g0 g n k nb m : Nat} {c : List UInt8} {cs : List Value} (h : CutMid w w3 g0 g n k nb c m) (hgg : g0 < g) (hw : w.heap.size ≤ g0) (HL : Hid (c.length = n))
    (HCS : Hid (cs = bs ((c.drop (m * k)).take k))) : CutInv w (w3.setRow (g + 1 + m) (splice (List.replicate k (Value.int .u8 0)) 0 cs).toArray) g0 g n k nb c (m + 1) := by
  obtain ⟨i1, i2, i3, i4, i5, i6⟩ := h
  obtain ⟨s1, s2⟩ := splice_piece HCS
  refine ⟨by rw [setRow_size]; exact i1, i2.of_block (setRow_other _ _ _ _ (by omega)), fun j hj => ?_, ?_, below_setRow i5 (by omega) _⟩
  · by_cases e : j = m
    · subst e
      exact rowIs_setRow i6 s1 s2
    · exact (i3 j (by omega)).of_block (setRow_other _ _ _ _ (by omega))
  · exact ⟨by rw [cell_setRow_other _ _ _ _ (by simp; omega)]; exact i4.1, by rw [cell_setRow_other _ _ _ _ (by simp; omega)]; exact i4.2⟩

def cutBl (g nb k : Nat) (c : List UInt8) : List Blk := (List.range nb).map fun j => ⟨some ⟨g + 1 + j, 0, none⟩, k, piece k j c⟩

theorem cutBl_val (g nb k : Nat) (c : List UInt8) : (cutBl g nb k c).map Blk.val = (List.range nb).map (rowAt g k nb) := by
  unfold cutBl
  rw [List.map_map]
  apply List.map_congr_left
  intro j hj
  have hj : j < nb := by simpa using hj
  simp [Blk.val, rowAt, hj, piece_length]

theorem cutBl_l (g nb k : Nat) (c : List UInt8) : (cutBl g nb k c).map Blk.l = cutL nb k c := by simp [cutBl, cutL]

end Go.Proofs.Ythhhlampphlmgaa

/-
  Chapter 7: package note's within and Head.
-/
namespace Go.Proofs.Ythhhlampphlmgaa
open Go.RowKit
set_option linter.unusedVariables false
set_option linter.unusedSimpArgs false

theorem within_any (n a b : Int) (w : World) :
    Calls Try.prog 38 #[.int .i64 n, .int .i64 a, .int .i64 b] w fun e w' => e = .returned (.bool (decide (a ≤ n ∧ n ≤ b))) ∧ w = w' := by
  by_cases h : a ≤ n
  · have h1 : (n ≥ a) := h
    go_enter Try.func38, Try.ntmps38
    go_wp2
    go_ret
    exact ⟨retB (by simp [h]), rfl⟩
  · have hs := Shut.mk (show decide (a ≤ n ∧ n ≤ b) = false by simp [h])
    have h1 : ¬ (n ≥ a) := h
    go_enter Try.func38, Try.ntmps38
    go_wp2
    go_ret
    exact ⟨retB (by simpa using hs.out.symm), rfl⟩

set_option maxRecDepth 8000 in
theorem head_any (h : Hd) (w : World) (ho : h.ok) :
    Calls Try.prog 32 #[h.val] w fun e w' => e = .returned (.int .i64 (hdCode h)) ∧ Below w.heap.size w w' := by
  obtain ⟨F, Q, T, L, B, K⟩ := h
  obtain ⟨oF, oQ, oT, oL, oB, oK⟩ := ho
  simp only [Hd.val] at *
  have hBl : Below w.heap.size w (w.alloc (.cells #[.int .i64 F, .int .i64 Q, .int .i64 T, .int .i64 L, .int .i64 B, .int .i64 K] 26)) := (Below.refl _ _).alloc (Nat.le_refl _) _
  by_cases h1 : 0 ≤ F ∧ F ≤ 3
  · by_cases h2 : 0 ≤ T ∧ T ≤ 3
    · by_cases h3 : 0 ≤ Q ∧ Q ≤ 49
      · by_cases h4 : 1 ≤ L ∧ L ≤ 1000000
        · have d1 := Shut.mk (decide_eq_true h1)
          have d2 := Shut.mk (decide_eq_true h2)
          have d3 := Shut.mk (decide_eq_true h3)
          have d4 := Shut.mk (decide_eq_true h4)
          have hf : (⟨F, Q, T, L, B, K⟩ : Hd).fits := ⟨h1, h2, h3, h4⟩
          by_cases h5 : F = T
          · have hc : hdCode ⟨F, Q, T, L, B, K⟩ = 5 := by rw [hdCode, if_neg (by simp [hf]), if_pos h5]
            have HC := Shut.mk hc
            have h5' : (F == T) = true := by simpa using h5
            clear h1 h2 h3 h4 hf hc h5
            go_enter Try.func32, Try.ntmps32
            go_wp2_with fail
            refine (within_any F 0 3 _).mono ?_
            rintro e w2 ⟨rfl, rfl⟩
            rw [d1.out]
            go_wp2_with fail
            refine (within_any T 0 3 _).mono ?_
            rintro e w2 ⟨rfl, rfl⟩
            rw [d2.out]
            go_wp2_with fail
            refine (within_any Q 0 49 _).mono ?_
            rintro e w2 ⟨rfl, rfl⟩
            rw [d3.out]
            go_wp2_with fail
            refine (within_any L 1 1000000 _).mono ?_
            rintro e w2 ⟨rfl, rfl⟩
            rw [d4.out]
            go_wp2
            go_ret
            exact ⟨ret_int HC.out.symm, hBl⟩
          · have hc : hdCode ⟨F, Q, T, L, B, K⟩ = chkP B K := by rw [hdCode, if_neg (by simp [hf]), if_neg h5]
            have HC := Shut.mk hc
            have h5' : (F == T) = false := by simpa using h5
            have hP := cutCheck_any B K (w.alloc (.cells #[.int .i64 F, .int .i64 Q, .int .i64 T, .int .i64 L, .int .i64 B, .int .i64 K] 26)) oB oK
            clear h1 h2 h3 h4 hf hc h5
            go_enter Try.func32, Try.ntmps32
            go_wp2_with fail
            refine (within_any F 0 3 _).mono ?_
            rintro e w2 ⟨rfl, rfl⟩
            rw [d1.out]
            go_wp2_with fail
            refine (within_any T 0 3 _).mono ?_
            rintro e w2 ⟨rfl, rfl⟩
            rw [d2.out]
            go_wp2_with fail
            refine (within_any Q 0 49 _).mono ?_
            rintro e w2 ⟨rfl, rfl⟩
            rw [d3.out]
            go_wp2_with fail
            refine (within_any L 1 1000000 _).mono ?_
            rintro e w2 ⟨rfl, rfl⟩
            rw [d4.out]
            go_wp2_with fail
            refine hP.mono ?_
            rintro e w3 ⟨rfl, hb3⟩
            have hF := hBl.trans (hb3.mono hBl.size)
            clear hP hb3
            go_wp2
            go_ret
            exact ⟨ret_int HC.out.symm, hF⟩
        · have d1 := Shut.mk (decide_eq_true h1)
          have d2 := Shut.mk (decide_eq_true h2)
          have d3 := Shut.mk (decide_eq_true h3)
          have d4 := Shut.mk (decide_eq_false h4)
          have HC : Shut (hdCode ⟨F, Q, T, L, B, K⟩ = 3) := ⟨by rw [hdCode, if_pos (fun hf => h4 hf.2.2.2)]⟩
          clear h1 h2 h3 h4
          go_enter Try.func32, Try.ntmps32
          go_wp2_with fail
          refine (within_any F 0 3 _).mono ?_
          rintro e w2 ⟨rfl, rfl⟩
          rw [d1.out]
          go_wp2_with fail
          refine (within_any T 0 3 _).mono ?_
          rintro e w2 ⟨rfl, rfl⟩
          rw [d2.out]
          go_wp2_with fail
          refine (within_any Q 0 49 _).mono ?_
          rintro e w2 ⟨rfl, rfl⟩
          rw [d3.out]
          go_wp2_with fail
          refine (within_any L 1 1000000 _).mono ?_
          rintro e w2 ⟨rfl, rfl⟩
          rw [d4.out]
          go_wp2
          go_ret
          exact ⟨ret_int HC.out.symm, hBl⟩
      · have d1 := Shut.mk (decide_eq_true h1)
        have d2 := Shut.mk (decide_eq_true h2)
        have d3 := Shut.mk (decide_eq_false h3)
        have HC : Shut (hdCode ⟨F, Q, T, L, B, K⟩ = 3) := ⟨by rw [hdCode, if_pos (fun hf => h3 hf.2.2.1)]⟩
        clear h1 h2 h3
        go_enter Try.func32, Try.ntmps32
        go_wp2_with fail
        refine (within_any F 0 3 _).mono ?_
        rintro e w2 ⟨rfl, rfl⟩
        rw [d1.out]
        go_wp2_with fail
        refine (within_any T 0 3 _).mono ?_
        rintro e w2 ⟨rfl, rfl⟩
        rw [d2.out]
        go_wp2_with fail
        refine (within_any Q 0 49 _).mono ?_
        rintro e w2 ⟨rfl, rfl⟩
        rw [d3.out]
        go_wp2
        go_ret
        exact ⟨ret_int HC.out.symm, hBl⟩
    · have d1 := Shut.mk (decide_eq_true h1)
      have d2 := Shut.mk (decide_eq_false h2)
      have HC : Shut (hdCode ⟨F, Q, T, L, B, K⟩ = 3) := ⟨by rw [hdCode, if_pos (fun hf => h2 hf.2.1)]⟩
      clear h1 h2
      go_enter Try.func32, Try.ntmps32
      go_wp2_with fail
      refine (within_any F 0 3 _).mono ?_
      rintro e w2 ⟨rfl, rfl⟩
      rw [d1.out]
      go_wp2_with fail
      refine (within_any T 0 3 _).mono ?_
      rintro e w2 ⟨rfl, rfl⟩
      rw [d2.out]
      go_wp2
      go_ret
      exact ⟨ret_int HC.out.symm, hBl⟩
  · have d1 := Shut.mk (decide_eq_false h1)
    have HC : Shut (hdCode ⟨F, Q, T, L, B, K⟩ = 3) := ⟨by rw [hdCode, if_pos (fun hf => h1 hf.1)]⟩
    clear h1
    go_enter Try.func32, Try.ntmps32
    go_wp2_with fail
    refine (within_any F 0 3 _).mono ?_
    rintro e w2 ⟨rfl, rfl⟩
    rw [d1.out]
    go_wp2
    go_ret
    exact ⟨ret_int HC.out.symm, hBl⟩

end Go.Proofs.Ythhhlampphlmgaa

/-
  Chapter 7: two heads that are compared whole.
-/
namespace Go.Proofs.Ythhhlampphlmgaa
open Go.RowKit
set_option linter.unusedVariables false
set_option linter.unusedSimpArgs false

instance : DecidableEq Hd := fun a b => by
  obtain ⟨a1, a2, a3, a4, a5, a6⟩ := a
  obtain ⟨b1, b2, b3, b4, b5, b6⟩ := b
  rw [Hd.mk.injEq]
  exact inferInstance

theorem eqlHead (a b : Hd) (W : World) : (binOp .eql 26 a.val b.val).run Try.prog W = .ok (.bool (decide (a = b))) W := by
  obtain ⟨a1, a2, a3, a4, a5, a6⟩ := a
  obtain ⟨b1, b2, b3, b4, b5, b6⟩ := b
  simp only [Hd.val, Hd.mk.injEq]
  have hs : Try.prog.underlying 26 = some (.struct (Try.prog.fieldsOf 26)) := by kernel_rfl
  have hp : Try.prog.stoodInHeld 26 = false := by kernel_rfl
  have hs2 : Try.prog.underlying 24 = some (.struct (Try.prog.fieldsOf 24)) := by kernel_rfl
  have hp2 : Try.prog.stoodInHeld 24 = false := by kernel_rfl
  have hi := Try.underlying3
  rw [run_eql_struct, run_equalIn_agg W 9999 _ _ _ hs hp]
  have hE : ∀ (x y : Int) (w : World) (d : Nat), (Op.equalIn (d + 1) 3 (.int .i64 x) (.int .i64 y)).run Try.prog w = .ok (x == y) w := fun x y w d => run_equalIn_int w d 3 .i64 .i64 x y hi
  have hP : ∀ (w : World) (d : Nat), (Op.equalIn (d + 2) 24 (.agg #[.int .i64 a5, .int .i64 a6]) (.agg #[.int .i64 b5, .int .i64 b6])).run Try.prog w = .ok (decide (a5 = b5 ∧ a6 = b6)) w := fun w d => by
    rw [run_equalIn_agg w (d + 1) _ _ _ hs2 hp2]
    simp only [Program.fieldsOf, Try.underlying24]
    simp [Op.eqFields, go_sem, hE]
    by_cases h5 : a5 = b5 <;> by_cases h6 : a6 = b6 <;> simp [h5, h6]
  simp only [Program.fieldsOf, Try.underlying26]
  simp [Op.eqFields, go_sem, hE, hP]
  by_cases h1 : a1 = b1 <;> by_cases h2 : a2 = b2 <;> by_cases h3 : a3 = b3 <;> by_cases h4 : a4 = b4 <;> by_cases h5 : a5 = b5 <;> by_cases h6 : a6 = b6 <;> simp [h1, h2, h3, h4, h5, h6]

end Go.Proofs.Ythhhlampphlmgaa
