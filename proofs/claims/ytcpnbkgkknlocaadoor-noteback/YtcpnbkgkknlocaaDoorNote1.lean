/-
  Chapter 7, the reference: CheckHead.
-/
import Derived.Test.YtcpnbkgkknlocaaDoorCut1
namespace Go.Proofs.YtcpnbkgkknlocaaDoor
open Go.RowKit
set_option linter.unusedVariables false
set_option linter.unusedSimpArgs false

/-- a head, told by its numbers -/
structure Hd where
  F : Int
  Q : Int
  T : Int
  L : Int
  B : Int
  K : Int

def Hd.val (h : Hd) : Value := .agg #[.int .i64 h.F, .int .i64 h.Q, .int .i64 h.T, .int .i64 h.L, .int .i64 h.B, .int .i64 h.K]
def Hd.ok (h : Hd) : Prop := I64 h.F ∧ I64 h.Q ∧ I64 h.T ∧ I64 h.L ∧ I64 h.B ∧ I64 h.K

/-- is it within its bounds? -/
def Hd.fits (h : Hd) : Prop := (0 ≤ h.F ∧ h.F ≤ 3) ∧ (0 ≤ h.T ∧ h.T ≤ 3) ∧ (0 ≤ h.Q ∧ h.Q ≤ 49) ∧ (1 ≤ h.L ∧ h.L ≤ 1000000)

instance (h : Hd) : Decidable h.fits := by unfold Hd.fits; exact inferInstance

/-- what chapter 7's Head answers -/
def hdCode (h : Hd) : Int := if ¬ h.fits then 3 else if h.F = h.T then 5 else chkP h.B h.K

set_option maxRecDepth 8000 in
theorem checkHead_any (h : Hd) (w : World) (ho : h.ok) :
    Calls Tryd.prog 10 #[h.val] w fun e w' => e = .returned (.int .i64 (hdCode h)) ∧ Below w.heap.size w w' := by
  obtain ⟨F, Q, T, L, B, K⟩ := h
  obtain ⟨oF, oQ, oT, oL, oB, oK⟩ := ho
  simp only [Hd.val] at *
  have hBl : Below w.heap.size w (w.alloc (.cells #[.int .i64 F, .int .i64 Q, .int .i64 T, .int .i64 L, .int .i64 B, .int .i64 K] 25)) := (Below.refl _ _).alloc (Nat.le_refl _) _
  by_cases h1 : 0 ≤ F ∧ F ≤ 3
  · by_cases h2 : 0 ≤ T ∧ T ≤ 3
    · by_cases h3 : 0 ≤ Q ∧ Q ≤ 49
      · by_cases h4 : 1 ≤ L ∧ L ≤ 1000000
        · have d1 := Shut.mk (decide_eq_true h1)
          have d2 := Shut.mk (decide_eq_true h2)
          have d3 := Shut.mk (decide_eq_true h3)
          have d4 := Shut.mk (decide_eq_true h4)
          have hf : (⟨F, Q, T, L, B, K⟩ : Hd).fits := ⟨h1, h2, h3, h4⟩
          by_cases h5 : F = T
          · have hc : hdCode ⟨F, Q, T, L, B, K⟩ = 5 := by rw [hdCode, if_neg (by simp [hf]), if_pos h5]
            have HC := Shut.mk hc
            have h5' : (F == T) = true := by simpa using h5
            clear h1 h2 h3 h4 hf hc h5
            go_enter Tryd.func10, Tryd.ntmps10
            go_wp2_with fail
            refine (in_any F 0 3 _).mono ?_
            rintro e w2 ⟨rfl, rfl⟩
            rw [d1.out]
            go_wp2_with fail
            refine (in_any T 0 3 _).mono ?_
            rintro e w2 ⟨rfl, rfl⟩
            rw [d2.out]
            go_wp2_with fail
            refine (in_any Q 0 49 _).mono ?_
            rintro e w2 ⟨rfl, rfl⟩
            rw [d3.out]
            go_wp2_with fail
            refine (in_any L 1 1000000 _).mono ?_
            rintro e w2 ⟨rfl, rfl⟩
            rw [d4.out]
            go_wp2
            go_ret
            exact ⟨ret_int HC.out.symm, hBl⟩
          · have hc : hdCode ⟨F, Q, T, L, B, K⟩ = chkP B K := by rw [hdCode, if_neg (by simp [hf]), if_neg h5]
            have HC := Shut.mk hc
            have h5' : (F == T) = false := by simpa using h5
            have hP := checkPlan_any B K (w.alloc (.cells #[.int .i64 F, .int .i64 Q, .int .i64 T, .int .i64 L, .int .i64 B, .int .i64 K] 25)) oB oK
            clear h1 h2 h3 h4 hf hc h5
            go_enter Tryd.func10, Tryd.ntmps10
            go_wp2_with fail
            refine (in_any F 0 3 _).mono ?_
            rintro e w2 ⟨rfl, rfl⟩
            rw [d1.out]
            go_wp2_with fail
            refine (in_any T 0 3 _).mono ?_
            rintro e w2 ⟨rfl, rfl⟩
            rw [d2.out]
            go_wp2_with fail
            refine (in_any Q 0 49 _).mono ?_
            rintro e w2 ⟨rfl, rfl⟩
            rw [d3.out]
            go_wp2_with fail
            refine (in_any L 1 1000000 _).mono ?_
            rintro e w2 ⟨rfl, rfl⟩
            rw [d4.out]
            go_wp2_with fail
            refine hP.mono ?_
            rintro e w3 ⟨rfl, hb3⟩
            have hF := hBl.trans (hb3.mono hBl.size)
            clear hP hb3
            go_wp2
            go_ret
            exact ⟨ret_int HC.out.symm, hF⟩
        · have d1 := Shut.mk (decide_eq_true h1)
          have d2 := Shut.mk (decide_eq_true h2)
          have d3 := Shut.mk (decide_eq_true h3)
          have d4 := Shut.mk (decide_eq_false h4)
          have HC : Shut (hdCode ⟨F, Q, T, L, B, K⟩ = 3) := ⟨by rw [hdCode, if_pos (fun hf => h4 hf.2.2.2)]⟩
          clear h1 h2 h3 h4
          go_enter Tryd.func10, Tryd.ntmps10
          go_wp2_with fail
          refine (in_any F 0 3 _).mono ?_
          rintro e w2 ⟨rfl, rfl⟩
          rw [d1.out]
          go_wp2_with fail
          refine (in_any T 0 3 _).mono ?_
          rintro e w2 ⟨rfl, rfl⟩
          rw [d2.out]
          go_wp2_with fail
          refine (in_any Q 0 49 _).mono ?_
          rintro e w2 ⟨rfl, rfl⟩
          rw [d3.out]
          go_wp2_with fail
          refine (in_any L 1 1000000 _).mono ?_
          rintro e w2 ⟨rfl, rfl⟩
          rw [d4.out]
          go_wp2
          go_ret
          exact ⟨ret_int HC.out.symm, hBl⟩
      · have d1 := Shut.mk (decide_eq_true h1)
        have d2 := Shut.mk (decide_eq_true h2)
        have d3 := Shut.mk (decide_eq_false h3)
        have HC : Shut (hdCode ⟨F, Q, T, L, B, K⟩ = 3) := ⟨by rw [hdCode, if_pos (fun hf => h3 hf.2.2.1)]⟩
        clear h1 h2 h3
        go_enter Tryd.func10, Tryd.ntmps10
        go_wp2_with fail
        refine (in_any F 0 3 _).mono ?_
        rintro e w2 ⟨rfl, rfl⟩
        rw [d1.out]
        go_wp2_with fail
        refine (in_any T 0 3 _).mono ?_
        rintro e w2 ⟨rfl, rfl⟩
        rw [d2.out]
        go_wp2_with fail
        refine (in_any Q 0 49 _).mono ?_
        rintro e w2 ⟨rfl, rfl⟩
        rw [d3.out]
        go_wp2
        go_ret
        exact ⟨ret_int HC.out.symm, hBl⟩
    · have d1 := Shut.mk (decide_eq_true h1)
      have d2 := Shut.mk (decide_eq_false h2)
      have HC : Shut (hdCode ⟨F, Q, T, L, B, K⟩ = 3) := ⟨by rw [hdCode, if_pos (fun hf => h2 hf.2.1)]⟩
      clear h1 h2
      go_enter Tryd.func10, Tryd.ntmps10
      go_wp2_with fail
      refine (in_any F 0 3 _).mono ?_
      rintro e w2 ⟨rfl, rfl⟩
      rw [d1.out]
      go_wp2_with fail
      refine (in_any T 0 3 _).mono ?_
      rintro e w2 ⟨rfl, rfl⟩
      rw [d2.out]
      go_wp2
      go_ret
      exact ⟨ret_int HC.out.symm, hBl⟩
  · have d1 := Shut.mk (decide_eq_false h1)
    have HC : Shut (hdCode ⟨F, Q, T, L, B, K⟩ = 3) := ⟨by rw [hdCode, if_pos (fun hf => h1 hf.1)]⟩
    clear h1
    go_enter Tryd.func10, Tryd.ntmps10
    go_wp2_with fail
    refine (in_any F 0 3 _).mono ?_
    rintro e w2 ⟨rfl, rfl⟩
    rw [d1.out]
    go_wp2
    go_ret
    exact ⟨ret_int HC.out.symm, hBl⟩

end Go.Proofs.YtcpnbkgkknlocaaDoor
