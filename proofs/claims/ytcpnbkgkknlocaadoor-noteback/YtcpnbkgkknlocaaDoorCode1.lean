/-
  Chapter 4's Check, the reference's and the program's: the contract of each.
-/
import Derived.Test.YtcpnbkgkknlocaaDoorCut2
import Derived.Test.YtcpnbkgkknlocaaDoorCodePure
namespace Go.Proofs.YtcpnbkgkknlocaaDoor
open Go.RowKit
set_option linter.unusedVariables false
set_option linter.unusedSimpArgs false

/-- how Check answers -/
def chkS (B K id : Int) (n : Nat) : Int := if chkP B K ≠ 0 then chkP B K else if id < 0 ∨ 9999 < id then 3 else if (n : Int) ≠ K then 4 else 0

theorem chkS_plan {B K id : Int} {n : Nat} (h : chkP B K ≠ 0) : chkS B K id n = chkP B K := if_pos h
theorem chkS_id {B K id : Int} {n : Nat} (h : chkP B K = 0) (hi : id < 0 ∨ 9999 < id) : chkS B K id n = 3 := by rw [chkS, if_neg (by simp [h]), if_pos hi]
theorem chkS_form {B K id : Int} {n : Nat} (h : chkP B K = 0) (hi : ¬ (id < 0 ∨ 9999 < id)) (hn : (n : Int) ≠ K) : chkS B K id n = 4 := by rw [chkS, if_neg (by simp [h]), if_neg hi, if_pos hn]
theorem chkS_ok {B K id : Int} {n : Nat} (h : chkP B K = 0) (hi : ¬ (id < 0 ∨ 9999 < id)) (hn : (n : Int) = K) : chkS B K id n = 0 := by rw [chkS, if_neg (by simp [h]), if_neg hi, if_neg (by simp [hn])]

/-- a symbol's box -/
def BoxS (w : World) (g : Nat) (id : Int) (d : Value) : Prop := w.cell? ⟨g, 0, none⟩ = some (.int .i64 id) ∧ w.cell? ⟨g, 1, none⟩ = some d

theorem BoxS.mk (w : World) (id : Int) (d : Value) (t : TypeId) : BoxS (w.alloc (.cells #[.int .i64 id, d] t)) w.heap.size id d := by
  have h := Lies.alloc_new w #[.int .i64 id, d] t
  exact ⟨h.at (k := 0) rfl, h.at (k := 1) rfl⟩

theorem BoxS.below {w w1 : World} {g : Nat} {id : Int} {d : Value} (h : BoxS w g id d) (hb : Below w.heap.size w w1) : BoxS w1 g id d := by
  have h1 := World.block_lt_of_cell? w _ h.1
  simp at h1
  exact ⟨by rw [(bcell hb).1 g 0 h1]; exact h.1, by rw [(bcell hb).1 g 1 h1]; exact h.2⟩

/-- the boxes of a plan and a symbol, behind a call -/
theorem boxes2 {w w1 : World} {B K id : Int} {d : Value} {t u : TypeId}
    (hb : Below ((w.alloc (.cells #[.int .i64 B, .int .i64 K] t)).alloc (.cells #[.int .i64 id, d] u)).heap.size ((w.alloc (.cells #[.int .i64 B, .int .i64 K] t)).alloc (.cells #[.int .i64 id, d] u)) w1) :
    w1.cell? ⟨w.heap.size, 0, none⟩ = some (.int .i64 B) ∧ w1.cell? ⟨w.heap.size, 1, none⟩ = some (.int .i64 K) ∧ w1.cell? ⟨w.heap.size + 1, 0, none⟩ = some (.int .i64 id) ∧ w1.cell? ⟨w.heap.size + 1, 1, none⟩ = some d := by
  have h1 := ((Boxed.mk w B K t).below ((Below.refl _ _).alloc (Nat.le_refl _) (.cells #[.int .i64 id, d] u))).below hb
  have h2 := (BoxS.mk (w.alloc (.cells #[.int .i64 B, .int .i64 K] t)) id d u).below hb
  have e : (w.alloc (.cells #[.int .i64 B, .int .i64 K] t)).heap.size = w.heap.size + 1 := by simp
  rw [e] at h2
  exact ⟨h1.1, h1.2, h2.1, h2.2⟩

theorem checkSymbol_any (B K id : Int) (a : Option Addr) (n cap : Nat) (w : World) (hB : I64 B) (hK : I64 K) (hn : n ≤ maxLen) :
    Calls Tryd.prog 48 #[.agg #[.int .i64 B, .int .i64 K], .agg #[.int .i64 id, .slice a n cap]] w fun e w' => e = .returned (.int .i64 (chkS B K id n)) ∧ Below w.heap.size w w' := by
  unfold maxLen at hn
  by_cases hc : chkP B K = 0
  · have HC := Shut.mk hc
    go_enter Tryd.func48, Tryd.ntmps48
    go_wp2_with fail
    refine (checkPlan_any B K _ hB hK).mono ?_
    rintro e w1 ⟨rfl, hb⟩
    obtain ⟨x0, x1, y0, y1⟩ := boxes2 hb
    have hb := boxBelow (boxBelow hb)
    rw [HC.out]
    by_cases h1 : 0 ≤ id ∧ id ≤ 9999
    · have H1 := Shut.mk (decide_eq_true h1)
      have hi : ¬ (id < 0 ∨ 9999 < id) := by omega
      by_cases h2 : (n : Int) = K
      · have h2' : ((n : Int) != K) = false := by simpa using h2
        have HA := Shut.mk (chkS_ok hc hi h2)
        clear h1 hi h2 hc
        go_wp2_with fail
        refine (in_any id 0 9999 _).mono ?_
        rintro e w2 ⟨rfl, rfl⟩
        rw [H1.out]
        go_wp2
        go_ret
        exact ⟨ret_int HA.out.symm, hb⟩
      · have h2' : ((n : Int) != K) = true := by simpa using h2
        have HA := Shut.mk (chkS_form hc hi h2)
        clear h1 hi h2 hc
        go_wp2_with fail
        refine (in_any id 0 9999 _).mono ?_
        rintro e w2 ⟨rfl, rfl⟩
        rw [H1.out]
        go_wp2
        go_ret
        exact ⟨ret_int HA.out.symm, hb⟩
    · have H1 := Shut.mk (decide_eq_false h1)
      have HA := Shut.mk (chkS_id (id := id) (n := n) hc (by omega))
      clear h1 hc
      go_wp2_with fail
      refine (in_any id 0 9999 _).mono ?_
      rintro e w2 ⟨rfl, rfl⟩
      rw [H1.out]
      go_wp2
      go_ret
      exact ⟨ret_int HA.out.symm, hb⟩
  · have hc' : (chkP B K != 0) = true := by simpa using hc
    have HA := Shut.mk (chkS_plan (id := id) (n := n) hc)
    clear hc
    go_enter Tryd.func48, Tryd.ntmps48
    go_wp2_with fail
    refine (checkPlan_any B K _ hB hK).mono ?_
    rintro e w1 ⟨rfl, hb⟩
    have hb := boxBelow (boxBelow hb)
    go_wp2
    go_ret
    exact ⟨ret_int HA.out.symm, hb⟩

theorem codeCheck_any (B K id : Int) (a : Option Addr) (n cap : Nat) (w : World) (hB : I64 B) (hK : I64 K) (hn : n ≤ maxLen) :
    Calls Tryd.prog 28 #[.agg #[.int .i64 B, .int .i64 K], .agg #[.int .i64 id, .slice a n cap]] w fun e w' => e = .returned (.int .i64 (chkS B K id n)) ∧ Below w.heap.size w w' := by
  unfold maxLen at hn
  by_cases hc : chkP B K = 0
  · have HC := Shut.mk hc
    go_enter Tryd.func28, Tryd.ntmps28
    go_wp2_with fail
    refine (cutCheck_any B K _ hB hK).mono ?_
    rintro e w1 ⟨rfl, hb⟩
    obtain ⟨x0, x1, y0, y1⟩ := boxes2 hb
    have hb := boxBelow (boxBelow hb)
    rw [HC.out]
    by_cases h1 : 0 ≤ id ∧ id ≤ 9999
    · have hi : ¬ (id < 0 ∨ 9999 < id) := by omega
      by_cases h2 : (n : Int) = K
      · have h2' : ((n : Int) != K) = false := by simpa using h2
        have HA := Shut.mk (chkS_ok hc hi h2)
        obtain ⟨h3, h4⟩ := h1
        clear hi h2 hc
        go_wp2
        go_ret
        exact ⟨ret_int HA.out.symm, hb⟩
      · have h2' : ((n : Int) != K) = true := by simpa using h2
        have HA := Shut.mk (chkS_form hc hi h2)
        obtain ⟨h3, h4⟩ := h1
        clear hi h2 hc
        go_wp2
        go_ret
        exact ⟨ret_int HA.out.symm, hb⟩
    · have HA := Shut.mk (chkS_id (id := id) (n := n) hc (by omega))
      have h3 : id < 0 ∨ 9999 < id := by omega
      clear h1 hc
      rcases h3 with h3 | h3
      · go_wp2
        go_ret
        exact ⟨ret_int HA.out.symm, hb⟩
      · have h4 : 0 ≤ id := by omega
        go_wp2
        go_ret
        exact ⟨ret_int HA.out.symm, hb⟩
  · have hc' : (chkP B K != 0) = true := by simpa using hc
    have HA := Shut.mk (chkS_plan (id := id) (n := n) hc)
    clear hc
    go_enter Tryd.func28, Tryd.ntmps28
    go_wp2_with fail
    refine (cutCheck_any B K _ hB hK).mono ?_
    rintro e w1 ⟨rfl, hb⟩
    have hb := boxBelow (boxBelow hb)
    go_wp2
    go_ret
    exact ⟨ret_int HA.out.symm, hb⟩

end Go.Proofs.YtcpnbkgkknlocaaDoor
