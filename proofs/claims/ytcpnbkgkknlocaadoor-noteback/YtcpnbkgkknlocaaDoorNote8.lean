/-
  Chapter 7: the reference's CheckRec as one contract; package note's within and Head.
-/
import Derived.Test.YtcpnbkgkknlocaaDoorNoteR
import Derived.Test.YtcpnbkgkknlocaaDoorCut2
namespace Go.Proofs.YtcpnbkgkknlocaaDoor
open Go.RowKit
set_option linter.unusedVariables false
set_option linter.unusedSimpArgs false

/-- a record as a value -/
def rcV (r : Rc) (da : Option Addr) (dc : Nat) (ca : Option Addr) (cc : Nat) : Value :=
  .agg #[.int .i64 r.k, .int .i64 r.p, .int .i64 r.n, .int .i64 r.y, .int .i64 r.h.F, .int .i64 r.h.Q, .int .i64 r.h.T, .int .i64 r.h.L, .int .i64 r.h.B, .int .i64 r.h.K, .int .i64 r.id, .slice da r.d.length dc, .slice ca r.c.length cc]

theorem wf64 {x : Int} (h : I64 x) : (Lit.int .i64 x).wf = true := by
  obtain ⟨h1, h2⟩ := h
  have m1 : IntKind.i64.min = -9223372036854775808 := by decide
  have m2 : IntKind.i64.max = 9223372036854775807 := by decide
  simp only [Lit.wf, m1, m2]
  simp
  omega

theorem checkRec_any (r : Rc) (da : Option Addr) (dc : Nat) (ca : Option Addr) (cc : Nat) (w : World) (hi : r.ints) (hd : r.d.length ≤ maxLen) :
    Calls Tryd.prog 20 #[rcV r da dc ca cc] w fun e w' => e = .returned (.int .i64 r.code) ∧ Below w.heap.size w w' := by
  obtain ⟨k, p, n, y, h, id, d, c⟩ := r
  obtain ⟨h1, h2, h3, h4, h5, h6⟩ := hi
  simp only [rcV, Rc.code, recCode]
  cases hu : usesL k with
  | none => exact checkRec_none k p n y h id da d.length dc ca c.length cc w (wf64 h1) hu
  | some u =>
    simp only
    by_cases hf : formB u p n y h id d.length c.length = true
    · rw [if_pos hf]
      exact checkRec_good k p n y h id da d.length dc ca c.length cc u w (wf64 h1) hu hf h5 h2 h3 h4 hd
    · rw [if_neg hf]
      exact checkRec_form k p n y h id da d.length dc ca c.length cc u w (wf64 h1) hu (by simpa using hf)

theorem within_any (n a b : Int) (w : World) :
    Calls Tryd.prog 23 #[.int .i64 n, .int .i64 a, .int .i64 b] w fun e w' => e = .returned (.bool (decide (a ≤ n ∧ n ≤ b))) ∧ w = w' := by
  by_cases h : a ≤ n
  · have h1 : (n ≥ a) := h
    go_enter Tryd.func23, Tryd.ntmps23
    go_wp2
    go_ret
    exact ⟨retB (by simp [h]), rfl⟩
  · have hs := Shut.mk (show decide (a ≤ n ∧ n ≤ b) = false by simp [h])
    have h1 : ¬ (n ≥ a) := h
    go_enter Tryd.func23, Tryd.ntmps23
    go_wp2
    go_ret
    exact ⟨retB (by simpa using hs.out.symm), rfl⟩

end Go.Proofs.YtcpnbkgkknlocaaDoor
