/-
  Chapter 7: two heads that are compared whole.
-/
import Derived.Test.YtcpnbkgkknlocaaDoorNote3
import Derived.Laws.StructEq
namespace Go.Proofs.YtcpnbkgkknlocaaDoor
open Go.RowKit
set_option linter.unusedVariables false
set_option linter.unusedSimpArgs false

instance : DecidableEq Hd := fun a b => by
  obtain ⟨a1, a2, a3, a4, a5, a6⟩ := a
  obtain ⟨b1, b2, b3, b4, b5, b6⟩ := b
  rw [Hd.mk.injEq]
  exact inferInstance

theorem eqlHead (a b : Hd) (W : World) : (binOp .eql 25 a.val b.val).run Tryd.prog W = .ok (.bool (decide (a = b))) W := by
  obtain ⟨a1, a2, a3, a4, a5, a6⟩ := a
  obtain ⟨b1, b2, b3, b4, b5, b6⟩ := b
  simp only [Hd.val, Hd.mk.injEq]
  have hs : Tryd.prog.underlying 25 = some (.struct (Tryd.prog.fieldsOf 25)) := by kernel_rfl
  have hp : Tryd.prog.stoodInHeld 25 = false := by kernel_rfl
  have hs2 : Tryd.prog.underlying 23 = some (.struct (Tryd.prog.fieldsOf 23)) := by kernel_rfl
  have hp2 : Tryd.prog.stoodInHeld 23 = false := by kernel_rfl
  have hi := Tryd.underlying3
  rw [run_eql_struct, run_equalIn_agg W 9999 _ _ _ hs hp]
  have hE : ∀ (x y : Int) (w : World) (d : Nat), (Op.equalIn (d + 1) 3 (.int .i64 x) (.int .i64 y)).run Tryd.prog w = .ok (x == y) w := fun x y w d => run_equalIn_int w d 3 .i64 .i64 x y hi
  have hP : ∀ (w : World) (d : Nat), (Op.equalIn (d + 2) 23 (.agg #[.int .i64 a5, .int .i64 a6]) (.agg #[.int .i64 b5, .int .i64 b6])).run Tryd.prog w = .ok (decide (a5 = b5 ∧ a6 = b6)) w := fun w d => by
    rw [run_equalIn_agg w (d + 1) _ _ _ hs2 hp2]
    simp only [Program.fieldsOf, Tryd.underlying23]
    simp [Op.eqFields, go_sem, hE]
    by_cases h5 : a5 = b5 <;> by_cases h6 : a6 = b6 <;> simp [h5, h6]
  simp only [Program.fieldsOf, Tryd.underlying25]
  simp [Op.eqFields, go_sem, hE, hP]
  by_cases h1 : a1 = b1 <;> by_cases h2 : a2 = b2 <;> by_cases h3 : a3 = b3 <;> by_cases h4 : a4 = b4 <;> by_cases h5 : a5 = b5 <;> by_cases h6 : a6 = b6 <;> simp [h1, h2, h3, h4, h5, h6]

end Go.Proofs.YtcpnbkgkknlocaaDoor
