import Derived.Test.YtakkajjoeimkdaaGreatDoorRows
import Derived.Test.YtakkajjoeimkdaaGreatDoorPart1
import Derived.RegionTactic
import Derived.BigRegion
import Derived.Deep.RegionLaw
namespace Go.Proofs.YtakkajjoeimkdaaGreatDoor
open Go.RowKit
set_option linter.unusedVariables false
set_option linter.unusedSimpArgs false

theorem step_call1 {f : FuncId} {ops : Array Oper} {o : Oper} {a : Act} {w : World} {K : Act → World → Prop} {Q : Exit → Act → World → Prop} {E : Prop} {R : Value → World → Prop} (eg : ∀ args w, (callFunc f args).run Tryz.prog w = .ok (.enter f args) w) (hgd : o.guard = none) (arg : Operand) (ty : TypeId)
  (ho : o.op = .call { callee := .value (.func f), args := #[arg], argTypes := #[ty] }) (v : Value) (hv : a.eval arg = v) (hc : Calls Tryz.prog f #[v] w fun e w' => ∃ x, e = .returned x ∧ R x w') (h : ∀ x w', R x w' → K (a.put o.dst x) w') :
  if Region.wanted o (yielded ops a.tmps) = true then Oper.wp Tryz.prog o a w K Q else E := by
 rw [if_pos (by simp [Region.wanted, hgd])]
 have hrun : (execOp a.eval o).run Tryz.prog w = .ok (.enter f #[v]) w := by
  have hf : a.eval (.func f) = .func (.func f) #[] #[] := rfl
  simp [execOp, ho, resolve, hf, eg, go_sem, invoke]
  cases arg <;> simpa [Act.eval] using hv
 unfold Oper.wp
 rw [hrun, Oper.upon_enter]
 refine hc.mono ?_
 rintro e w' ⟨x, rfl, hr⟩
 exact h x w' hr

theorem step_call2 {f : FuncId} {ops : Array Oper} {o : Oper} {a : Act} {w : World} {K : Act → World → Prop} {Q : Exit → Act → World → Prop} {E : Prop} {R : Value → World → Prop} (eg : ∀ args w, (callFunc f args).run Tryz.prog w = .ok (.enter f args) w) (hgd : o.guard = none) (arg arg2 : Operand) (ty ty2 : TypeId)
  (ho : o.op = .call { callee := .value (.func f), args := #[arg, arg2], argTypes := #[ty, ty2] }) (v v2 : Value) (hv : a.eval arg = v) (hv2 : a.eval arg2 = v2) (hc : Calls Tryz.prog f #[v, v2] w fun e w' => ∃ x, e = .returned x ∧ R x w') (h : ∀ x w', R x w' → K (a.put o.dst x) w') :
  if Region.wanted o (yielded ops a.tmps) = true then Oper.wp Tryz.prog o a w K Q else E := by
 rw [if_pos (by simp [Region.wanted, hgd])]
 have hrun : (execOp a.eval o).run Tryz.prog w = .ok (.enter f #[v, v2]) w := by
  have hf : a.eval (.func f) = .func (.func f) #[] #[] := rfl
  simp [execOp, ho, resolve, hf, eg, go_sem, invoke]
  refine ⟨?_, ?_⟩
  ·cases arg <;> simpa [Act.eval] using hv
  ·cases arg2 <;> simpa [Act.eval] using hv2
 unfold Oper.wp
 rw [hrun, Oper.upon_enter]
 refine hc.mono ?_
 rintro e w' ⟨x, rfl, hr⟩
 exact h x w' hr

end Go.Proofs.YtakkajjoeimkdaaGreatDoor
