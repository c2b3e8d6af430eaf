/-
  What the rows' condition on the listed variable gives the walks, and that the heap of the door's own run meets it.
-/
import Derived.Test.YtkiejflgphjfjacDoorPart9
import Derived.Test.YtkiejflgphjfjacDoorTie
import Derived.ProofKit
import Derived.LaidMore
import Derived.OpenShut
import Derived.Stop.Joined
import Derived.Lib.LaidTab
namespace Go.Proofs.YtkiejflgphjfjacDoor
open Go.ChangeShapes Go.WideShapes Go.ChangeAt Go.RowKit
set_option linter.unusedVariables false

theorem own : ownKnob Tryd.prog.godebug = none := by kernel_rfl
theorem gLimits : Tryd.prog.globalNamed "bottlepost/pick.limits" = some 0 := by kernel_rfl
theorem tLimits : (Tryd.prog.globals[0]?).map (·.type) = some 106 := by kernel_rfl
theorem cInt : Tryd.prog.cellsOf 3 = 1 := by kernel_rfl
theorem cArr : Tryd.prog.cellsOf 106 = 5 := by kernel_rfl

/-- what the rows list -/
def listed : List (String × DataW Unit) := [("bottlepost/pick.limits", Rows.laid_bottlepost_pick_limits)]

/-- The door's own heap meets the condition. -/
theorem door_met (os : Os) (args : Array Value) : laidMetH Tryd.prog listed ((World.doorLaid Tryd.prog 400 os).forCall (fun _ _ => 0) ⟨#[], args, []⟩).memory :=
  laidMetH_of_parts3 (fuel := 8) (laidMet_of_run' 8 (by kernel_rfl) (by kernel_rfl)) (by kernel_rfl) (by kernel_rfl)

/-- What the condition gives the walks. -/
theorem laid_of {W : World} (h : laidMetH Tryd.prog listed W) : Laid W := by
  rw [MakeChecks.laidMetH_plain _ _ _ (by kernel_rfl)] at h
  have hT := Lib.tabIs_of_head (k := .i64) (zs := [8192, 40960, 51882, 57344, 60621]) gLimits tLimits Tryd.underlying106 Tryd.underlying3 cInt cArr h
  refine Lies.mk fun k hk => ?_
  have hk5 : k < 5 := hk
  have := hT.cell gLimits k hk5
  rw [Nat.zero_add, this]
  match k, hk5 with
  | 0, _ => rfl
  | 1, _ => rfl
  | 2, _ => rfl
  | 3, _ => rfl
  | 4, _ => rfl

end Go.Proofs.YtkiejflgphjfjacDoor
