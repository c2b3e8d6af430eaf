/-
  Chapter 7, the reference: CheckRec's two closures; a head held against none.
-/
import Derived.Test.YtcpnbkgkknlocaaDoorNote2
import Derived.Test.YtcpnbkgkknlocaaDoorShelf
namespace Go.Proofs.YtcpnbkgkknlocaaDoor
open Go.RowKit Go.Maps
set_option linter.unusedVariables false
set_option linter.unusedSimpArgs false

/-- is the letter among these? -/
def hasB (l : List UInt8) (c : UInt8) : Bool := decide (0 ≤ Lib.indexByte l c)

theorem checkRec1_any (s : ByteArray) (c : UInt8) (ub : Nat) (w : World) (hu : w.cell? ⟨ub, 0, none⟩ = some (.string s)) :
    Calls Tryd.prog 45 #[.string ⟨#[c]⟩, .pointer (some ⟨ub, 0, none⟩)] w fun e w' => e = .returned (.bool (hasB s.data.toList c)) ∧ w = w' := by
  have hC := Tryd.strings_Contains_one s c w
  go_enter Tryd.func45, Tryd.ntmps45
  go_wp2_with fail
  refine hC.mono ?_
  rintro e w1 ⟨rfl, rfl⟩
  clear hC
  generalize hx : decide (0 ≤ Lib.indexByte s.data.toList c) = x
  have HX := Shut.mk hx
  clear hx
  go_wp2
  go_ret
  exact ⟨by rw [hasB, HX.out]; rfl, rfl⟩

theorem entersRec1 : ∀ args w, (callFunc 45 args).run Tryd.prog w = .ok (.enter 45 args) w := enters_of Tryd.func45 (by kernel_rfl) rfl
theorem entersRec2 : ∀ args w, (callFunc 47 args).run Tryd.prog w = .ok (.enter 47 args) w := enters_of Tryd.func47 (by kernel_rfl) rfl

theorem checkRec2_any (s : ByteArray) (c : UInt8) (z : Bool) (ub fb : Nat) (w : World) (hu : w.cell? ⟨ub, 0, none⟩ = some (.string s)) (hf : w.cell? ⟨fb, 0, none⟩ = some (.func (.func 45) #[] #[.pointer (some ⟨ub, 0, none⟩)])) :
    Calls Tryd.prog 47 #[.string ⟨#[c]⟩, .bool z, .pointer (some ⟨fb, 0, none⟩)] w fun e w' => e = .returned (.bool (hasB s.data.toList c || z)) ∧ w = w' := by
  have eg := entersRec1
  have hC := checkRec1_any s c ub w hu
  generalize hasB s.data.toList c = x at *
  go_enter Tryd.func47, Tryd.ntmps47
  go_wp2_with fail
  refine hC.mono ?_
  rintro e w1 ⟨rfl, rfl⟩
  clear hC
  cases x
  · go_wp2
    go_ret
    exact ⟨rfl, rfl⟩
  · go_wp2
    go_ret
    exact ⟨rfl, rfl⟩

end Go.Proofs.YtcpnbkgkknlocaaDoor
