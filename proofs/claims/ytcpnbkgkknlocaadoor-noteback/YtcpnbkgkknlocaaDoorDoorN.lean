/-
  What the rows' condition on the listed variables gives chapter 7's walks, and that the heap of the door's own run meets it.
-/
import Derived.Test.YtcpnbkgkknlocaaDoorNoteE
import Derived.Test.YtcpnbkgkknlocaaDoorTie
import Derived.ProofKit
import Derived.LaidMore
import Derived.OpenShut
import Derived.Stop.Joined
import Derived.Stop.LaidErr
import Derived.Lay
import Derived.Lib.LaidTab
namespace Go.Proofs.YtcpnbkgkknlocaaDoor
open Go.ChangeShapes Go.WideShapes Go.ChangeAt Go.RowKit
set_option linter.unusedVariables false

theorem own : ownKnob Tryd.prog.godebug = none := by kernel_rfl

/-- what the rows list -/
def listed : List (String × DataW Unit) := [("math/bits.deBruijn32tab", Rows.laid_math_bits_deBruijn32tab), ("math/bits.deBruijn64tab", Rows.laid_math_bits_deBruijn64tab), ("internal/strconv.uint64pow10", Rows.laid_internal_strconv_uint64pow10), ("unicode/utf8.acceptRanges", Rows.laid_unicode_utf8_acceptRanges), ("strconv.ErrRange", Rows.laid_strconv_ErrRange), ("strconv.ErrSyntax", Rows.laid_strconv_ErrSyntax), ("unicode/utf8.first", Rows.laid_unicode_utf8_first)]

/-- The door's own heap meets the condition. -/
theorem door_met (os : Os) (args : Array Value) : laidMetH Tryd.prog listed ((World.laidAll Tryd.prog os listed).forCall (fun _ _ => 0) ⟨#[], args, []⟩).memory := by
  rw [MakeChecks.laidMetH_plain _ _ _ (by kernel_rfl)]
  exact laidMet_laidAll _ (by kernel_rfl) (by kernel_rfl)

theorem cU64 : Tryd.prog.cellsOf 97 = 1 := by kernel_rfl
theorem cTab : Tryd.prog.cellsOf 121 = 20 := by kernel_rfl
theorem cStr : Tryd.prog.cellsOf 9 = 1 := by kernel_rfl
theorem cErrS : Tryd.prog.cellsOf 128 = 1 := by kernel_rfl

noncomputable def gPow : Nat := (Tryd.prog.globalNamed "internal/strconv.uint64pow10").getD 0
noncomputable def gSyn : Nat := (Tryd.prog.globalNamed "strconv.ErrSyntax").getD 0
noncomputable def gRng : Nat := (Tryd.prog.globalNamed "strconv.ErrRange").getD 0

theorem nPow : Tryd.prog.globalNamed "internal/strconv.uint64pow10" = some gPow := by kernel_rfl
theorem nSyn : Tryd.prog.globalNamed "strconv.ErrSyntax" = some gSyn := by kernel_rfl
theorem nRng : Tryd.prog.globalNamed "strconv.ErrRange" = some gRng := by kernel_rfl
theorem tPow : (Tryd.prog.globals[gPow]?).map (·.type) = some 121 := by kernel_rfl
theorem tSyn : (Tryd.prog.globals[gSyn]?).map (·.type) = some 63 := by kernel_rfl
theorem tRng : (Tryd.prog.globals[gRng]?).map (·.type) = some 63 := by kernel_rfl

theorem starE : ("*" ++ "errors.errorString" : String) = "*errors.errorString" := by decide

theorem rowErr (u : TypeId) (h : Tryd.prog.typeName? 3 u = some "*errors.errorString") : u = 126 :=
  typeName_ptr_named (nm := "errors.errorString") (by rw [starE]; kernel_rfl) (by kernel_rfl) (by decide) u (by rw [starE]; exact h)

/-- What the condition gives the walks. -/
theorem laid_of {W : World} (h : laidMetH Tryd.prog listed W) (hs : W.ShapedOpen Tryd.prog) : LaidN W := by
  rw [MakeChecks.laidMetH_plain _ _ _ (by kernel_rfl)] at h
  refine ⟨?_, ?_, ?_, ?_⟩
  · exact Lib.tabIs_of_head nPow tPow Tryd.underlying121 Tryd.underlying97 cU64 cTab h.tail.tail
  · exact Tryd.laysM143.s1_3 W hs
  · obtain ⟨a, s, hv, -, -, -⟩ := laid_sentinel h.tail.tail.tail.tail.tail nSyn tSyn Tryd.underlying63 rowErr Tryd.underlying126 Tryd.underlying128 rfl rfl Tryd.underlying9 cErrS cStr
    exact ⟨_, _, hv⟩
  · obtain ⟨a, s, hv, -, -, -⟩ := laid_sentinel h.tail.tail.tail.tail nRng tRng Tryd.underlying63 rowErr Tryd.underlying126 Tryd.underlying128 rfl rfl Tryd.underlying9 cErrS cStr
    exact ⟨_, _, hv⟩

end Go.Proofs.YtcpnbkgkknlocaaDoor
