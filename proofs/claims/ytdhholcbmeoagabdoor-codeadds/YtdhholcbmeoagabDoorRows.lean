/-
  NARROWER THAN 'FOR EVERY INPUT', by the rows' own cells (each row's printed sentence says how): PickSays: laid · PickSome: laid · CodeSays: laid · CodeAdds: laid.
  DERIVED. THE GIVEN ROWS OF THIS SEAT. 4 by the template 'for every input the law returns true; each argument reads behind the call as it read before'; 0 by the template 'total and deterministic' (their statements: YtdhholcbmeoagabDoorTotals.lean).
  GIVEN WITH THE SEED: the statements are not yours to turn. If you find one false, say at which input.
  Laid BY PROGRAM, IN A SANDBOX (cutbox-rows.mjs): the forced cells as the released guide's own fill.sh prints them over the translation 7aa33579d44826ca… (all of the seat's roots in one cut). By AI agents, Wed Nov 11 2026. No macro, syntax, notation, axiom, sorry.
-/
import Derived.Test.YtdhholcbmeoagabDoorChecked
import GoSem.Claim
import GoSem.ClaimJoined
import GoSem.ClaimMapViews
import Derived.JoinedTies
import Derived.KernelRfl
namespace Go.Proofs.YtdhholcbmeoagabDoor
/- THE CELL 'sum', in the pinned program and in every row, IS THE sha256 OF THE DUMP (.gsa) THAT YtdhholcbmeoagabDoorProg.lean LOADS. Nothing in Lean hashes anything: it is a label: what it is worth is what the hold of that sum in a sandbox is worth. -/
noncomputable def Tryd.pinned : Pinned := { name := "ytdhholcbmeoagabdoor", sum := "7aa33579d44826caca6eb17c3ef79909770c056a78c65ae5187b7a70b2f6e89b", checked := Tryd.checked }
namespace Rows
def none {H : Type} : Left H := { results := [], args := [] }

/- WHAT THE LISTED PACKAGE-LEVEL VARIABLES READ AS WHEN THE CALL BEGINS. Each datum BY PROGRAM (the guide's laid-datum.mjs) off the statement by which the dump's own 'gosem.cut.vars' lays the variable. In a bare row this is a premise. The card (YtdhholcbmeoagabDoorCards.lean) ties it to the program's text. -/
def laid_bottlepost_pick_limits {H : Type} : DataW H := .agg [.lit (.int .i64 8192), .lit (.int .i64 40960), .lit (.int .i64 51882), .lit (.int .i64 57344), .lit (.int .i64 60621)]

/-- 'bottlepostlaw.PickSays': WHATEVER THE INPUT: true; the input reads as it did. -/
def pickSaysSpec : ChangeSpec := { name := "pickSays", fn := fun _ => fun
  | [d1, d2] => { results := [.lit (.bool true)], args := [d1, d2] }
  | _ => none }
def pickSaysRow : OpenClaim := { program := "ytdhholcbmeoagabdoor", sum := "7aa33579d44826caca6eb17c3ef79909770c056a78c65ae5187b7a70b2f6e89b", func := "bottlepost/bottlepostlaw.PickSays", spec := "pickSays", recurses := true, named := ["bottlepost/pick.limits"], apart := false, laid := [("bottlepost/pick.limits", laid_bottlepost_pick_limits)] }
def PickSaysSaid : Prop := pickSaysRow.holds Tryd.pinned (OpenSpec.ofChange pickSaysSpec)

/-- ITS FALSE NEIGHBOUR: 'it returns false'. Refute it at one input. -/
def pickSaysWrong : ChangeSpec := { name := "pickSays", fn := fun _ => fun
  | [d1, d2] => { results := [.lit (.bool false)], args := [d1, d2] }
  | _ => none }
def PickSaysWrongFalsely : Prop := pickSaysRow.holds Tryd.pinned (OpenSpec.ofChange pickSaysWrong)

/-- 'bottlepostlaw.PickSome': WHATEVER THE INPUT: true; the input reads as it did. -/
def pickSomeSpec : ChangeSpec := { name := "pickSome", fn := fun _ => fun
  | [d1, d2] => { results := [.lit (.bool true)], args := [d1, d2] }
  | _ => none }
def pickSomeRow : OpenClaim := { program := "ytdhholcbmeoagabdoor", sum := "7aa33579d44826caca6eb17c3ef79909770c056a78c65ae5187b7a70b2f6e89b", func := "bottlepost/bottlepostlaw.PickSome", spec := "pickSome", named := ["bottlepost/pick.limits"], apart := false, laid := [("bottlepost/pick.limits", laid_bottlepost_pick_limits)] }
def PickSomeSaid : Prop := pickSomeRow.holds Tryd.pinned (OpenSpec.ofChange pickSomeSpec)

/-- ITS FALSE NEIGHBOUR: 'it returns false'. Refute it at one input. -/
def pickSomeWrong : ChangeSpec := { name := "pickSome", fn := fun _ => fun
  | [d1, d2] => { results := [.lit (.bool false)], args := [d1, d2] }
  | _ => none }
def PickSomeWrongFalsely : Prop := pickSomeRow.holds Tryd.pinned (OpenSpec.ofChange pickSomeWrong)

/-- 'bottlepostlaw.CodeSays': WHATEVER THE INPUT: true; the input reads as it did. -/
def codeSaysSpec : ChangeSpec := { name := "codeSays", fn := fun _ => fun
  | [d1, d2, d3, d4] => { results := [.lit (.bool true)], args := [d1, d2, d3, d4] }
  | _ => none }
def codeSaysRow : OpenClaim := { program := "ytdhholcbmeoagabdoor", sum := "7aa33579d44826caca6eb17c3ef79909770c056a78c65ae5187b7a70b2f6e89b", func := "bottlepost/bottlepostlaw.CodeSays", spec := "codeSays", recurses := true, named := ["bottlepost/pick.limits"], apart := false, laid := [("bottlepost/pick.limits", laid_bottlepost_pick_limits)] }
def CodeSaysSaid : Prop := codeSaysRow.holds Tryd.pinned (OpenSpec.ofChange codeSaysSpec)

/-- ITS FALSE NEIGHBOUR: 'it returns false'. Refute it at one input. -/
def codeSaysWrong : ChangeSpec := { name := "codeSays", fn := fun _ => fun
  | [d1, d2, d3, d4] => { results := [.lit (.bool false)], args := [d1, d2, d3, d4] }
  | _ => none }
def CodeSaysWrongFalsely : Prop := codeSaysRow.holds Tryd.pinned (OpenSpec.ofChange codeSaysWrong)

/-- 'bottlepostlaw.CodeAdds': WHATEVER THE INPUT: true; the input reads as it did. -/
def codeAddsSpec : ChangeSpec := { name := "codeAdds", fn := fun _ => fun
  | [d1, d2, d3, d4] => { results := [.lit (.bool true)], args := [d1, d2, d3, d4] }
  | _ => none }
def codeAddsRow : OpenClaim := { program := "ytdhholcbmeoagabdoor", sum := "7aa33579d44826caca6eb17c3ef79909770c056a78c65ae5187b7a70b2f6e89b", func := "bottlepost/bottlepostlaw.CodeAdds", spec := "codeAdds", named := ["bottlepost/pick.limits"], apart := false, laid := [("bottlepost/pick.limits", laid_bottlepost_pick_limits)] }
def CodeAddsSaid : Prop := codeAddsRow.holds Tryd.pinned (OpenSpec.ofChange codeAddsSpec)

/-- ITS FALSE NEIGHBOUR: 'it returns false'. Refute it at one input. -/
def codeAddsWrong : ChangeSpec := { name := "codeAdds", fn := fun _ => fun
  | [d1, d2, d3, d4] => { results := [.lit (.bool false)], args := [d1, d2, d3, d4] }
  | _ => none }
def CodeAddsWrongFalsely : Prop := codeAddsRow.holds Tryd.pinned (OpenSpec.ofChange codeAddsWrong)

/- THE SECOND FORM. 'bulk': how many values and letters a reading holds, each counted each time it is reached (what is shared counts as often as it is met; a slice's spare places count too). A statement '..UptoSaid' is the law's where the arguments, and the package variables that the reading takes, are together of bulk at most 1048576: NARROWER than '..Said'. Prove '..Said' where nothing that the law and all that it calls make is longer than what came in: it says more and counts as full. Else prove '..UptoSaid'. A law counts once. -/
mutual
def uptoBulk {H : Type} : DataW H → Nat
  | .lit (.string bytes) => bytes.length + 1
  | .lit _ => 1
  | .nil => 1
  | .ptr d => uptoBulk d + 1
  | .slice elems spare => uptoBulkAll elems + uptoBulkAll spare + 1
  | .agg parts => uptoBulkAll parts + 1
  | .iface _ d => uptoBulk d + 1
  | .map entries => uptoBulkEntries entries + 1
  | .held _ => 1
def uptoBulkAll {H : Type} : List (DataW H) → Nat
  | [] => 0
  | d :: r => uptoBulk d + uptoBulkAll r
def uptoBulkEntries {H : Type} : List (Lit × DataW H) → Nat
  | [] => 0
  | x :: r => uptoBulkEntry x + uptoBulkEntries r
def uptoBulkEntry {H : Type} : Lit × DataW H → Nat
  | (.string bytes, d) => bytes.length + uptoBulk d + 1
  | (_, d) => uptoBulk d + 1
 end
def uptoSmall : (H : Type) → List (DataW H) → Bool := fun _ ds => decide (uptoBulkAll ds ≤ 1048576)
def OpenSpec.upto (s : _root_.Go.ChangeSpec) : _root_.Go.OpenSpec := { _root_.Go.OpenSpec.ofChange s with cond := some uptoSmall }

/-- 'bottlepostlaw.PickSays', WHERE WHAT IT READS IS OF BULK AT MOST 1048576: true; the input reads as it did. -/
def pickSaysUptoRow : OpenClaim := { program := "ytdhholcbmeoagabdoor", sum := "7aa33579d44826caca6eb17c3ef79909770c056a78c65ae5187b7a70b2f6e89b", func := "bottlepost/bottlepostlaw.PickSays", spec := "pickSays", recurses := true, named := ["bottlepost/pick.limits"], apart := false, laid := [("bottlepost/pick.limits", laid_bottlepost_pick_limits)], narrowed := true }
def PickSaysUptoSaid : Prop := pickSaysUptoRow.holds Tryd.pinned (OpenSpec.upto pickSaysSpec)

/-- 'bottlepostlaw.PickSome', WHERE WHAT IT READS IS OF BULK AT MOST 1048576: true; the input reads as it did. -/
def pickSomeUptoRow : OpenClaim := { program := "ytdhholcbmeoagabdoor", sum := "7aa33579d44826caca6eb17c3ef79909770c056a78c65ae5187b7a70b2f6e89b", func := "bottlepost/bottlepostlaw.PickSome", spec := "pickSome", named := ["bottlepost/pick.limits"], apart := false, laid := [("bottlepost/pick.limits", laid_bottlepost_pick_limits)], narrowed := true }
def PickSomeUptoSaid : Prop := pickSomeUptoRow.holds Tryd.pinned (OpenSpec.upto pickSomeSpec)

/-- 'bottlepostlaw.CodeSays', WHERE WHAT IT READS IS OF BULK AT MOST 1048576: true; the input reads as it did. -/
def codeSaysUptoRow : OpenClaim := { program := "ytdhholcbmeoagabdoor", sum := "7aa33579d44826caca6eb17c3ef79909770c056a78c65ae5187b7a70b2f6e89b", func := "bottlepost/bottlepostlaw.CodeSays", spec := "codeSays", recurses := true, named := ["bottlepost/pick.limits"], apart := false, laid := [("bottlepost/pick.limits", laid_bottlepost_pick_limits)], narrowed := true }
def CodeSaysUptoSaid : Prop := codeSaysUptoRow.holds Tryd.pinned (OpenSpec.upto codeSaysSpec)

/-- 'bottlepostlaw.CodeAdds', WHERE WHAT IT READS IS OF BULK AT MOST 1048576: true; the input reads as it did. -/
def codeAddsUptoRow : OpenClaim := { program := "ytdhholcbmeoagabdoor", sum := "7aa33579d44826caca6eb17c3ef79909770c056a78c65ae5187b7a70b2f6e89b", func := "bottlepost/bottlepostlaw.CodeAdds", spec := "codeAdds", named := ["bottlepost/pick.limits"], apart := false, laid := [("bottlepost/pick.limits", laid_bottlepost_pick_limits)], narrowed := true }
def CodeAddsUptoSaid : Prop := codeAddsUptoRow.holds Tryd.pinned (OpenSpec.upto codeAddsSpec)

end Rows
end Go.Proofs.YtdhholcbmeoagabDoor
