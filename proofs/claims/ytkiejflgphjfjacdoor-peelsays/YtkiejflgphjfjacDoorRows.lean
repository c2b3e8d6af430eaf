/-
  NARROWER THAN 'FOR EVERY INPUT', by the rows' own cells (each row's printed sentence says how): SolveDecode: laid · SolveNever: laid · SolveOrder: laid · SolveEnough: laid · SolveKnown: laid · PeelSays: laid.
  DERIVED. THE GIVEN ROWS OF THIS SEAT. 6 by the template 'for every input the law returns true; each argument reads behind the call as it read before'; 0 by the template 'total and deterministic' (their statements: YtkiejflgphjfjacDoorTotals.lean).
  GIVEN WITH THE SEED: the statements are not yours to turn. If you find one false, say at which input.
  Laid BY PROGRAM, IN A SANDBOX (cutbox-rows.mjs): the forced cells as the released guide's own fill.sh prints them over the translation fe6595a61789b3a0… (all of the seat's roots in one cut). By AI agents, Wed Nov 11 2026. No macro, syntax, notation, axiom, sorry.
-/
import Derived.Test.YtkiejflgphjfjacDoorChecked
import GoSem.Claim
import GoSem.ClaimJoined
import GoSem.ClaimMapViews
import Derived.JoinedTies
import Derived.KernelRfl
namespace Go.Proofs.YtkiejflgphjfjacDoor
/- THE CELL 'sum', in the pinned program and in every row, IS THE sha256 OF THE DUMP (.gsa) THAT YtkiejflgphjfjacDoorProg.lean LOADS. Nothing in Lean hashes anything: it is a label: what it is worth is what the hold of that sum in a sandbox is worth. -/
noncomputable def Tryd.pinned : Pinned := { name := "ytkiejflgphjfjacdoor", sum := "fe6595a61789b3a078fce2dbe74017630b7aa4e030d8a107998a4dd1ccebcc62", checked := Tryd.checked }
namespace Rows
def none {H : Type} : Left H := { results := [], args := [] }

/- WHAT THE LISTED PACKAGE-LEVEL VARIABLES READ AS WHEN THE CALL BEGINS. Each datum BY PROGRAM (the guide's laid-datum.mjs) off the statement by which the dump's own 'gosem.cut.vars' lays the variable. In a bare row this is a premise. The card (YtkiejflgphjfjacDoorCards.lean) ties it to the program's text. -/
def laid_bottlepost_pick_limits {H : Type} : DataW H := .agg [.lit (.int .i64 8192), .lit (.int .i64 40960), .lit (.int .i64 51882), .lit (.int .i64 57344), .lit (.int .i64 60621)]

/-- 'bottlepostlaw.SolveDecode': WHATEVER THE INPUT: true; the input reads as it did. -/
def solveDecodeSpec : ChangeSpec := { name := "solveDecode", fn := fun _ => fun
  | [d1, d2] => { results := [.lit (.bool true)], args := [d1, d2] }
  | _ => none }
def solveDecodeRow : OpenClaim := { program := "ytkiejflgphjfjacdoor", sum := "fe6595a61789b3a078fce2dbe74017630b7aa4e030d8a107998a4dd1ccebcc62", func := "bottlepost/bottlepostlaw.SolveDecode", spec := "solveDecode", inPlace := ["slices.overlaps[bottlepost/api.Row]"], unfollowed := true, recurses := true, named := ["bottlepost/pick.limits"], apart := false, laid := [("bottlepost/pick.limits", laid_bottlepost_pick_limits)] }
def SolveDecodeSaid : Prop := solveDecodeRow.holds Tryd.pinned (OpenSpec.ofChange solveDecodeSpec)

/-- ITS FALSE NEIGHBOUR: 'it returns false'. Refute it at one input. -/
def solveDecodeWrong : ChangeSpec := { name := "solveDecode", fn := fun _ => fun
  | [d1, d2] => { results := [.lit (.bool false)], args := [d1, d2] }
  | _ => none }
def SolveDecodeWrongFalsely : Prop := solveDecodeRow.holds Tryd.pinned (OpenSpec.ofChange solveDecodeWrong)

/-- 'bottlepostlaw.SolveNever': WHATEVER THE INPUT: true; the input reads as it did. -/
def solveNeverSpec : ChangeSpec := { name := "solveNever", fn := fun _ => fun
  | [d1, d2, d3, d4] => { results := [.lit (.bool true)], args := [d1, d2, d3, d4] }
  | _ => none }
def solveNeverRow : OpenClaim := { program := "ytkiejflgphjfjacdoor", sum := "fe6595a61789b3a078fce2dbe74017630b7aa4e030d8a107998a4dd1ccebcc62", func := "bottlepost/bottlepostlaw.SolveNever", spec := "solveNever", inPlace := ["slices.overlaps[bottlepost/api.Row]"], unfollowed := true, recurses := true, named := ["bottlepost/pick.limits"], apart := false, laid := [("bottlepost/pick.limits", laid_bottlepost_pick_limits)] }
def SolveNeverSaid : Prop := solveNeverRow.holds Tryd.pinned (OpenSpec.ofChange solveNeverSpec)

/-- ITS FALSE NEIGHBOUR: 'it returns false'. Refute it at one input. -/
def solveNeverWrong : ChangeSpec := { name := "solveNever", fn := fun _ => fun
  | [d1, d2, d3, d4] => { results := [.lit (.bool false)], args := [d1, d2, d3, d4] }
  | _ => none }
def SolveNeverWrongFalsely : Prop := solveNeverRow.holds Tryd.pinned (OpenSpec.ofChange solveNeverWrong)

/-- 'bottlepostlaw.SolveOrder': WHATEVER THE INPUT: true; the input reads as it did. -/
def solveOrderSpec : ChangeSpec := { name := "solveOrder", fn := fun _ => fun
  | [d1, d2, d3, d4] => { results := [.lit (.bool true)], args := [d1, d2, d3, d4] }
  | _ => none }
def solveOrderRow : OpenClaim := { program := "ytkiejflgphjfjacdoor", sum := "fe6595a61789b3a078fce2dbe74017630b7aa4e030d8a107998a4dd1ccebcc62", func := "bottlepost/bottlepostlaw.SolveOrder", spec := "solveOrder", inPlace := ["slices.overlaps[bottlepost/api.Row]"], unfollowed := true, recurses := true, named := ["bottlepost/pick.limits"], apart := false, laid := [("bottlepost/pick.limits", laid_bottlepost_pick_limits)] }
def SolveOrderSaid : Prop := solveOrderRow.holds Tryd.pinned (OpenSpec.ofChange solveOrderSpec)

/-- ITS FALSE NEIGHBOUR: 'it returns false'. Refute it at one input. -/
def solveOrderWrong : ChangeSpec := { name := "solveOrder", fn := fun _ => fun
  | [d1, d2, d3, d4] => { results := [.lit (.bool false)], args := [d1, d2, d3, d4] }
  | _ => none }
def SolveOrderWrongFalsely : Prop := solveOrderRow.holds Tryd.pinned (OpenSpec.ofChange solveOrderWrong)

/-- 'bottlepostlaw.SolveEnough': WHATEVER THE INPUT: true; the input reads as it did. -/
def solveEnoughSpec : ChangeSpec := { name := "solveEnough", fn := fun _ => fun
  | [d1, d2, d3] => { results := [.lit (.bool true)], args := [d1, d2, d3] }
  | _ => none }
def solveEnoughRow : OpenClaim := { program := "ytkiejflgphjfjacdoor", sum := "fe6595a61789b3a078fce2dbe74017630b7aa4e030d8a107998a4dd1ccebcc62", func := "bottlepost/bottlepostlaw.SolveEnough", spec := "solveEnough", inPlace := ["slices.overlaps[bottlepost/api.Row]"], unfollowed := true, recurses := true, named := ["bottlepost/pick.limits"], apart := false, laid := [("bottlepost/pick.limits", laid_bottlepost_pick_limits)] }
def SolveEnoughSaid : Prop := solveEnoughRow.holds Tryd.pinned (OpenSpec.ofChange solveEnoughSpec)

/-- ITS FALSE NEIGHBOUR: 'it returns false'. Refute it at one input. -/
def solveEnoughWrong : ChangeSpec := { name := "solveEnough", fn := fun _ => fun
  | [d1, d2, d3] => { results := [.lit (.bool false)], args := [d1, d2, d3] }
  | _ => none }
def SolveEnoughWrongFalsely : Prop := solveEnoughRow.holds Tryd.pinned (OpenSpec.ofChange solveEnoughWrong)

/-- 'bottlepostlaw.SolveKnown': WHATEVER THE INPUT: true; the input reads as it did. -/
def solveKnownSpec : ChangeSpec := { name := "solveKnown", fn := fun _ => fun
  | [d1, d2, d3] => { results := [.lit (.bool true)], args := [d1, d2, d3] }
  | _ => none }
def solveKnownRow : OpenClaim := { program := "ytkiejflgphjfjacdoor", sum := "fe6595a61789b3a078fce2dbe74017630b7aa4e030d8a107998a4dd1ccebcc62", func := "bottlepost/bottlepostlaw.SolveKnown", spec := "solveKnown", inPlace := ["slices.overlaps[bottlepost/api.Row]"], unfollowed := true, recurses := true, named := ["bottlepost/pick.limits"], apart := false, laid := [("bottlepost/pick.limits", laid_bottlepost_pick_limits)] }
def SolveKnownSaid : Prop := solveKnownRow.holds Tryd.pinned (OpenSpec.ofChange solveKnownSpec)

/-- ITS FALSE NEIGHBOUR: 'it returns false'. Refute it at one input. -/
def solveKnownWrong : ChangeSpec := { name := "solveKnown", fn := fun _ => fun
  | [d1, d2, d3] => { results := [.lit (.bool false)], args := [d1, d2, d3] }
  | _ => none }
def SolveKnownWrongFalsely : Prop := solveKnownRow.holds Tryd.pinned (OpenSpec.ofChange solveKnownWrong)

/-- 'bottlepostlaw.PeelSays': WHATEVER THE INPUT: true; the input reads as it did. -/
def peelSaysSpec : ChangeSpec := { name := "peelSays", fn := fun _ => fun
  | [d1, d2] => { results := [.lit (.bool true)], args := [d1, d2] }
  | _ => none }
def peelSaysRow : OpenClaim := { program := "ytkiejflgphjfjacdoor", sum := "fe6595a61789b3a078fce2dbe74017630b7aa4e030d8a107998a4dd1ccebcc62", func := "bottlepost/bottlepostlaw.PeelSays", spec := "peelSays", unfollowed := true, recurses := true, named := ["bottlepost/pick.limits"], apart := false, laid := [("bottlepost/pick.limits", laid_bottlepost_pick_limits)] }
def PeelSaysSaid : Prop := peelSaysRow.holds Tryd.pinned (OpenSpec.ofChange peelSaysSpec)

/-- ITS FALSE NEIGHBOUR: 'it returns false'. Refute it at one input. -/
def peelSaysWrong : ChangeSpec := { name := "peelSays", fn := fun _ => fun
  | [d1, d2] => { results := [.lit (.bool false)], args := [d1, d2] }
  | _ => none }
def PeelSaysWrongFalsely : Prop := peelSaysRow.holds Tryd.pinned (OpenSpec.ofChange peelSaysWrong)

/- THE SECOND FORM. 'bulk': how many values and letters a reading holds, each counted each time it is reached (what is shared counts as often as it is met; a slice's spare places count too). A statement '..UptoSaid' is the law's where the arguments, and the package variables that the reading takes, are together of bulk at most 1048576: NARROWER than '..Said'. Prove '..Said' where nothing that the law and all that it calls make is longer than what came in: it says more and counts as full. Else prove '..UptoSaid'. A law counts once. -/
mutual
def uptoBulk {H : Type} : DataW H → Nat
  | .lit (.string bytes) => bytes.length + 1
  | .lit _ => 1
  | .nil => 1
  | .ptr d => uptoBulk d + 1
  | .slice elems spare => uptoBulkAll elems + uptoBulkAll spare + 1
  | .agg parts => uptoBulkAll parts + 1
  | .iface _ d => uptoBulk d + 1
  | .map entries => uptoBulkEntries entries + 1
  | .held _ => 1
def uptoBulkAll {H : Type} : List (DataW H) → Nat
  | [] => 0
  | d :: r => uptoBulk d + uptoBulkAll r
def uptoBulkEntries {H : Type} : List (Lit × DataW H) → Nat
  | [] => 0
  | x :: r => uptoBulkEntry x + uptoBulkEntries r
def uptoBulkEntry {H : Type} : Lit × DataW H → Nat
  | (.string bytes, d) => bytes.length + uptoBulk d + 1
  | (_, d) => uptoBulk d + 1
 end
def uptoSmall : (H : Type) → List (DataW H) → Bool := fun _ ds => decide (uptoBulkAll ds ≤ 1048576)
def OpenSpec.upto (s : _root_.Go.ChangeSpec) : _root_.Go.OpenSpec := { _root_.Go.OpenSpec.ofChange s with cond := some uptoSmall }

/-- 'bottlepostlaw.SolveDecode', WHERE WHAT IT READS IS OF BULK AT MOST 1048576: true; the input reads as it did. -/
def solveDecodeUptoRow : OpenClaim := { program := "ytkiejflgphjfjacdoor", sum := "fe6595a61789b3a078fce2dbe74017630b7aa4e030d8a107998a4dd1ccebcc62", func := "bottlepost/bottlepostlaw.SolveDecode", spec := "solveDecode", inPlace := ["slices.overlaps[bottlepost/api.Row]"], unfollowed := true, recurses := true, named := ["bottlepost/pick.limits"], apart := false, laid := [("bottlepost/pick.limits", laid_bottlepost_pick_limits)], narrowed := true }
def SolveDecodeUptoSaid : Prop := solveDecodeUptoRow.holds Tryd.pinned (OpenSpec.upto solveDecodeSpec)

/-- 'bottlepostlaw.SolveNever', WHERE WHAT IT READS IS OF BULK AT MOST 1048576: true; the input reads as it did. -/
def solveNeverUptoRow : OpenClaim := { program := "ytkiejflgphjfjacdoor", sum := "fe6595a61789b3a078fce2dbe74017630b7aa4e030d8a107998a4dd1ccebcc62", func := "bottlepost/bottlepostlaw.SolveNever", spec := "solveNever", inPlace := ["slices.overlaps[bottlepost/api.Row]"], unfollowed := true, recurses := true, named := ["bottlepost/pick.limits"], apart := false, laid := [("bottlepost/pick.limits", laid_bottlepost_pick_limits)], narrowed := true }
def SolveNeverUptoSaid : Prop := solveNeverUptoRow.holds Tryd.pinned (OpenSpec.upto solveNeverSpec)

/-- 'bottlepostlaw.SolveOrder', WHERE WHAT IT READS IS OF BULK AT MOST 1048576: true; the input reads as it did. -/
def solveOrderUptoRow : OpenClaim := { program := "ytkiejflgphjfjacdoor", sum := "fe6595a61789b3a078fce2dbe74017630b7aa4e030d8a107998a4dd1ccebcc62", func := "bottlepost/bottlepostlaw.SolveOrder", spec := "solveOrder", inPlace := ["slices.overlaps[bottlepost/api.Row]"], unfollowed := true, recurses := true, named := ["bottlepost/pick.limits"], apart := false, laid := [("bottlepost/pick.limits", laid_bottlepost_pick_limits)], narrowed := true }
def SolveOrderUptoSaid : Prop := solveOrderUptoRow.holds Tryd.pinned (OpenSpec.upto solveOrderSpec)

/-- 'bottlepostlaw.SolveEnough', WHERE WHAT IT READS IS OF BULK AT MOST 1048576: true; the input reads as it did. -/
def solveEnoughUptoRow : OpenClaim := { program := "ytkiejflgphjfjacdoor", sum := "fe6595a61789b3a078fce2dbe74017630b7aa4e030d8a107998a4dd1ccebcc62", func := "bottlepost/bottlepostlaw.SolveEnough", spec := "solveEnough", inPlace := ["slices.overlaps[bottlepost/api.Row]"], unfollowed := true, recurses := true, named := ["bottlepost/pick.limits"], apart := false, laid := [("bottlepost/pick.limits", laid_bottlepost_pick_limits)], narrowed := true }
def SolveEnoughUptoSaid : Prop := solveEnoughUptoRow.holds Tryd.pinned (OpenSpec.upto solveEnoughSpec)

/-- 'bottlepostlaw.SolveKnown', WHERE WHAT IT READS IS OF BULK AT MOST 1048576: true; the input reads as it did. -/
def solveKnownUptoRow : OpenClaim := { program := "ytkiejflgphjfjacdoor", sum := "fe6595a61789b3a078fce2dbe74017630b7aa4e030d8a107998a4dd1ccebcc62", func := "bottlepost/bottlepostlaw.SolveKnown", spec := "solveKnown", inPlace := ["slices.overlaps[bottlepost/api.Row]"], unfollowed := true, recurses := true, named := ["bottlepost/pick.limits"], apart := false, laid := [("bottlepost/pick.limits", laid_bottlepost_pick_limits)], narrowed := true }
def SolveKnownUptoSaid : Prop := solveKnownUptoRow.holds Tryd.pinned (OpenSpec.upto solveKnownSpec)

/-- 'bottlepostlaw.PeelSays', WHERE WHAT IT READS IS OF BULK AT MOST 1048576: true; the input reads as it did. -/
def peelSaysUptoRow : OpenClaim := { program := "ytkiejflgphjfjacdoor", sum := "fe6595a61789b3a078fce2dbe74017630b7aa4e030d8a107998a4dd1ccebcc62", func := "bottlepost/bottlepostlaw.PeelSays", spec := "peelSays", unfollowed := true, recurses := true, named := ["bottlepost/pick.limits"], apart := false, laid := [("bottlepost/pick.limits", laid_bottlepost_pick_limits)], narrowed := true }
def PeelSaysUptoSaid : Prop := peelSaysUptoRow.holds Tryd.pinned (OpenSpec.upto peelSaysSpec)

end Rows
end Go.Proofs.YtkiejflgphjfjacDoor
