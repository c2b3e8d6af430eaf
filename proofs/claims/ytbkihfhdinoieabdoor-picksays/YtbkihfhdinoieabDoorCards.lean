/-
  DERIVED. GIVEN WITH THE SEED: THE CARDS: each row of YtbkihfhdinoieabDoorRows.lean that lists a variable, with what it lists TIED to the program's text (the seventh form; the later family's looks); each row that meets fmt, with fmt's text TOLD by the authors' own Lean function (tested against real Go, not proved from fmt's source: count such statements apart). THE CARD IS WHAT COUNTS. Prove the row's statement (the work); the ties are given (YtbkihfhdinoieabDoorTie.lean); close each card by the builder's one call (the guide's Derived/Test/ToyasCard.lean, 'card_holds'). Laid BY PROGRAM, IN A SANDBOX (cutbox-door.mjs). By AI agents, Wed Nov 11 2026. No macro, syntax, notation, axiom, sorry.
-/
import Derived.Test.YtbkihfhdinoieabDoorRows
import GoSem.ClaimSeven
namespace Go.Proofs.YtbkihfhdinoieabDoor
namespace Rows

/-- THE TIED CARD OF 'bottlepostlaw.PickSays'. -/
def pickSaysCard : Claim7 := { stood := { row := pickSaysRow, standIns := [], harness := (true, "561724c2b30ea084934539fd911b3b097f72fa68c0d50cb9ec6c22cf8f87bf74"), looks := false }, kinds := [], alts := [], laidByText := true, laidKinds := [.data], laidTests := true, laidLooks := .later }
def PickSaysCardSaid : Prop := Claim7.holds Tryd.pinned (.plain (OpenSpec.ofChange pickSaysSpec)) pickSaysCard

/-- THE TIED CARD OF 'bottlepostlaw.PickSome'. -/
def pickSomeCard : Claim7 := { stood := { row := pickSomeRow, standIns := [], harness := (true, "561724c2b30ea084934539fd911b3b097f72fa68c0d50cb9ec6c22cf8f87bf74"), looks := false }, kinds := [], alts := [], laidByText := true, laidKinds := [.data], laidTests := true, laidLooks := .later }
def PickSomeCardSaid : Prop := Claim7.holds Tryd.pinned (.plain (OpenSpec.ofChange pickSomeSpec)) pickSomeCard

/-- THE SECOND FORM's CARD OF 'bottlepostlaw.PickSays'. -/
def pickSaysUptoCard : Claim7 := { stood := { row := pickSaysUptoRow, standIns := [], harness := (true, "561724c2b30ea084934539fd911b3b097f72fa68c0d50cb9ec6c22cf8f87bf74"), looks := false }, kinds := [], alts := [], laidByText := true, laidKinds := [.data], laidTests := true, laidLooks := .later }
def PickSaysUptoCardSaid : Prop := Claim7.holds Tryd.pinned (.plain (OpenSpec.upto pickSaysSpec)) pickSaysUptoCard

/-- THE SECOND FORM's CARD OF 'bottlepostlaw.PickSome'. -/
def pickSomeUptoCard : Claim7 := { stood := { row := pickSomeUptoRow, standIns := [], harness := (true, "561724c2b30ea084934539fd911b3b097f72fa68c0d50cb9ec6c22cf8f87bf74"), looks := false }, kinds := [], alts := [], laidByText := true, laidKinds := [.data], laidTests := true, laidLooks := .later }
def PickSomeUptoCardSaid : Prop := Claim7.holds Tryd.pinned (.plain (OpenSpec.upto pickSomeSpec)) pickSomeUptoCard
end Rows
end Go.Proofs.YtbkihfhdinoieabDoor
