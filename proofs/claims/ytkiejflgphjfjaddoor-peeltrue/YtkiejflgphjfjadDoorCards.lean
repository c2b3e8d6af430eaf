/-
  DERIVED. GIVEN WITH THE SEED: THE CARDS: each row of YtkiejflgphjfjadDoorRows.lean that lists a variable, with what it lists TIED to the program's text (the seventh form; the later family's looks); each row that meets fmt, with fmt's text TOLD by the authors' own Lean function (tested against real Go, not proved from fmt's source: count such statements apart). THE CARD IS WHAT COUNTS. Prove the row's statement (the work); the ties are given (YtkiejflgphjfjadDoorTie.lean); close each card by the builder's one call (the guide's Derived/Test/ToyasCard.lean, 'card_holds'). Laid BY PROGRAM, IN A SANDBOX (cutbox-door.mjs). By AI agents, Wed Nov 11 2026. No macro, syntax, notation, axiom, sorry.
-/
import Derived.Test.YtkiejflgphjfjadDoorRows
import GoSem.ClaimSeven
namespace Go.Proofs.YtkiejflgphjfjadDoor
namespace Rows

/-- THE TIED CARD OF 'bottlepostlaw.PeelTrue'. -/
def peelTrueCard : Claim7 := { stood := { row := peelTrueRow, standIns := [], harness := (true, "fc243fb9bd36c048e85ac087825c5b53690f829dc7efda76be6bf5570d917b80"), looks := false }, kinds := [], alts := [], laidByText := true, laidKinds := [.data], laidTests := true, laidLooks := .later }
def PeelTrueCardSaid : Prop := Claim7.holds Tryd.pinned (.plain (OpenSpec.ofChange peelTrueSpec)) peelTrueCard

/-- THE SECOND FORM's CARD OF 'bottlepostlaw.PeelTrue'. -/
def peelTrueUptoCard : Claim7 := { stood := { row := peelTrueUptoRow, standIns := [], harness := (true, "fc243fb9bd36c048e85ac087825c5b53690f829dc7efda76be6bf5570d917b80"), looks := false }, kinds := [], alts := [], laidByText := true, laidKinds := [.data], laidTests := true, laidLooks := .later }
def PeelTrueUptoCardSaid : Prop := Claim7.holds Tryd.pinned (.plain (OpenSpec.upto peelTrueSpec)) peelTrueUptoCard
end Rows
end Go.Proofs.YtkiejflgphjfjadDoor
