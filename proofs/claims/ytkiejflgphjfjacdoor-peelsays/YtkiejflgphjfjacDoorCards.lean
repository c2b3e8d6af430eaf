/-
  DERIVED. GIVEN WITH THE SEED: THE CARDS: each row of YtkiejflgphjfjacDoorRows.lean that lists a variable, with what it lists TIED to the program's text (the seventh form; the later family's looks); each row that meets fmt, with fmt's text TOLD by the authors' own Lean function (tested against real Go, not proved from fmt's source: count such statements apart). THE CARD IS WHAT COUNTS. Prove the row's statement (the work); the ties are given (YtkiejflgphjfjacDoorTie.lean); close each card by the builder's one call (the guide's Derived/Test/ToyasCard.lean, 'card_holds'). Laid BY PROGRAM, IN A SANDBOX (cutbox-door.mjs). By AI agents, Wed Nov 11 2026. No macro, syntax, notation, axiom, sorry.
-/
import Derived.Test.YtkiejflgphjfjacDoorRows
import GoSem.ClaimSeven
namespace Go.Proofs.YtkiejflgphjfjacDoor
namespace Rows

/-- THE TIED CARD OF 'bottlepostlaw.SolveDecode'. -/
def solveDecodeCard : Claim7 := { stood := { row := solveDecodeRow, standIns := [], harness := (true, "5ff99afcd02463a876703f4dcda82aa78668e31c724035372bf6ae836559e9ed"), looks := false }, kinds := [], alts := [], laidByText := true, laidKinds := [.data], laidTests := true, laidLooks := .later }
def SolveDecodeCardSaid : Prop := Claim7.holds Tryd.pinned (.plain (OpenSpec.ofChange solveDecodeSpec)) solveDecodeCard

/-- THE TIED CARD OF 'bottlepostlaw.SolveNever'. -/
def solveNeverCard : Claim7 := { stood := { row := solveNeverRow, standIns := [], harness := (true, "5ff99afcd02463a876703f4dcda82aa78668e31c724035372bf6ae836559e9ed"), looks := false }, kinds := [], alts := [], laidByText := true, laidKinds := [.data], laidTests := true, laidLooks := .later }
def SolveNeverCardSaid : Prop := Claim7.holds Tryd.pinned (.plain (OpenSpec.ofChange solveNeverSpec)) solveNeverCard

/-- THE TIED CARD OF 'bottlepostlaw.SolveOrder'. -/
def solveOrderCard : Claim7 := { stood := { row := solveOrderRow, standIns := [], harness := (true, "5ff99afcd02463a876703f4dcda82aa78668e31c724035372bf6ae836559e9ed"), looks := false }, kinds := [], alts := [], laidByText := true, laidKinds := [.data], laidTests := true, laidLooks := .later }
def SolveOrderCardSaid : Prop := Claim7.holds Tryd.pinned (.plain (OpenSpec.ofChange solveOrderSpec)) solveOrderCard

/-- THE TIED CARD OF 'bottlepostlaw.SolveEnough'. -/
def solveEnoughCard : Claim7 := { stood := { row := solveEnoughRow, standIns := [], harness := (true, "5ff99afcd02463a876703f4dcda82aa78668e31c724035372bf6ae836559e9ed"), looks := false }, kinds := [], alts := [], laidByText := true, laidKinds := [.data], laidTests := true, laidLooks := .later }
def SolveEnoughCardSaid : Prop := Claim7.holds Tryd.pinned (.plain (OpenSpec.ofChange solveEnoughSpec)) solveEnoughCard

/-- THE TIED CARD OF 'bottlepostlaw.SolveKnown'. -/
def solveKnownCard : Claim7 := { stood := { row := solveKnownRow, standIns := [], harness := (true, "5ff99afcd02463a876703f4dcda82aa78668e31c724035372bf6ae836559e9ed"), looks := false }, kinds := [], alts := [], laidByText := true, laidKinds := [.data], laidTests := true, laidLooks := .later }
def SolveKnownCardSaid : Prop := Claim7.holds Tryd.pinned (.plain (OpenSpec.ofChange solveKnownSpec)) solveKnownCard

/-- THE TIED CARD OF 'bottlepostlaw.PeelSays'. -/
def peelSaysCard : Claim7 := { stood := { row := peelSaysRow, standIns := [], harness := (true, "5ff99afcd02463a876703f4dcda82aa78668e31c724035372bf6ae836559e9ed"), looks := false }, kinds := [], alts := [], laidByText := true, laidKinds := [.data], laidTests := true, laidLooks := .later }
def PeelSaysCardSaid : Prop := Claim7.holds Tryd.pinned (.plain (OpenSpec.ofChange peelSaysSpec)) peelSaysCard

/-- THE SECOND FORM's CARD OF 'bottlepostlaw.SolveDecode'. -/
def solveDecodeUptoCard : Claim7 := { stood := { row := solveDecodeUptoRow, standIns := [], harness := (true, "5ff99afcd02463a876703f4dcda82aa78668e31c724035372bf6ae836559e9ed"), looks := false }, kinds := [], alts := [], laidByText := true, laidKinds := [.data], laidTests := true, laidLooks := .later }
def SolveDecodeUptoCardSaid : Prop := Claim7.holds Tryd.pinned (.plain (OpenSpec.upto solveDecodeSpec)) solveDecodeUptoCard

/-- THE SECOND FORM's CARD OF 'bottlepostlaw.SolveNever'. -/
def solveNeverUptoCard : Claim7 := { stood := { row := solveNeverUptoRow, standIns := [], harness := (true, "5ff99afcd02463a876703f4dcda82aa78668e31c724035372bf6ae836559e9ed"), looks := false }, kinds := [], alts := [], laidByText := true, laidKinds := [.data], laidTests := true, laidLooks := .later }
def SolveNeverUptoCardSaid : Prop := Claim7.holds Tryd.pinned (.plain (OpenSpec.upto solveNeverSpec)) solveNeverUptoCard

/-- THE SECOND FORM's CARD OF 'bottlepostlaw.SolveOrder'. -/
def solveOrderUptoCard : Claim7 := { stood := { row := solveOrderUptoRow, standIns := [], harness := (true, "5ff99afcd02463a876703f4dcda82aa78668e31c724035372bf6ae836559e9ed"), looks := false }, kinds := [], alts := [], laidByText := true, laidKinds := [.data], laidTests := true, laidLooks := .later }
def SolveOrderUptoCardSaid : Prop := Claim7.holds Tryd.pinned (.plain (OpenSpec.upto solveOrderSpec)) solveOrderUptoCard

/-- THE SECOND FORM's CARD OF 'bottlepostlaw.SolveEnough'. -/
def solveEnoughUptoCard : Claim7 := { stood := { row := solveEnoughUptoRow, standIns := [], harness := (true, "5ff99afcd02463a876703f4dcda82aa78668e31c724035372bf6ae836559e9ed"), looks := false }, kinds := [], alts := [], laidByText := true, laidKinds := [.data], laidTests := true, laidLooks := .later }
def SolveEnoughUptoCardSaid : Prop := Claim7.holds Tryd.pinned (.plain (OpenSpec.upto solveEnoughSpec)) solveEnoughUptoCard

/-- THE SECOND FORM's CARD OF 'bottlepostlaw.SolveKnown'. -/
def solveKnownUptoCard : Claim7 := { stood := { row := solveKnownUptoRow, standIns := [], harness := (true, "5ff99afcd02463a876703f4dcda82aa78668e31c724035372bf6ae836559e9ed"), looks := false }, kinds := [], alts := [], laidByText := true, laidKinds := [.data], laidTests := true, laidLooks := .later }
def SolveKnownUptoCardSaid : Prop := Claim7.holds Tryd.pinned (.plain (OpenSpec.upto solveKnownSpec)) solveKnownUptoCard

/-- THE SECOND FORM's CARD OF 'bottlepostlaw.PeelSays'. -/
def peelSaysUptoCard : Claim7 := { stood := { row := peelSaysUptoRow, standIns := [], harness := (true, "5ff99afcd02463a876703f4dcda82aa78668e31c724035372bf6ae836559e9ed"), looks := false }, kinds := [], alts := [], laidByText := true, laidKinds := [.data], laidTests := true, laidLooks := .later }
def PeelSaysUptoCardSaid : Prop := Claim7.holds Tryd.pinned (.plain (OpenSpec.upto peelSaysSpec)) peelSaysUptoCard
end Rows
end Go.Proofs.YtkiejflgphjfjacDoor
