/-
  DERIVED. GIVEN WITH THE SEED: THE CARDS: each row of YtdhholcbmeoagabDoorRows.lean that lists a variable, with what it lists TIED to the program's text (the seventh form; the later family's looks); each row that meets fmt, with fmt's text TOLD by the authors' own Lean function (tested against real Go, not proved from fmt's source: count such statements apart). THE CARD IS WHAT COUNTS. Prove the row's statement (the work); the ties are given (YtdhholcbmeoagabDoorTie.lean); close each card by the builder's one call (the guide's Derived/Test/ToyasCard.lean, 'card_holds'). Laid BY PROGRAM, IN A SANDBOX (cutbox-door.mjs). By AI agents, Wed Nov 11 2026. No macro, syntax, notation, axiom, sorry.
-/
import Derived.Test.YtdhholcbmeoagabDoorRows
import GoSem.ClaimSeven
namespace Go.Proofs.YtdhholcbmeoagabDoor
namespace Rows

/-- THE TIED CARD OF 'bottlepostlaw.PickSays'. -/
def pickSaysCard : Claim7 := { stood := { row := pickSaysRow, standIns := [], harness := (true, "e591bfa9f77f412ef5ebcfd78c72d30a508d33bd87e74003d8d5966de8d034da"), looks := false }, kinds := [], alts := [], laidByText := true, laidKinds := [.data], laidTests := true, laidLooks := .later }
def PickSaysCardSaid : Prop := Claim7.holds Tryd.pinned (.plain (OpenSpec.ofChange pickSaysSpec)) pickSaysCard

/-- THE TIED CARD OF 'bottlepostlaw.PickSome'. -/
def pickSomeCard : Claim7 := { stood := { row := pickSomeRow, standIns := [], harness := (true, "e591bfa9f77f412ef5ebcfd78c72d30a508d33bd87e74003d8d5966de8d034da"), looks := false }, kinds := [], alts := [], laidByText := true, laidKinds := [.data], laidTests := true, laidLooks := .later }
def PickSomeCardSaid : Prop := Claim7.holds Tryd.pinned (.plain (OpenSpec.ofChange pickSomeSpec)) pickSomeCard

/-- THE TIED CARD OF 'bottlepostlaw.CodeSays'. -/
def codeSaysCard : Claim7 := { stood := { row := codeSaysRow, standIns := [], harness := (true, "e591bfa9f77f412ef5ebcfd78c72d30a508d33bd87e74003d8d5966de8d034da"), looks := false }, kinds := [], alts := [], laidByText := true, laidKinds := [.data], laidTests := true, laidLooks := .later }
def CodeSaysCardSaid : Prop := Claim7.holds Tryd.pinned (.plain (OpenSpec.ofChange codeSaysSpec)) codeSaysCard

/-- THE TIED CARD OF 'bottlepostlaw.CodeAdds'. -/
def codeAddsCard : Claim7 := { stood := { row := codeAddsRow, standIns := [], harness := (true, "e591bfa9f77f412ef5ebcfd78c72d30a508d33bd87e74003d8d5966de8d034da"), looks := false }, kinds := [], alts := [], laidByText := true, laidKinds := [.data], laidTests := true, laidLooks := .later }
def CodeAddsCardSaid : Prop := Claim7.holds Tryd.pinned (.plain (OpenSpec.ofChange codeAddsSpec)) codeAddsCard

/-- THE SECOND FORM's CARD OF 'bottlepostlaw.PickSays'. -/
def pickSaysUptoCard : Claim7 := { stood := { row := pickSaysUptoRow, standIns := [], harness := (true, "e591bfa9f77f412ef5ebcfd78c72d30a508d33bd87e74003d8d5966de8d034da"), looks := false }, kinds := [], alts := [], laidByText := true, laidKinds := [.data], laidTests := true, laidLooks := .later }
def PickSaysUptoCardSaid : Prop := Claim7.holds Tryd.pinned (.plain (OpenSpec.upto pickSaysSpec)) pickSaysUptoCard

/-- THE SECOND FORM's CARD OF 'bottlepostlaw.PickSome'. -/
def pickSomeUptoCard : Claim7 := { stood := { row := pickSomeUptoRow, standIns := [], harness := (true, "e591bfa9f77f412ef5ebcfd78c72d30a508d33bd87e74003d8d5966de8d034da"), looks := false }, kinds := [], alts := [], laidByText := true, laidKinds := [.data], laidTests := true, laidLooks := .later }
def PickSomeUptoCardSaid : Prop := Claim7.holds Tryd.pinned (.plain (OpenSpec.upto pickSomeSpec)) pickSomeUptoCard

/-- THE SECOND FORM's CARD OF 'bottlepostlaw.CodeSays'. -/
def codeSaysUptoCard : Claim7 := { stood := { row := codeSaysUptoRow, standIns := [], harness := (true, "e591bfa9f77f412ef5ebcfd78c72d30a508d33bd87e74003d8d5966de8d034da"), looks := false }, kinds := [], alts := [], laidByText := true, laidKinds := [.data], laidTests := true, laidLooks := .later }
def CodeSaysUptoCardSaid : Prop := Claim7.holds Tryd.pinned (.plain (OpenSpec.upto codeSaysSpec)) codeSaysUptoCard

/-- THE SECOND FORM's CARD OF 'bottlepostlaw.CodeAdds'. -/
def codeAddsUptoCard : Claim7 := { stood := { row := codeAddsUptoRow, standIns := [], harness := (true, "e591bfa9f77f412ef5ebcfd78c72d30a508d33bd87e74003d8d5966de8d034da"), looks := false }, kinds := [], alts := [], laidByText := true, laidKinds := [.data], laidTests := true, laidLooks := .later }
def CodeAddsUptoCardSaid : Prop := Claim7.holds Tryd.pinned (.plain (OpenSpec.upto codeAddsSpec)) codeAddsUptoCard
end Rows
end Go.Proofs.YtdhholcbmeoagabDoor
