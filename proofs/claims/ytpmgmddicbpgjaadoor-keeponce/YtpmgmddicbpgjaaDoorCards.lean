/-
  DERIVED. GIVEN WITH THE SEED: THE CARDS: each row of YtpmgmddicbpgjaaDoorRows.lean that lists a variable, with what it lists TIED to the program's text (the seventh form; the later family's looks); each row that meets fmt, with fmt's text TOLD by the authors' own Lean function (tested against real Go, not proved from fmt's source: count such statements apart). THE CARD IS WHAT COUNTS. Prove the row's statement (the work); the ties are given (YtpmgmddicbpgjaaDoorTie.lean); close each card by the builder's one call (the guide's Derived/Test/ToyasCard.lean, 'card_holds'). Laid BY PROGRAM, IN A SANDBOX (cutbox-door.mjs). By AI agents, Wed Nov 11 2026. No macro, syntax, notation, axiom, sorry.
-/
import Derived.Test.YtpmgmddicbpgjaaDoorRows
import GoSem.ClaimSeven
namespace Go.Proofs.YtpmgmddicbpgjaaDoor
namespace Rows

/-- THE TIED CARD OF 'bottlepostlaw.KeepOnce'. -/
def keepOnceCard : Claim7 := { stood := { row := keepOnceRow, standIns := [], harness := (true, "42c28b8bd54d853acc337b3159a25b21403a8664c48a729a8eb763f25d6a037b"), looks := false }, kinds := [], alts := [], laidByText := true, laidKinds := [.data], laidTests := true, laidLooks := .later }
def KeepOnceCardSaid : Prop := Claim7.holds Tryd.pinned (.plain (OpenSpec.ofChange keepOnceSpec)) keepOnceCard

/-- THE TIED CARD OF 'bottlepostlaw.KeepShares'. -/
def keepSharesCard : Claim7 := { stood := { row := keepSharesRow, standIns := [], harness := (true, "42c28b8bd54d853acc337b3159a25b21403a8664c48a729a8eb763f25d6a037b"), looks := false }, kinds := [], alts := [], laidByText := true, laidKinds := [.data], laidTests := true, laidLooks := .later }
def KeepSharesCardSaid : Prop := Claim7.holds Tryd.pinned (.plain (OpenSpec.ofChange keepSharesSpec)) keepSharesCard

/-- THE SECOND FORM's CARD OF 'bottlepostlaw.KeepOnce'. -/
def keepOnceUptoCard : Claim7 := { stood := { row := keepOnceUptoRow, standIns := [], harness := (true, "42c28b8bd54d853acc337b3159a25b21403a8664c48a729a8eb763f25d6a037b"), looks := false }, kinds := [], alts := [], laidByText := true, laidKinds := [.data], laidTests := true, laidLooks := .later }
def KeepOnceUptoCardSaid : Prop := Claim7.holds Tryd.pinned (.plain (OpenSpec.upto keepOnceSpec)) keepOnceUptoCard

/-- THE SECOND FORM's CARD OF 'bottlepostlaw.KeepShares'. -/
def keepSharesUptoCard : Claim7 := { stood := { row := keepSharesUptoRow, standIns := [], harness := (true, "42c28b8bd54d853acc337b3159a25b21403a8664c48a729a8eb763f25d6a037b"), looks := false }, kinds := [], alts := [], laidByText := true, laidKinds := [.data], laidTests := true, laidLooks := .later }
def KeepSharesUptoCardSaid : Prop := Claim7.holds Tryd.pinned (.plain (OpenSpec.upto keepSharesSpec)) keepSharesUptoCard
end Rows
end Go.Proofs.YtpmgmddicbpgjaaDoor
