/-
  DERIVED. GIVEN WITH THE SEED: THE CARDS: each row of YthjbabkmjmfmjaaDoorRows.lean that lists a variable, with what it lists TIED to the program's text (the seventh form; the later family's looks); each row that meets fmt, with fmt's text TOLD by the authors' own Lean function (tested against real Go, not proved from fmt's source: count such statements apart). THE CARD IS WHAT COUNTS. Prove the row's statement (the work); the ties are given (YthjbabkmjmfmjaaDoorTie.lean); close each card by the builder's one call (the guide's Derived/Test/ToyasCard.lean, 'card_holds'). Laid BY PROGRAM, IN A SANDBOX (cutbox-door.mjs). By AI agents, Wed Nov 11 2026. No macro, syntax, notation, axiom, sorry.
-/
import Derived.Test.YthjbabkmjmfmjaaDoorRows
import GoSem.ClaimSeven
namespace Go.Proofs.YthjbabkmjmfmjaaDoor
namespace Rows

/-- THE TIED CARD OF 'tolllaw07.TransGets'. -/
def transGetsCard : Claim7 := { stood := { row := transGetsRow, standIns := [], harness := (true, "7da74d40ebc577728eacb6f0c312796f45f1f05e8d8a2d5c8de6747a396ae9d0"), looks := false }, kinds := [], alts := [], laidByText := true, laidKinds := [.data], laidTests := true, laidLooks := .later }
def TransGetsCardSaid : Prop := Claim7.holds Tryd.pinned (.plain (OpenSpec.ofChange transGetsSpec)) transGetsCard

/-- THE TIED CARD OF 'tolllaw07.TransTells'. -/
def transTellsCard : Claim7 := { stood := { row := transTellsRow, standIns := [], harness := (true, "7da74d40ebc577728eacb6f0c312796f45f1f05e8d8a2d5c8de6747a396ae9d0"), looks := false }, kinds := [], alts := [], laidByText := true, laidKinds := [.data], laidTests := true, laidLooks := .later }
def TransTellsCardSaid : Prop := Claim7.holds Tryd.pinned (.plain (OpenSpec.ofChange transTellsSpec)) transTellsCard

/-- THE TIED CARD OF 'tolllaw07.TransBack'. -/
def transBackCard : Claim7 := { stood := { row := transBackRow, standIns := [], harness := (true, "7da74d40ebc577728eacb6f0c312796f45f1f05e8d8a2d5c8de6747a396ae9d0"), looks := false }, kinds := [], alts := [], laidByText := true, laidKinds := [.data], laidTests := true, laidLooks := .later }
def TransBackCardSaid : Prop := Claim7.holds Tryd.pinned (.plain (OpenSpec.ofChange transBackSpec)) transBackCard

/-- THE TIED CARD OF 'tolllaw07.TransSeals'. -/
def transSealsCard : Claim7 := { stood := { row := transSealsRow, standIns := [], harness := (true, "7da74d40ebc577728eacb6f0c312796f45f1f05e8d8a2d5c8de6747a396ae9d0"), looks := false }, kinds := [], alts := [], laidByText := true, laidKinds := [.data], laidTests := true, laidLooks := .later }
def TransSealsCardSaid : Prop := Claim7.holds Tryd.pinned (.plain (OpenSpec.ofChange transSealsSpec)) transSealsCard

/-- THE TIED CARD OF 'tolllaw07.TransFlags'. -/
def transFlagsCard : Claim7 := { stood := { row := transFlagsRow, standIns := [], harness := (true, "7da74d40ebc577728eacb6f0c312796f45f1f05e8d8a2d5c8de6747a396ae9d0"), looks := false }, kinds := [], alts := [], laidByText := true, laidKinds := [.data, .data, .pinned], laidTests := true, laidLooks := .later }
def TransFlagsCardSaid : Prop := Claim7.holds Tryd.pinned (.plain (OpenSpec.ofChange transFlagsSpec)) transFlagsCard

/-- THE TIED CARD OF 'tolllaw07.TransKnown'. -/
def transKnownCard : Claim7 := { stood := { row := transKnownRow, standIns := [], harness := (true, "7da74d40ebc577728eacb6f0c312796f45f1f05e8d8a2d5c8de6747a396ae9d0"), looks := false }, kinds := [], alts := [], laidByText := true, laidKinds := [.data], laidTests := true, laidLooks := .later }
def TransKnownCardSaid : Prop := Claim7.holds Tryd.pinned (.plain (OpenSpec.ofChange transKnownSpec)) transKnownCard

/-- THE SECOND FORM's CARD OF 'tolllaw07.TransGets'. -/
def transGetsUptoCard : Claim7 := { stood := { row := transGetsUptoRow, standIns := [], harness := (true, "7da74d40ebc577728eacb6f0c312796f45f1f05e8d8a2d5c8de6747a396ae9d0"), looks := false }, kinds := [], alts := [], laidByText := true, laidKinds := [.data], laidTests := true, laidLooks := .later }
def TransGetsUptoCardSaid : Prop := Claim7.holds Tryd.pinned (.plain (OpenSpec.upto transGetsSpec)) transGetsUptoCard

/-- THE SECOND FORM's CARD OF 'tolllaw07.TransTells'. -/
def transTellsUptoCard : Claim7 := { stood := { row := transTellsUptoRow, standIns := [], harness := (true, "7da74d40ebc577728eacb6f0c312796f45f1f05e8d8a2d5c8de6747a396ae9d0"), looks := false }, kinds := [], alts := [], laidByText := true, laidKinds := [.data], laidTests := true, laidLooks := .later }
def TransTellsUptoCardSaid : Prop := Claim7.holds Tryd.pinned (.plain (OpenSpec.upto transTellsSpec)) transTellsUptoCard

/-- THE SECOND FORM's CARD OF 'tolllaw07.TransBack'. -/
def transBackUptoCard : Claim7 := { stood := { row := transBackUptoRow, standIns := [], harness := (true, "7da74d40ebc577728eacb6f0c312796f45f1f05e8d8a2d5c8de6747a396ae9d0"), looks := false }, kinds := [], alts := [], laidByText := true, laidKinds := [.data], laidTests := true, laidLooks := .later }
def TransBackUptoCardSaid : Prop := Claim7.holds Tryd.pinned (.plain (OpenSpec.upto transBackSpec)) transBackUptoCard

/-- THE SECOND FORM's CARD OF 'tolllaw07.TransSeals'. -/
def transSealsUptoCard : Claim7 := { stood := { row := transSealsUptoRow, standIns := [], harness := (true, "7da74d40ebc577728eacb6f0c312796f45f1f05e8d8a2d5c8de6747a396ae9d0"), looks := false }, kinds := [], alts := [], laidByText := true, laidKinds := [.data], laidTests := true, laidLooks := .later }
def TransSealsUptoCardSaid : Prop := Claim7.holds Tryd.pinned (.plain (OpenSpec.upto transSealsSpec)) transSealsUptoCard

/-- THE SECOND FORM's CARD OF 'tolllaw07.TransFlags'. -/
def transFlagsUptoCard : Claim7 := { stood := { row := transFlagsUptoRow, standIns := [], harness := (true, "7da74d40ebc577728eacb6f0c312796f45f1f05e8d8a2d5c8de6747a396ae9d0"), looks := false }, kinds := [], alts := [], laidByText := true, laidKinds := [.data, .data, .pinned], laidTests := true, laidLooks := .later }
def TransFlagsUptoCardSaid : Prop := Claim7.holds Tryd.pinned (.plain (OpenSpec.upto transFlagsSpec)) transFlagsUptoCard

/-- THE SECOND FORM's CARD OF 'tolllaw07.TransKnown'. -/
def transKnownUptoCard : Claim7 := { stood := { row := transKnownUptoRow, standIns := [], harness := (true, "7da74d40ebc577728eacb6f0c312796f45f1f05e8d8a2d5c8de6747a396ae9d0"), looks := false }, kinds := [], alts := [], laidByText := true, laidKinds := [.data], laidTests := true, laidLooks := .later }
def TransKnownUptoCardSaid : Prop := Claim7.holds Tryd.pinned (.plain (OpenSpec.upto transKnownSpec)) transKnownUptoCard
end Rows
end Go.Proofs.YthjbabkmjmfmjaaDoor
