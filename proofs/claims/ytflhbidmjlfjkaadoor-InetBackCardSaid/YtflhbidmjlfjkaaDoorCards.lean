/-
  DERIVED. GIVEN WITH THE SEED: THE CARDS: each row of YtflhbidmjlfjkaaDoorRows.lean that lists a variable, with what it lists TIED to the program's text (the seventh form; the later family's looks); each row that meets fmt, with fmt's text TOLD by the authors' own Lean function (tested against real Go, not proved from fmt's source: count such statements apart). THE CARD IS WHAT COUNTS. Prove the row's statement (the work); the ties are given (YtflhbidmjlfjkaaDoorTie.lean); close each card by the builder's one call (the guide's Derived/Test/ToyasCard.lean, 'card_holds'). Laid BY PROGRAM, IN A SANDBOX (cutbox-door.mjs). By AI agents, Wed Nov 11 2026. No macro, syntax, notation, axiom, sorry.
-/
import Derived.Test.YtflhbidmjlfjkaaDoorRows
import GoSem.ClaimSeven
namespace Go.Proofs.YtflhbidmjlfjkaaDoor
namespace Rows

/-- THE TIED CARD OF 'tolllaw06.InetPuts'. -/
def inetPutsCard : Claim7 := { stood := { row := inetPutsRow, standIns := [], harness := (true, "df178bf1f2ed72b14721fdc347973aeb5c44f495da26fcee297ecbf60d7f90ef"), looks := true }, kinds := [], alts := [], laidByText := true, laidKinds := [.data, .data, .data, .data, .sentinel, .sentinel, .pinned], laidTests := true, laidLooks := .later }
def InetPutsCardSaid : Prop := Claim7.holds Tryd.pinned (.plain (OpenSpec.ofChange inetPutsSpec)) inetPutsCard

/-- THE TIED CARD OF 'tolllaw06.InetGets'. -/
def inetGetsCard : Claim7 := { stood := { row := inetGetsRow, standIns := [], harness := (true, "df178bf1f2ed72b14721fdc347973aeb5c44f495da26fcee297ecbf60d7f90ef"), looks := true }, kinds := [], alts := [], laidByText := true, laidKinds := [.data, .data, .data, .data, .sentinel, .sentinel, .pinned], laidTests := true, laidLooks := .later }
def InetGetsCardSaid : Prop := Claim7.holds Tryd.pinned (.plain (OpenSpec.ofChange inetGetsSpec)) inetGetsCard

/-- THE TIED CARD OF 'tolllaw06.InetTexts'. -/
def inetTextsCard : Claim7 := { stood := { row := inetTextsRow, standIns := [], harness := (true, "df178bf1f2ed72b14721fdc347973aeb5c44f495da26fcee297ecbf60d7f90ef"), looks := true }, kinds := [], alts := [], laidByText := true, laidKinds := [.data, .data, .data, .data, .sentinel, .sentinel, .pinned], laidTests := true, laidLooks := .later }
def InetTextsCardSaid : Prop := Claim7.holds Tryd.pinned (.plain (OpenSpec.ofChange inetTextsSpec)) inetTextsCard

/-- THE TIED CARD OF 'tolllaw06.InetBack'. -/
def inetBackCard : Claim7 := { stood := { row := inetBackRow, standIns := [], harness := (true, "df178bf1f2ed72b14721fdc347973aeb5c44f495da26fcee297ecbf60d7f90ef"), looks := true }, kinds := [], alts := [], laidByText := true, laidKinds := [.data, .data, .data, .data, .sentinel, .sentinel, .pinned], laidTests := true, laidLooks := .later }
def InetBackCardSaid : Prop := Claim7.holds Tryd.pinned (.plain (OpenSpec.ofChange inetBackSpec)) inetBackCard

/-- THE TIED CARD OF 'tolllaw06.InetAgain'. -/
def inetAgainCard : Claim7 := { stood := { row := inetAgainRow, standIns := [], harness := (true, "df178bf1f2ed72b14721fdc347973aeb5c44f495da26fcee297ecbf60d7f90ef"), looks := true }, kinds := [], alts := [], laidByText := true, laidKinds := [.data, .data, .data, .data, .sentinel, .sentinel, .pinned], laidTests := true, laidLooks := .later }
def InetAgainCardSaid : Prop := Claim7.holds Tryd.pinned (.plain (OpenSpec.ofChange inetAgainSpec)) inetAgainCard

/-- THE TIED CARD OF 'tolllaw06.InetPrefixes'. -/
def inetPrefixesCard : Claim7 := { stood := { row := inetPrefixesRow, standIns := [], harness := (true, "df178bf1f2ed72b14721fdc347973aeb5c44f495da26fcee297ecbf60d7f90ef"), looks := true }, kinds := [], alts := [], laidByText := true, laidKinds := [.data, .data, .data, .data, .sentinel, .sentinel, .pinned], laidTests := true, laidLooks := .later }
def InetPrefixesCardSaid : Prop := Claim7.holds Tryd.pinned (.plain (OpenSpec.ofChange inetPrefixesSpec)) inetPrefixesCard

/-- THE SECOND FORM's CARD OF 'tolllaw06.InetPuts'. -/
def inetPutsUptoCard : Claim7 := { stood := { row := inetPutsUptoRow, standIns := [], harness := (true, "df178bf1f2ed72b14721fdc347973aeb5c44f495da26fcee297ecbf60d7f90ef"), looks := true }, kinds := [], alts := [], laidByText := true, laidKinds := [.data, .data, .data, .data, .sentinel, .sentinel, .pinned], laidTests := true, laidLooks := .later }
def InetPutsUptoCardSaid : Prop := Claim7.holds Tryd.pinned (.plain (OpenSpec.upto inetPutsSpec)) inetPutsUptoCard

/-- THE SECOND FORM's CARD OF 'tolllaw06.InetGets'. -/
def inetGetsUptoCard : Claim7 := { stood := { row := inetGetsUptoRow, standIns := [], harness := (true, "df178bf1f2ed72b14721fdc347973aeb5c44f495da26fcee297ecbf60d7f90ef"), looks := true }, kinds := [], alts := [], laidByText := true, laidKinds := [.data, .data, .data, .data, .sentinel, .sentinel, .pinned], laidTests := true, laidLooks := .later }
def InetGetsUptoCardSaid : Prop := Claim7.holds Tryd.pinned (.plain (OpenSpec.upto inetGetsSpec)) inetGetsUptoCard

/-- THE SECOND FORM's CARD OF 'tolllaw06.InetTexts'. -/
def inetTextsUptoCard : Claim7 := { stood := { row := inetTextsUptoRow, standIns := [], harness := (true, "df178bf1f2ed72b14721fdc347973aeb5c44f495da26fcee297ecbf60d7f90ef"), looks := true }, kinds := [], alts := [], laidByText := true, laidKinds := [.data, .data, .data, .data, .sentinel, .sentinel, .pinned], laidTests := true, laidLooks := .later }
def InetTextsUptoCardSaid : Prop := Claim7.holds Tryd.pinned (.plain (OpenSpec.upto inetTextsSpec)) inetTextsUptoCard

/-- THE SECOND FORM's CARD OF 'tolllaw06.InetBack'. -/
def inetBackUptoCard : Claim7 := { stood := { row := inetBackUptoRow, standIns := [], harness := (true, "df178bf1f2ed72b14721fdc347973aeb5c44f495da26fcee297ecbf60d7f90ef"), looks := true }, kinds := [], alts := [], laidByText := true, laidKinds := [.data, .data, .data, .data, .sentinel, .sentinel, .pinned], laidTests := true, laidLooks := .later }
def InetBackUptoCardSaid : Prop := Claim7.holds Tryd.pinned (.plain (OpenSpec.upto inetBackSpec)) inetBackUptoCard

/-- THE SECOND FORM's CARD OF 'tolllaw06.InetAgain'. -/
def inetAgainUptoCard : Claim7 := { stood := { row := inetAgainUptoRow, standIns := [], harness := (true, "df178bf1f2ed72b14721fdc347973aeb5c44f495da26fcee297ecbf60d7f90ef"), looks := true }, kinds := [], alts := [], laidByText := true, laidKinds := [.data, .data, .data, .data, .sentinel, .sentinel, .pinned], laidTests := true, laidLooks := .later }
def InetAgainUptoCardSaid : Prop := Claim7.holds Tryd.pinned (.plain (OpenSpec.upto inetAgainSpec)) inetAgainUptoCard

/-- THE SECOND FORM's CARD OF 'tolllaw06.InetPrefixes'. -/
def inetPrefixesUptoCard : Claim7 := { stood := { row := inetPrefixesUptoRow, standIns := [], harness := (true, "df178bf1f2ed72b14721fdc347973aeb5c44f495da26fcee297ecbf60d7f90ef"), looks := true }, kinds := [], alts := [], laidByText := true, laidKinds := [.data, .data, .data, .data, .sentinel, .sentinel, .pinned], laidTests := true, laidLooks := .later }
def InetPrefixesUptoCardSaid : Prop := Claim7.holds Tryd.pinned (.plain (OpenSpec.upto inetPrefixesSpec)) inetPrefixesUptoCard
end Rows
end Go.Proofs.YtflhbidmjlfjkaaDoor
