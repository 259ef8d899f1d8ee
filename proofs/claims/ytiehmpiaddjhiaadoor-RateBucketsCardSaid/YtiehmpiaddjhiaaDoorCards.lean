/-
  DERIVED. GIVEN WITH THE SEED: THE CARDS: each row of YtiehmpiaddjhiaaDoorRows.lean that lists a variable, with what it lists TIED to the program's text (the seventh form; the later family's looks); each row that meets fmt, with fmt's text TOLD by the authors' own Lean function (tested against real Go, not proved from fmt's source: count such statements apart). THE CARD IS WHAT COUNTS. Prove the row's statement (the work); the ties are given (YtiehmpiaddjhiaaDoorTie.lean); close each card by the builder's one call (the guide's Derived/Test/ToyasCard.lean, 'card_holds'). Laid BY PROGRAM, IN A SANDBOX (cutbox-door.mjs). By AI agents, Wed Nov 11 2026. No macro, syntax, notation, axiom, sorry.
-/
import Derived.Test.YtiehmpiaddjhiaaDoorRows
import GoSem.ClaimSeven
namespace Go.Proofs.YtiehmpiaddjhiaaDoor
namespace Rows

/-- THE TIED CARD OF 'tolllaw11.RateBuckets'. -/
def rateBucketsCard : Claim7 := { stood := { row := rateBucketsRow, standIns := [], harness := (true, "c9db0018bdd9238fdcd4687e07be53f0c1630d0dc4ce73cfc9025e8dbb46d132"), looks := false }, kinds := [], alts := [], laidByText := true, laidKinds := [.data, .data, .data, .data, .called, .pinned, .pinned], laidTests := true, laidLooks := .later }
def RateBucketsCardSaid : Prop := Claim7.holds Tryd.pinned (.plain (OpenSpec.ofChange rateBucketsSpec)) rateBucketsCard

/-- THE TIED CARD OF 'tolllaw11.RateBounds'. -/
def rateBoundsCard : Claim7 := { stood := { row := rateBoundsRow, standIns := [], harness := (true, "c9db0018bdd9238fdcd4687e07be53f0c1630d0dc4ce73cfc9025e8dbb46d132"), looks := false }, kinds := [], alts := [], laidByText := true, laidKinds := [.data, .data, .data, .data, .called, .pinned, .pinned], laidTests := true, laidLooks := .later }
def RateBoundsCardSaid : Prop := Claim7.holds Tryd.pinned (.plain (OpenSpec.ofChange rateBoundsSpec)) rateBoundsCard

/-- THE TIED CARD OF 'tolllaw11.RateWaits'. -/
def rateWaitsCard : Claim7 := { stood := { row := rateWaitsRow, standIns := [], harness := (true, "c9db0018bdd9238fdcd4687e07be53f0c1630d0dc4ce73cfc9025e8dbb46d132"), looks := false }, kinds := [], alts := [], laidByText := true, laidKinds := [.data, .data, .data, .data, .called, .pinned, .pinned], laidTests := true, laidLooks := .later }
def RateWaitsCardSaid : Prop := Claim7.holds Tryd.pinned (.plain (OpenSpec.ofChange rateWaitsSpec)) rateWaitsCard

/-- THE SECOND FORM's CARD OF 'tolllaw11.RateBuckets'. -/
def rateBucketsUptoCard : Claim7 := { stood := { row := rateBucketsUptoRow, standIns := [], harness := (true, "c9db0018bdd9238fdcd4687e07be53f0c1630d0dc4ce73cfc9025e8dbb46d132"), looks := false }, kinds := [], alts := [], laidByText := true, laidKinds := [.data, .data, .data, .data, .called, .pinned, .pinned], laidTests := true, laidLooks := .later }
def RateBucketsUptoCardSaid : Prop := Claim7.holds Tryd.pinned (.plain (OpenSpec.upto rateBucketsSpec)) rateBucketsUptoCard

/-- THE SECOND FORM's CARD OF 'tolllaw11.RateBounds'. -/
def rateBoundsUptoCard : Claim7 := { stood := { row := rateBoundsUptoRow, standIns := [], harness := (true, "c9db0018bdd9238fdcd4687e07be53f0c1630d0dc4ce73cfc9025e8dbb46d132"), looks := false }, kinds := [], alts := [], laidByText := true, laidKinds := [.data, .data, .data, .data, .called, .pinned, .pinned], laidTests := true, laidLooks := .later }
def RateBoundsUptoCardSaid : Prop := Claim7.holds Tryd.pinned (.plain (OpenSpec.upto rateBoundsSpec)) rateBoundsUptoCard

/-- THE SECOND FORM's CARD OF 'tolllaw11.RateWaits'. -/
def rateWaitsUptoCard : Claim7 := { stood := { row := rateWaitsUptoRow, standIns := [], harness := (true, "c9db0018bdd9238fdcd4687e07be53f0c1630d0dc4ce73cfc9025e8dbb46d132"), looks := false }, kinds := [], alts := [], laidByText := true, laidKinds := [.data, .data, .data, .data, .called, .pinned, .pinned], laidTests := true, laidLooks := .later }
def RateWaitsUptoCardSaid : Prop := Claim7.holds Tryd.pinned (.plain (OpenSpec.upto rateWaitsSpec)) rateWaitsUptoCard
end Rows
end Go.Proofs.YtiehmpiaddjhiaaDoor
