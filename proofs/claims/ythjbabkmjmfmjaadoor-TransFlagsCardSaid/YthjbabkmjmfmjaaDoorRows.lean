/-
  NARROWER THAN 'FOR EVERY INPUT', by the rows' own cells (each row's printed sentence says how): TransGets: laid · TransTells: laid · TransBack: laid · TransSeals: laid · TransFlags: laid · TransKnown: laid.
  DERIVED. THE GIVEN ROWS OF THIS SEAT. 6 by the template 'for every input the law returns true; each argument reads behind the call as it read before'; 0 by the template 'total and deterministic' (their statements: YthjbabkmjmfmjaaDoorTotals.lean).
  GIVEN WITH THE SEED: the statements are not yours to turn. If you find one false, say at which input.
  Laid BY PROGRAM, IN A SANDBOX (cutbox-rows.mjs): the forced cells as the released guide's own fill.sh prints them over the translation 8205821bc847cb69… (all of the seat's roots in one cut). By AI agents, Wed Nov 11 2026. No macro, syntax, notation, axiom, sorry.
-/
import Derived.Test.YthjbabkmjmfmjaaDoorChecked
import GoSem.PinnedTables
import GoSem.Claim
import GoSem.ClaimJoined
import GoSem.ClaimMapViews
import Derived.JoinedTies
import Derived.KernelRfl
namespace Go.Proofs.YthjbabkmjmfmjaaDoor
/- THE CELL 'sum', in the pinned program and in every row, IS THE sha256 OF THE DUMP (.gsa) THAT YthjbabkmjmfmjaaDoorProg.lean LOADS. Nothing in Lean hashes anything: it is a label: what it is worth is what the hold of that sum in a sandbox is worth. -/
noncomputable def Tryd.pinned : Pinned := { name := "ythjbabkmjmfmjaadoor", sum := "8205821bc847cb69227dfa25747df4db022443ebcd596887a7643e17ffb0b329", checked := Tryd.checked }
namespace Rows
def none {H : Type} : Left H := { results := [], args := [] }

/- WHAT THE LISTED PACKAGE-LEVEL VARIABLES READ AS WHEN THE CALL BEGINS. Each datum BY PROGRAM (the guide's laid-datum.mjs) off the statement by which the dump's own 'gosem.cut.vars' lays the variable. In a bare row this is a premise. The card (YthjbabkmjmfmjaaDoorCards.lean) ties it to the program's text. -/
def laid_toll_trans_names {H : Type} : DataW H := .agg [.lit (.string [102, 105, 110]), .lit (.string [115, 121, 110]), .lit (.string [114, 115, 116]), .lit (.string [112, 115, 104]), .lit (.string [97, 99, 107]), .lit (.string [117, 114, 103]), .lit (.string [101, 99, 101]), .lit (.string [99, 119, 114])]
def laid_unicode_utf8_acceptRanges {H : Type} : DataW H := .agg [.agg [.lit (.int .u8 128), .lit (.int .u8 191)], .agg [.lit (.int .u8 160), .lit (.int .u8 191)], .agg [.lit (.int .u8 128), .lit (.int .u8 159)], .agg [.lit (.int .u8 144), .lit (.int .u8 191)], .agg [.lit (.int .u8 128), .lit (.int .u8 143)], .agg [.lit (.int .u8 0), .lit (.int .u8 0)], .agg [.lit (.int .u8 0), .lit (.int .u8 0)], .agg [.lit (.int .u8 0), .lit (.int .u8 0)], .agg [.lit (.int .u8 0), .lit (.int .u8 0)], .agg [.lit (.int .u8 0), .lit (.int .u8 0)], .agg [.lit (.int .u8 0), .lit (.int .u8 0)], .agg [.lit (.int .u8 0), .lit (.int .u8 0)], .agg [.lit (.int .u8 0), .lit (.int .u8 0)], .agg [.lit (.int .u8 0), .lit (.int .u8 0)], .agg [.lit (.int .u8 0), .lit (.int .u8 0)], .agg [.lit (.int .u8 0), .lit (.int .u8 0)]]
/-- One of Go's own tables, pinned by name: the form's constant. -/
def laid_unicode_utf8_first : DataW Unit := Go.Pinned.utf8First

/-- 'tolllaw07.TransGets': WHATEVER THE INPUT: true; the input reads as it did. -/
def transGetsSpec : ChangeSpec := { name := "transGets", fn := fun _ => fun
  | [d1, d2, d3] => { results := [.lit (.bool true)], args := [d1, d2, d3] }
  | _ => none }
def transGetsRow : OpenClaim := { program := "ythjbabkmjmfmjaadoor", sum := "8205821bc847cb69227dfa25747df4db022443ebcd596887a7643e17ffb0b329", func := "toll/tolllaw07.TransGets", spec := "transGets", inPlace := ["internal/bytealg.IndexByteString", "internal/bytealg.IndexString", "internal/abi.NoEscape", "internal/bytealg.MakeNoZero"], named := ["internal/bytealg.MaxLen", "toll/trans.names"], apart := false, laid := [("toll/trans.names", laid_toll_trans_names)] }
def TransGetsSaid : Prop := transGetsRow.holds Tryd.pinned (OpenSpec.ofChange transGetsSpec)

/-- ITS FALSE NEIGHBOUR: 'it returns false'. Refute it at one input. -/
def transGetsWrong : ChangeSpec := { name := "transGets", fn := fun _ => fun
  | [d1, d2, d3] => { results := [.lit (.bool false)], args := [d1, d2, d3] }
  | _ => none }
def TransGetsWrongFalsely : Prop := transGetsRow.holds Tryd.pinned (OpenSpec.ofChange transGetsWrong)

/-- 'tolllaw07.TransTells': WHATEVER THE INPUT: true; the input reads as it did. -/
def transTellsSpec : ChangeSpec := { name := "transTells", fn := fun _ => fun
  | [d1, d2, d3] => { results := [.lit (.bool true)], args := [d1, d2, d3] }
  | _ => none }
def transTellsRow : OpenClaim := { program := "ythjbabkmjmfmjaadoor", sum := "8205821bc847cb69227dfa25747df4db022443ebcd596887a7643e17ffb0b329", func := "toll/tolllaw07.TransTells", spec := "transTells", inPlace := ["internal/bytealg.IndexByteString", "internal/bytealg.IndexString", "internal/abi.NoEscape", "internal/bytealg.MakeNoZero"], named := ["internal/bytealg.MaxLen", "toll/trans.names"], apart := false, laid := [("toll/trans.names", laid_toll_trans_names)] }
def TransTellsSaid : Prop := transTellsRow.holds Tryd.pinned (OpenSpec.ofChange transTellsSpec)

/-- ITS FALSE NEIGHBOUR: 'it returns false'. Refute it at one input. -/
def transTellsWrong : ChangeSpec := { name := "transTells", fn := fun _ => fun
  | [d1, d2, d3] => { results := [.lit (.bool false)], args := [d1, d2, d3] }
  | _ => none }
def TransTellsWrongFalsely : Prop := transTellsRow.holds Tryd.pinned (OpenSpec.ofChange transTellsWrong)

/-- 'tolllaw07.TransBack': WHATEVER THE INPUT: true; the input reads as it did. -/
def transBackSpec : ChangeSpec := { name := "transBack", fn := fun _ => fun
  | [d1, d2, d3] => { results := [.lit (.bool true)], args := [d1, d2, d3] }
  | _ => none }
def transBackRow : OpenClaim := { program := "ythjbabkmjmfmjaadoor", sum := "8205821bc847cb69227dfa25747df4db022443ebcd596887a7643e17ffb0b329", func := "toll/tolllaw07.TransBack", spec := "transBack", inPlace := ["internal/bytealg.IndexByteString", "internal/bytealg.IndexString", "internal/abi.NoEscape", "internal/bytealg.MakeNoZero"], named := ["internal/bytealg.MaxLen", "toll/trans.names"], apart := false, laid := [("toll/trans.names", laid_toll_trans_names)] }
def TransBackSaid : Prop := transBackRow.holds Tryd.pinned (OpenSpec.ofChange transBackSpec)

/-- ITS FALSE NEIGHBOUR: 'it returns false'. Refute it at one input. -/
def transBackWrong : ChangeSpec := { name := "transBack", fn := fun _ => fun
  | [d1, d2, d3] => { results := [.lit (.bool false)], args := [d1, d2, d3] }
  | _ => none }
def TransBackWrongFalsely : Prop := transBackRow.holds Tryd.pinned (OpenSpec.ofChange transBackWrong)

/-- 'tolllaw07.TransSeals': WHATEVER THE INPUT: true; the input reads as it did. -/
def transSealsSpec : ChangeSpec := { name := "transSeals", fn := fun _ => fun
  | [d1, d2, d3] => { results := [.lit (.bool true)], args := [d1, d2, d3] }
  | _ => none }
def transSealsRow : OpenClaim := { program := "ythjbabkmjmfmjaadoor", sum := "8205821bc847cb69227dfa25747df4db022443ebcd596887a7643e17ffb0b329", func := "toll/tolllaw07.TransSeals", spec := "transSeals", inPlace := ["internal/bytealg.IndexByteString", "internal/bytealg.IndexString", "internal/abi.NoEscape", "internal/bytealg.MakeNoZero"], named := ["internal/bytealg.MaxLen", "toll/trans.names"], apart := false, laid := [("toll/trans.names", laid_toll_trans_names)] }
def TransSealsSaid : Prop := transSealsRow.holds Tryd.pinned (OpenSpec.ofChange transSealsSpec)

/-- ITS FALSE NEIGHBOUR: 'it returns false'. Refute it at one input. -/
def transSealsWrong : ChangeSpec := { name := "transSeals", fn := fun _ => fun
  | [d1, d2, d3] => { results := [.lit (.bool false)], args := [d1, d2, d3] }
  | _ => none }
def TransSealsWrongFalsely : Prop := transSealsRow.holds Tryd.pinned (OpenSpec.ofChange transSealsWrong)

/-- 'tolllaw07.TransFlags': WHATEVER THE INPUT: true; the input reads as it did. -/
def transFlagsSpec : ChangeSpec := { name := "transFlags", fn := fun _ => fun
  | [d1, d2] => { results := [.lit (.bool true)], args := [d1, d2] }
  | _ => none }
def transFlagsRow : OpenClaim := { program := "ythjbabkmjmfmjaadoor", sum := "8205821bc847cb69227dfa25747df4db022443ebcd596887a7643e17ffb0b329", func := "toll/tolllaw07.TransFlags", spec := "transFlags", inPlace := ["internal/abi.NoEscape", "internal/bytealg.MakeNoZero", "internal/bytealg.IndexByteString", "internal/bytealg.IndexString", "internal/bytealg.CountString"], named := ["toll/trans.names", "internal/bytealg.MaxLen", "unicode/utf8.first", "unicode/utf8.acceptRanges"], apart := false, laid := [("unicode/utf8.acceptRanges", laid_unicode_utf8_acceptRanges), ("toll/trans.names", laid_toll_trans_names), ("unicode/utf8.first", laid_unicode_utf8_first)] }
def TransFlagsSaid : Prop := transFlagsRow.holds Tryd.pinned (OpenSpec.ofChange transFlagsSpec)

/-- ITS FALSE NEIGHBOUR: 'it returns false'. Refute it at one input. -/
def transFlagsWrong : ChangeSpec := { name := "transFlags", fn := fun _ => fun
  | [d1, d2] => { results := [.lit (.bool false)], args := [d1, d2] }
  | _ => none }
def TransFlagsWrongFalsely : Prop := transFlagsRow.holds Tryd.pinned (OpenSpec.ofChange transFlagsWrong)

/-- 'tolllaw07.TransKnown': WHATEVER THE INPUT: true; the input reads as it did. -/
def transKnownSpec : ChangeSpec := { name := "transKnown", fn := fun _ => fun
  | [] => { results := [.lit (.bool true)], args := [] }
  | _ => none }
def transKnownRow : OpenClaim := { program := "ythjbabkmjmfmjaadoor", sum := "8205821bc847cb69227dfa25747df4db022443ebcd596887a7643e17ffb0b329", func := "toll/tolllaw07.TransKnown", spec := "transKnown", inPlace := ["internal/bytealg.IndexByteString", "internal/bytealg.IndexString", "internal/abi.NoEscape", "internal/bytealg.MakeNoZero"], named := ["internal/bytealg.MaxLen", "toll/trans.names"], apart := false, laid := [("toll/trans.names", laid_toll_trans_names)] }
def TransKnownSaid : Prop := transKnownRow.holds Tryd.pinned (OpenSpec.ofChange transKnownSpec)

/-- ITS FALSE NEIGHBOUR: 'it returns false'. Refute it at one input. -/
def transKnownWrong : ChangeSpec := { name := "transKnown", fn := fun _ => fun
  | [] => { results := [.lit (.bool false)], args := [] }
  | _ => none }
def TransKnownWrongFalsely : Prop := transKnownRow.holds Tryd.pinned (OpenSpec.ofChange transKnownWrong)

/- THE SECOND FORM. 'bulk': how many values and letters a reading holds, each counted each time it is reached (what is shared counts as often as it is met; a slice's spare places count too). A statement '..UptoSaid' is the law's where the arguments, and the package variables that the reading takes, are together of bulk at most 1048576: NARROWER than '..Said'. Prove '..Said' where nothing that the law and all that it calls make is longer than what came in: it says more and counts as full. Else prove '..UptoSaid'. A law counts once. -/
mutual
def uptoBulk {H : Type} : DataW H → Nat
  | .lit (.string bytes) => bytes.length + 1
  | .lit _ => 1
  | .nil => 1
  | .ptr d => uptoBulk d + 1
  | .slice elems spare => uptoBulkAll elems + uptoBulkAll spare + 1
  | .agg parts => uptoBulkAll parts + 1
  | .iface _ d => uptoBulk d + 1
  | .map entries => uptoBulkEntries entries + 1
  | .held _ => 1
def uptoBulkAll {H : Type} : List (DataW H) → Nat
  | [] => 0
  | d :: r => uptoBulk d + uptoBulkAll r
def uptoBulkEntries {H : Type} : List (Lit × DataW H) → Nat
  | [] => 0
  | x :: r => uptoBulkEntry x + uptoBulkEntries r
def uptoBulkEntry {H : Type} : Lit × DataW H → Nat
  | (.string bytes, d) => bytes.length + uptoBulk d + 1
  | (_, d) => uptoBulk d + 1
 end
def uptoSmall : (H : Type) → List (DataW H) → Bool := fun _ ds => decide (uptoBulkAll ds ≤ 1048576)
def OpenSpec.upto (s : _root_.Go.ChangeSpec) : _root_.Go.OpenSpec := { _root_.Go.OpenSpec.ofChange s with cond := some uptoSmall }

/-- 'tolllaw07.TransGets', WHERE WHAT IT READS IS OF BULK AT MOST 1048576: true; the input reads as it did. -/
def transGetsUptoRow : OpenClaim := { program := "ythjbabkmjmfmjaadoor", sum := "8205821bc847cb69227dfa25747df4db022443ebcd596887a7643e17ffb0b329", func := "toll/tolllaw07.TransGets", spec := "transGets", inPlace := ["internal/bytealg.IndexByteString", "internal/bytealg.IndexString", "internal/abi.NoEscape", "internal/bytealg.MakeNoZero"], named := ["internal/bytealg.MaxLen", "toll/trans.names"], apart := false, laid := [("toll/trans.names", laid_toll_trans_names)], narrowed := true }
def TransGetsUptoSaid : Prop := transGetsUptoRow.holds Tryd.pinned (OpenSpec.upto transGetsSpec)

/-- 'tolllaw07.TransTells', WHERE WHAT IT READS IS OF BULK AT MOST 1048576: true; the input reads as it did. -/
def transTellsUptoRow : OpenClaim := { program := "ythjbabkmjmfmjaadoor", sum := "8205821bc847cb69227dfa25747df4db022443ebcd596887a7643e17ffb0b329", func := "toll/tolllaw07.TransTells", spec := "transTells", inPlace := ["internal/bytealg.IndexByteString", "internal/bytealg.IndexString", "internal/abi.NoEscape", "internal/bytealg.MakeNoZero"], named := ["internal/bytealg.MaxLen", "toll/trans.names"], apart := false, laid := [("toll/trans.names", laid_toll_trans_names)], narrowed := true }
def TransTellsUptoSaid : Prop := transTellsUptoRow.holds Tryd.pinned (OpenSpec.upto transTellsSpec)

/-- 'tolllaw07.TransBack', WHERE WHAT IT READS IS OF BULK AT MOST 1048576: true; the input reads as it did. -/
def transBackUptoRow : OpenClaim := { program := "ythjbabkmjmfmjaadoor", sum := "8205821bc847cb69227dfa25747df4db022443ebcd596887a7643e17ffb0b329", func := "toll/tolllaw07.TransBack", spec := "transBack", inPlace := ["internal/bytealg.IndexByteString", "internal/bytealg.IndexString", "internal/abi.NoEscape", "internal/bytealg.MakeNoZero"], named := ["internal/bytealg.MaxLen", "toll/trans.names"], apart := false, laid := [("toll/trans.names", laid_toll_trans_names)], narrowed := true }
def TransBackUptoSaid : Prop := transBackUptoRow.holds Tryd.pinned (OpenSpec.upto transBackSpec)

/-- 'tolllaw07.TransSeals', WHERE WHAT IT READS IS OF BULK AT MOST 1048576: true; the input reads as it did. -/
def transSealsUptoRow : OpenClaim := { program := "ythjbabkmjmfmjaadoor", sum := "8205821bc847cb69227dfa25747df4db022443ebcd596887a7643e17ffb0b329", func := "toll/tolllaw07.TransSeals", spec := "transSeals", inPlace := ["internal/bytealg.IndexByteString", "internal/bytealg.IndexString", "internal/abi.NoEscape", "internal/bytealg.MakeNoZero"], named := ["internal/bytealg.MaxLen", "toll/trans.names"], apart := false, laid := [("toll/trans.names", laid_toll_trans_names)], narrowed := true }
def TransSealsUptoSaid : Prop := transSealsUptoRow.holds Tryd.pinned (OpenSpec.upto transSealsSpec)

/-- 'tolllaw07.TransFlags', WHERE WHAT IT READS IS OF BULK AT MOST 1048576: true; the input reads as it did. -/
def transFlagsUptoRow : OpenClaim := { program := "ythjbabkmjmfmjaadoor", sum := "8205821bc847cb69227dfa25747df4db022443ebcd596887a7643e17ffb0b329", func := "toll/tolllaw07.TransFlags", spec := "transFlags", inPlace := ["internal/abi.NoEscape", "internal/bytealg.MakeNoZero", "internal/bytealg.IndexByteString", "internal/bytealg.IndexString", "internal/bytealg.CountString"], named := ["toll/trans.names", "internal/bytealg.MaxLen", "unicode/utf8.first", "unicode/utf8.acceptRanges"], apart := false, laid := [("unicode/utf8.acceptRanges", laid_unicode_utf8_acceptRanges), ("toll/trans.names", laid_toll_trans_names), ("unicode/utf8.first", laid_unicode_utf8_first)], narrowed := true }
def TransFlagsUptoSaid : Prop := transFlagsUptoRow.holds Tryd.pinned (OpenSpec.upto transFlagsSpec)

/-- 'tolllaw07.TransKnown', WHERE WHAT IT READS IS OF BULK AT MOST 1048576: true; the input reads as it did. -/
def transKnownUptoRow : OpenClaim := { program := "ythjbabkmjmfmjaadoor", sum := "8205821bc847cb69227dfa25747df4db022443ebcd596887a7643e17ffb0b329", func := "toll/tolllaw07.TransKnown", spec := "transKnown", inPlace := ["internal/bytealg.IndexByteString", "internal/bytealg.IndexString", "internal/abi.NoEscape", "internal/bytealg.MakeNoZero"], named := ["internal/bytealg.MaxLen", "toll/trans.names"], apart := false, laid := [("toll/trans.names", laid_toll_trans_names)], narrowed := true }
def TransKnownUptoSaid : Prop := transKnownUptoRow.holds Tryd.pinned (OpenSpec.upto transKnownSpec)

end Rows
end Go.Proofs.YthjbabkmjmfmjaaDoor
