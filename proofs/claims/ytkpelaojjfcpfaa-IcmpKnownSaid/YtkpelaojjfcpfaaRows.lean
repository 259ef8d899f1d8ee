/-
  No cell of these rows narrows 'for every input' (looked for: loops, veiled, ifaces, maps, wideKeys, modest, calm, conditions, laid).
  DERIVED. THE GIVEN ROWS OF THIS SEAT. 5 by the template 'for every input the law returns true; each argument reads behind the call as it read before'; 0 by the template 'total and deterministic' (their statements: YtkpelaojjfcpfaaTotals.lean).
  GIVEN WITH THE SEED: the statements are not yours to turn. If you find one false, say at which input.
  Laid BY PROGRAM, IN A SANDBOX (cutbox-rows.mjs): the forced cells as the released guide's own fill.sh prints them over the translation 0e2f0c453a832615… (all of the seat's roots in one cut). By AI agents, Wed Nov 11 2026. No macro, syntax, notation, axiom, sorry.
-/
import Derived.Test.YtkpelaojjfcpfaaChecked
import GoSem.Claim
import GoSem.ClaimJoined
import GoSem.ClaimMapViews
import Derived.JoinedTies
import Derived.KernelRfl
namespace Go.Proofs.Ytkpelaojjfcpfaa
/- THE CELL 'sum', in the pinned program and in every row, IS THE sha256 OF THE DUMP (.gsa) THAT YtkpelaojjfcpfaaProg.lean LOADS. Nothing in Lean hashes anything: it is a label: what it is worth is what the hold of that sum in a sandbox is worth. -/
noncomputable def Try.pinned : Pinned := { name := "ytkpelaojjfcpfaa", sum := "0e2f0c453a8326152dadea845051b54a85ec09194621fa7a216e8a4ca723dcb8", checked := Try.checked }
namespace Rows
def none {H : Type} : Left H := { results := [], args := [] }

/-- 'tolllaw08.IcmpGets': WHATEVER THE INPUT: true; the input reads as it did. -/
def icmpGetsSpec : ChangeSpec := { name := "icmpGets", fn := fun _ => fun
  | [d] => { results := [.lit (.bool true)], args := [d] }
  | _ => none }
def icmpGetsRow : OpenClaim := { program := "ytkpelaojjfcpfaa", sum := "0e2f0c453a8326152dadea845051b54a85ec09194621fa7a216e8a4ca723dcb8", func := "toll/tolllaw08.IcmpGets", spec := "icmpGets", apart := false }
def IcmpGetsSaid : Prop := icmpGetsRow.holds Try.pinned (OpenSpec.ofChange icmpGetsSpec)

/-- ITS FALSE NEIGHBOUR: 'it returns false'. Refute it at one input. -/
def icmpGetsWrong : ChangeSpec := { name := "icmpGets", fn := fun _ => fun
  | [d] => { results := [.lit (.bool false)], args := [d] }
  | _ => none }
def IcmpGetsWrongFalsely : Prop := icmpGetsRow.holds Try.pinned (OpenSpec.ofChange icmpGetsWrong)

/-- 'tolllaw08.IcmpBack': WHATEVER THE INPUT: true; the input reads as it did. -/
def icmpBackSpec : ChangeSpec := { name := "icmpBack", fn := fun _ => fun
  | [d1, d2, d3, d4] => { results := [.lit (.bool true)], args := [d1, d2, d3, d4] }
  | _ => none }
def icmpBackRow : OpenClaim := { program := "ytkpelaojjfcpfaa", sum := "0e2f0c453a8326152dadea845051b54a85ec09194621fa7a216e8a4ca723dcb8", func := "toll/tolllaw08.IcmpBack", spec := "icmpBack", apart := false }
def IcmpBackSaid : Prop := icmpBackRow.holds Try.pinned (OpenSpec.ofChange icmpBackSpec)

/-- ITS FALSE NEIGHBOUR: 'it returns false'. Refute it at one input. -/
def icmpBackWrong : ChangeSpec := { name := "icmpBack", fn := fun _ => fun
  | [d1, d2, d3, d4] => { results := [.lit (.bool false)], args := [d1, d2, d3, d4] }
  | _ => none }
def IcmpBackWrongFalsely : Prop := icmpBackRow.holds Try.pinned (OpenSpec.ofChange icmpBackWrong)

/-- 'tolllaw08.IcmpTypes': WHATEVER THE INPUT: true; the input reads as it did. -/
def icmpTypesSpec : ChangeSpec := { name := "icmpTypes", fn := fun _ => fun
  | [d] => { results := [.lit (.bool true)], args := [d] }
  | _ => none }
def icmpTypesRow : OpenClaim := { program := "ytkpelaojjfcpfaa", sum := "0e2f0c453a8326152dadea845051b54a85ec09194621fa7a216e8a4ca723dcb8", func := "toll/tolllaw08.IcmpTypes", spec := "icmpTypes", apart := false }
def IcmpTypesSaid : Prop := icmpTypesRow.holds Try.pinned (OpenSpec.ofChange icmpTypesSpec)

/-- ITS FALSE NEIGHBOUR: 'it returns false'. Refute it at one input. -/
def icmpTypesWrong : ChangeSpec := { name := "icmpTypes", fn := fun _ => fun
  | [d] => { results := [.lit (.bool false)], args := [d] }
  | _ => none }
def IcmpTypesWrongFalsely : Prop := icmpTypesRow.holds Try.pinned (OpenSpec.ofChange icmpTypesWrong)

/-- 'tolllaw08.IcmpQuotes': WHATEVER THE INPUT: true; the input reads as it did. -/
def icmpQuotesSpec : ChangeSpec := { name := "icmpQuotes", fn := fun _ => fun
  | [d1, d2, d3, d4] => { results := [.lit (.bool true)], args := [d1, d2, d3, d4] }
  | _ => none }
def icmpQuotesRow : OpenClaim := { program := "ytkpelaojjfcpfaa", sum := "0e2f0c453a8326152dadea845051b54a85ec09194621fa7a216e8a4ca723dcb8", func := "toll/tolllaw08.IcmpQuotes", spec := "icmpQuotes", unfollowed := true, recurses := true, apart := false }
def IcmpQuotesSaid : Prop := icmpQuotesRow.holds Try.pinned (OpenSpec.ofChange icmpQuotesSpec)

/-- ITS FALSE NEIGHBOUR: 'it returns false'. Refute it at one input. -/
def icmpQuotesWrong : ChangeSpec := { name := "icmpQuotes", fn := fun _ => fun
  | [d1, d2, d3, d4] => { results := [.lit (.bool false)], args := [d1, d2, d3, d4] }
  | _ => none }
def IcmpQuotesWrongFalsely : Prop := icmpQuotesRow.holds Try.pinned (OpenSpec.ofChange icmpQuotesWrong)

/-- 'tolllaw08.IcmpKnown': WHATEVER THE INPUT: true; the input reads as it did. -/
def icmpKnownSpec : ChangeSpec := { name := "icmpKnown", fn := fun _ => fun
  | [] => { results := [.lit (.bool true)], args := [] }
  | _ => none }
def icmpKnownRow : OpenClaim := { program := "ytkpelaojjfcpfaa", sum := "0e2f0c453a8326152dadea845051b54a85ec09194621fa7a216e8a4ca723dcb8", func := "toll/tolllaw08.IcmpKnown", spec := "icmpKnown", unfollowed := true, recurses := true, apart := false }
def IcmpKnownSaid : Prop := icmpKnownRow.holds Try.pinned (OpenSpec.ofChange icmpKnownSpec)

/-- ITS FALSE NEIGHBOUR: 'it returns false'. Refute it at one input. -/
def icmpKnownWrong : ChangeSpec := { name := "icmpKnown", fn := fun _ => fun
  | [] => { results := [.lit (.bool false)], args := [] }
  | _ => none }
def IcmpKnownWrongFalsely : Prop := icmpKnownRow.holds Try.pinned (OpenSpec.ofChange icmpKnownWrong)

/- THE SECOND FORM. 'bulk': how many values and letters a reading holds, each counted each time it is reached (what is shared counts as often as it is met; a slice's spare places count too). A statement '..UptoSaid' is the law's where the arguments, and the package variables that the reading takes, are together of bulk at most 1048576: NARROWER than '..Said'. Prove '..Said' where nothing that the law and all that it calls make is longer than what came in: it says more and counts as full. Else prove '..UptoSaid'. A law counts once. -/
mutual
def uptoBulk {H : Type} : DataW H → Nat
  | .lit (.string bytes) => bytes.length + 1
  | .lit _ => 1
  | .nil => 1
  | .ptr d => uptoBulk d + 1
  | .slice elems spare => uptoBulkAll elems + uptoBulkAll spare + 1
  | .agg parts => uptoBulkAll parts + 1
  | .iface _ d => uptoBulk d + 1
  | .map entries => uptoBulkEntries entries + 1
  | .held _ => 1
def uptoBulkAll {H : Type} : List (DataW H) → Nat
  | [] => 0
  | d :: r => uptoBulk d + uptoBulkAll r
def uptoBulkEntries {H : Type} : List (Lit × DataW H) → Nat
  | [] => 0
  | x :: r => uptoBulkEntry x + uptoBulkEntries r
def uptoBulkEntry {H : Type} : Lit × DataW H → Nat
  | (.string bytes, d) => bytes.length + uptoBulk d + 1
  | (_, d) => uptoBulk d + 1
 end
def uptoSmall : (H : Type) → List (DataW H) → Bool := fun _ ds => decide (uptoBulkAll ds ≤ 1048576)
def OpenSpec.upto (s : _root_.Go.ChangeSpec) : _root_.Go.OpenSpec := { _root_.Go.OpenSpec.ofChange s with cond := some uptoSmall }

/-- 'tolllaw08.IcmpGets', WHERE WHAT IT READS IS OF BULK AT MOST 1048576: true; the input reads as it did. -/
def icmpGetsUptoRow : OpenClaim := { program := "ytkpelaojjfcpfaa", sum := "0e2f0c453a8326152dadea845051b54a85ec09194621fa7a216e8a4ca723dcb8", func := "toll/tolllaw08.IcmpGets", spec := "icmpGets", apart := false, narrowed := true }
def IcmpGetsUptoSaid : Prop := icmpGetsUptoRow.holds Try.pinned (OpenSpec.upto icmpGetsSpec)

/-- 'tolllaw08.IcmpBack', WHERE WHAT IT READS IS OF BULK AT MOST 1048576: true; the input reads as it did. -/
def icmpBackUptoRow : OpenClaim := { program := "ytkpelaojjfcpfaa", sum := "0e2f0c453a8326152dadea845051b54a85ec09194621fa7a216e8a4ca723dcb8", func := "toll/tolllaw08.IcmpBack", spec := "icmpBack", apart := false, narrowed := true }
def IcmpBackUptoSaid : Prop := icmpBackUptoRow.holds Try.pinned (OpenSpec.upto icmpBackSpec)

/-- 'tolllaw08.IcmpTypes', WHERE WHAT IT READS IS OF BULK AT MOST 1048576: true; the input reads as it did. -/
def icmpTypesUptoRow : OpenClaim := { program := "ytkpelaojjfcpfaa", sum := "0e2f0c453a8326152dadea845051b54a85ec09194621fa7a216e8a4ca723dcb8", func := "toll/tolllaw08.IcmpTypes", spec := "icmpTypes", apart := false, narrowed := true }
def IcmpTypesUptoSaid : Prop := icmpTypesUptoRow.holds Try.pinned (OpenSpec.upto icmpTypesSpec)

/-- 'tolllaw08.IcmpQuotes', WHERE WHAT IT READS IS OF BULK AT MOST 1048576: true; the input reads as it did. -/
def icmpQuotesUptoRow : OpenClaim := { program := "ytkpelaojjfcpfaa", sum := "0e2f0c453a8326152dadea845051b54a85ec09194621fa7a216e8a4ca723dcb8", func := "toll/tolllaw08.IcmpQuotes", spec := "icmpQuotes", unfollowed := true, recurses := true, apart := false, narrowed := true }
def IcmpQuotesUptoSaid : Prop := icmpQuotesUptoRow.holds Try.pinned (OpenSpec.upto icmpQuotesSpec)

/-- 'tolllaw08.IcmpKnown', WHERE WHAT IT READS IS OF BULK AT MOST 1048576: true; the input reads as it did. -/
def icmpKnownUptoRow : OpenClaim := { program := "ytkpelaojjfcpfaa", sum := "0e2f0c453a8326152dadea845051b54a85ec09194621fa7a216e8a4ca723dcb8", func := "toll/tolllaw08.IcmpKnown", spec := "icmpKnown", unfollowed := true, recurses := true, apart := false, narrowed := true }
def IcmpKnownUptoSaid : Prop := icmpKnownUptoRow.holds Try.pinned (OpenSpec.upto icmpKnownSpec)

end Rows
end Go.Proofs.Ytkpelaojjfcpfaa
