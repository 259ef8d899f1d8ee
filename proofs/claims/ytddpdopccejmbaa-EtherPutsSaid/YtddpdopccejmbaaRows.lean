/-
  No cell of these rows narrows 'for every input' (looked for: loops, veiled, ifaces, maps, wideKeys, modest, calm, conditions, laid).
  DERIVED. THE GIVEN ROWS OF THIS SEAT. 6 by the template 'for every input the law returns true; each argument reads behind the call as it read before'; 0 by the template 'total and deterministic' (their statements: YtddpdopccejmbaaTotals.lean).
  GIVEN WITH THE SEED: the statements are not yours to turn. If you find one false, say at which input.
  Laid BY PROGRAM, IN A SANDBOX (cutbox-rows.mjs): the forced cells as the released guide's own fill.sh prints them over the translation d3621cdace1bf454… (all of the seat's roots in one cut). By AI agents, Wed Nov 11 2026. No macro, syntax, notation, axiom, sorry.
-/
import Derived.Test.YtddpdopccejmbaaChecked
import GoSem.Claim
import GoSem.ClaimJoined
import GoSem.ClaimMapViews
import Derived.JoinedTies
import Derived.KernelRfl
namespace Go.Proofs.Ytddpdopccejmbaa
/- THE CELL 'sum', in the pinned program and in every row, IS THE sha256 OF THE DUMP (.gsa) THAT YtddpdopccejmbaaProg.lean LOADS. Nothing in Lean hashes anything: it is a label: what it is worth is what the hold of that sum in a sandbox is worth. -/
noncomputable def Try.pinned : Pinned := { name := "ytddpdopccejmbaa", sum := "d3621cdace1bf454afcb59f2dbc38284a0e65cc81740fd153ea0e772c280f36e", checked := Try.checked }
namespace Rows
def none {H : Type} : Left H := { results := [], args := [] }

/-- 'tolllaw04.EtherPuts': WHATEVER THE INPUT: true; the input reads as it did. -/
def etherPutsSpec : ChangeSpec := { name := "etherPuts", fn := fun _ => fun
  | [d] => { results := [.lit (.bool true)], args := [d] }
  | _ => none }
def etherPutsRow : OpenClaim := { program := "ytddpdopccejmbaa", sum := "d3621cdace1bf454afcb59f2dbc38284a0e65cc81740fd153ea0e772c280f36e", func := "toll/tolllaw04.EtherPuts", spec := "etherPuts", unfollowed := true, recurses := true, apart := false }
def EtherPutsSaid : Prop := etherPutsRow.holds Try.pinned (OpenSpec.ofChange etherPutsSpec)

/-- ITS FALSE NEIGHBOUR: 'it returns false'. Refute it at one input. -/
def etherPutsWrong : ChangeSpec := { name := "etherPuts", fn := fun _ => fun
  | [d] => { results := [.lit (.bool false)], args := [d] }
  | _ => none }
def EtherPutsWrongFalsely : Prop := etherPutsRow.holds Try.pinned (OpenSpec.ofChange etherPutsWrong)

/-- 'tolllaw05.ArpGets': WHATEVER THE INPUT: true; the input reads as it did. -/
def arpGetsSpec : ChangeSpec := { name := "arpGets", fn := fun _ => fun
  | [d] => { results := [.lit (.bool true)], args := [d] }
  | _ => none }
def arpGetsRow : OpenClaim := { program := "ytddpdopccejmbaa", sum := "d3621cdace1bf454afcb59f2dbc38284a0e65cc81740fd153ea0e772c280f36e", func := "toll/tolllaw05.ArpGets", spec := "arpGets", apart := false }
def ArpGetsSaid : Prop := arpGetsRow.holds Try.pinned (OpenSpec.ofChange arpGetsSpec)

/-- ITS FALSE NEIGHBOUR: 'it returns false'. Refute it at one input. -/
def arpGetsWrong : ChangeSpec := { name := "arpGets", fn := fun _ => fun
  | [d] => { results := [.lit (.bool false)], args := [d] }
  | _ => none }
def ArpGetsWrongFalsely : Prop := arpGetsRow.holds Try.pinned (OpenSpec.ofChange arpGetsWrong)

/-- 'tolllaw05.ArpTells': WHATEVER THE INPUT: true; the input reads as it did. -/
def arpTellsSpec : ChangeSpec := { name := "arpTells", fn := fun _ => fun
  | [d1, d2] => { results := [.lit (.bool true)], args := [d1, d2] }
  | _ => none }
def arpTellsRow : OpenClaim := { program := "ytddpdopccejmbaa", sum := "d3621cdace1bf454afcb59f2dbc38284a0e65cc81740fd153ea0e772c280f36e", func := "toll/tolllaw05.ArpTells", spec := "arpTells", apart := false }
def ArpTellsSaid : Prop := arpTellsRow.holds Try.pinned (OpenSpec.ofChange arpTellsSpec)

/-- ITS FALSE NEIGHBOUR: 'it returns false'. Refute it at one input. -/
def arpTellsWrong : ChangeSpec := { name := "arpTells", fn := fun _ => fun
  | [d1, d2] => { results := [.lit (.bool false)], args := [d1, d2] }
  | _ => none }
def ArpTellsWrongFalsely : Prop := arpTellsRow.holds Try.pinned (OpenSpec.ofChange arpTellsWrong)

/-- 'tolllaw05.ArpBack': WHATEVER THE INPUT: true; the input reads as it did. -/
def arpBackSpec : ChangeSpec := { name := "arpBack", fn := fun _ => fun
  | [d1, d2] => { results := [.lit (.bool true)], args := [d1, d2] }
  | _ => none }
def arpBackRow : OpenClaim := { program := "ytddpdopccejmbaa", sum := "d3621cdace1bf454afcb59f2dbc38284a0e65cc81740fd153ea0e772c280f36e", func := "toll/tolllaw05.ArpBack", spec := "arpBack", apart := false }
def ArpBackSaid : Prop := arpBackRow.holds Try.pinned (OpenSpec.ofChange arpBackSpec)

/-- ITS FALSE NEIGHBOUR: 'it returns false'. Refute it at one input. -/
def arpBackWrong : ChangeSpec := { name := "arpBack", fn := fun _ => fun
  | [d1, d2] => { results := [.lit (.bool false)], args := [d1, d2] }
  | _ => none }
def ArpBackWrongFalsely : Prop := arpBackRow.holds Try.pinned (OpenSpec.ofChange arpBackWrong)

/-- 'tolllaw05.ArpReplies': WHATEVER THE INPUT: true; the input reads as it did. -/
def arpRepliesSpec : ChangeSpec := { name := "arpReplies", fn := fun _ => fun
  | [d1, d2] => { results := [.lit (.bool true)], args := [d1, d2] }
  | _ => none }
def arpRepliesRow : OpenClaim := { program := "ytddpdopccejmbaa", sum := "d3621cdace1bf454afcb59f2dbc38284a0e65cc81740fd153ea0e772c280f36e", func := "toll/tolllaw05.ArpReplies", spec := "arpReplies", apart := false }
def ArpRepliesSaid : Prop := arpRepliesRow.holds Try.pinned (OpenSpec.ofChange arpRepliesSpec)

/-- ITS FALSE NEIGHBOUR: 'it returns false'. Refute it at one input. -/
def arpRepliesWrong : ChangeSpec := { name := "arpReplies", fn := fun _ => fun
  | [d1, d2] => { results := [.lit (.bool false)], args := [d1, d2] }
  | _ => none }
def ArpRepliesWrongFalsely : Prop := arpRepliesRow.holds Try.pinned (OpenSpec.ofChange arpRepliesWrong)

/-- 'tolllaw05.ArpKnown': WHATEVER THE INPUT: true; the input reads as it did. -/
def arpKnownSpec : ChangeSpec := { name := "arpKnown", fn := fun _ => fun
  | [] => { results := [.lit (.bool true)], args := [] }
  | _ => none }
def arpKnownRow : OpenClaim := { program := "ytddpdopccejmbaa", sum := "d3621cdace1bf454afcb59f2dbc38284a0e65cc81740fd153ea0e772c280f36e", func := "toll/tolllaw05.ArpKnown", spec := "arpKnown", apart := false }
def ArpKnownSaid : Prop := arpKnownRow.holds Try.pinned (OpenSpec.ofChange arpKnownSpec)

/-- ITS FALSE NEIGHBOUR: 'it returns false'. Refute it at one input. -/
def arpKnownWrong : ChangeSpec := { name := "arpKnown", fn := fun _ => fun
  | [] => { results := [.lit (.bool false)], args := [] }
  | _ => none }
def ArpKnownWrongFalsely : Prop := arpKnownRow.holds Try.pinned (OpenSpec.ofChange arpKnownWrong)

/- THE SECOND FORM. 'bulk': how many values and letters a reading holds, each counted each time it is reached (what is shared counts as often as it is met; a slice's spare places count too). A statement '..UptoSaid' is the law's where the arguments, and the package variables that the reading takes, are together of bulk at most 1048576: NARROWER than '..Said'. Prove '..Said' where nothing that the law and all that it calls make is longer than what came in: it says more and counts as full. Else prove '..UptoSaid'. A law counts once. -/
mutual
def uptoBulk {H : Type} : DataW H → Nat
  | .lit (.string bytes) => bytes.length + 1
  | .lit _ => 1
  | .nil => 1
  | .ptr d => uptoBulk d + 1
  | .slice elems spare => uptoBulkAll elems + uptoBulkAll spare + 1
  | .agg parts => uptoBulkAll parts + 1
  | .iface _ d => uptoBulk d + 1
  | .map entries => uptoBulkEntries entries + 1
  | .held _ => 1
def uptoBulkAll {H : Type} : List (DataW H) → Nat
  | [] => 0
  | d :: r => uptoBulk d + uptoBulkAll r
def uptoBulkEntries {H : Type} : List (Lit × DataW H) → Nat
  | [] => 0
  | x :: r => uptoBulkEntry x + uptoBulkEntries r
def uptoBulkEntry {H : Type} : Lit × DataW H → Nat
  | (.string bytes, d) => bytes.length + uptoBulk d + 1
  | (_, d) => uptoBulk d + 1
 end
def uptoSmall : (H : Type) → List (DataW H) → Bool := fun _ ds => decide (uptoBulkAll ds ≤ 1048576)
def OpenSpec.upto (s : _root_.Go.ChangeSpec) : _root_.Go.OpenSpec := { _root_.Go.OpenSpec.ofChange s with cond := some uptoSmall }

/-- 'tolllaw04.EtherPuts', WHERE WHAT IT READS IS OF BULK AT MOST 1048576: true; the input reads as it did. -/
def etherPutsUptoRow : OpenClaim := { program := "ytddpdopccejmbaa", sum := "d3621cdace1bf454afcb59f2dbc38284a0e65cc81740fd153ea0e772c280f36e", func := "toll/tolllaw04.EtherPuts", spec := "etherPuts", unfollowed := true, recurses := true, apart := false, narrowed := true }
def EtherPutsUptoSaid : Prop := etherPutsUptoRow.holds Try.pinned (OpenSpec.upto etherPutsSpec)

/-- 'tolllaw05.ArpGets', WHERE WHAT IT READS IS OF BULK AT MOST 1048576: true; the input reads as it did. -/
def arpGetsUptoRow : OpenClaim := { program := "ytddpdopccejmbaa", sum := "d3621cdace1bf454afcb59f2dbc38284a0e65cc81740fd153ea0e772c280f36e", func := "toll/tolllaw05.ArpGets", spec := "arpGets", apart := false, narrowed := true }
def ArpGetsUptoSaid : Prop := arpGetsUptoRow.holds Try.pinned (OpenSpec.upto arpGetsSpec)

/-- 'tolllaw05.ArpTells', WHERE WHAT IT READS IS OF BULK AT MOST 1048576: true; the input reads as it did. -/
def arpTellsUptoRow : OpenClaim := { program := "ytddpdopccejmbaa", sum := "d3621cdace1bf454afcb59f2dbc38284a0e65cc81740fd153ea0e772c280f36e", func := "toll/tolllaw05.ArpTells", spec := "arpTells", apart := false, narrowed := true }
def ArpTellsUptoSaid : Prop := arpTellsUptoRow.holds Try.pinned (OpenSpec.upto arpTellsSpec)

/-- 'tolllaw05.ArpBack', WHERE WHAT IT READS IS OF BULK AT MOST 1048576: true; the input reads as it did. -/
def arpBackUptoRow : OpenClaim := { program := "ytddpdopccejmbaa", sum := "d3621cdace1bf454afcb59f2dbc38284a0e65cc81740fd153ea0e772c280f36e", func := "toll/tolllaw05.ArpBack", spec := "arpBack", apart := false, narrowed := true }
def ArpBackUptoSaid : Prop := arpBackUptoRow.holds Try.pinned (OpenSpec.upto arpBackSpec)

/-- 'tolllaw05.ArpReplies', WHERE WHAT IT READS IS OF BULK AT MOST 1048576: true; the input reads as it did. -/
def arpRepliesUptoRow : OpenClaim := { program := "ytddpdopccejmbaa", sum := "d3621cdace1bf454afcb59f2dbc38284a0e65cc81740fd153ea0e772c280f36e", func := "toll/tolllaw05.ArpReplies", spec := "arpReplies", apart := false, narrowed := true }
def ArpRepliesUptoSaid : Prop := arpRepliesUptoRow.holds Try.pinned (OpenSpec.upto arpRepliesSpec)

/-- 'tolllaw05.ArpKnown', WHERE WHAT IT READS IS OF BULK AT MOST 1048576: true; the input reads as it did. -/
def arpKnownUptoRow : OpenClaim := { program := "ytddpdopccejmbaa", sum := "d3621cdace1bf454afcb59f2dbc38284a0e65cc81740fd153ea0e772c280f36e", func := "toll/tolllaw05.ArpKnown", spec := "arpKnown", apart := false, narrowed := true }
def ArpKnownUptoSaid : Prop := arpKnownUptoRow.holds Try.pinned (OpenSpec.upto arpKnownSpec)

end Rows
end Go.Proofs.Ytddpdopccejmbaa
