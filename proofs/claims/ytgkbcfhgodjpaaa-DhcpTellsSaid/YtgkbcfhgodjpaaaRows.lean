/-
  No cell of these rows narrows 'for every input' (looked for: loops, veiled, ifaces, maps, wideKeys, modest, calm, conditions, laid).
  DERIVED. THE GIVEN ROWS OF THIS SEAT. 4 by the template 'for every input the law returns true; each argument reads behind the call as it read before'; 0 by the template 'total and deterministic' (their statements: YtgkbcfhgodjpaaaTotals.lean).
  GIVEN WITH THE SEED: the statements are not yours to turn. If you find one false, say at which input.
  Laid BY PROGRAM, IN A SANDBOX (cutbox-rows.mjs): the forced cells as the released guide's own fill.sh prints them over the translation 6364efc6e3d802bf… (all of the seat's roots in one cut). By AI agents, Wed Nov 11 2026. No macro, syntax, notation, axiom, sorry.
-/
import Derived.Test.YtgkbcfhgodjpaaaChecked
import GoSem.Claim
import GoSem.ClaimJoined
import GoSem.ClaimMapViews
import Derived.JoinedTies
import Derived.KernelRfl
namespace Go.Proofs.Ytgkbcfhgodjpaaa
/- THE CELL 'sum', in the pinned program and in every row, IS THE sha256 OF THE DUMP (.gsa) THAT YtgkbcfhgodjpaaaProg.lean LOADS. Nothing in Lean hashes anything: it is a label: what it is worth is what the hold of that sum in a sandbox is worth. -/
noncomputable def Try.pinned : Pinned := { name := "ytgkbcfhgodjpaaa", sum := "6364efc6e3d802bf24fd59e7457e6b6aed204cf65fecc59ba3898f2bcec981d7", checked := Try.checked }
namespace Rows
def none {H : Type} : Left H := { results := [], args := [] }

/-- 'tolllaw09.DhcpTells': WHATEVER THE INPUT: true; the input reads as it did. -/
def dhcpTellsSpec : ChangeSpec := { name := "dhcpTells", fn := fun _ => fun
  | [d1, d2] => { results := [.lit (.bool true)], args := [d1, d2] }
  | _ => none }
def dhcpTellsRow : OpenClaim := { program := "ytgkbcfhgodjpaaa", sum := "6364efc6e3d802bf24fd59e7457e6b6aed204cf65fecc59ba3898f2bcec981d7", func := "toll/tolllaw09.DhcpTells", spec := "dhcpTells", apart := false }
def DhcpTellsSaid : Prop := dhcpTellsRow.holds Try.pinned (OpenSpec.ofChange dhcpTellsSpec)

/-- ITS FALSE NEIGHBOUR: 'it returns false'. Refute it at one input. -/
def dhcpTellsWrong : ChangeSpec := { name := "dhcpTells", fn := fun _ => fun
  | [d1, d2] => { results := [.lit (.bool false)], args := [d1, d2] }
  | _ => none }
def DhcpTellsWrongFalsely : Prop := dhcpTellsRow.holds Try.pinned (OpenSpec.ofChange dhcpTellsWrong)

/-- 'tolllaw09.DhcpBack': WHATEVER THE INPUT: true; the input reads as it did. -/
def dhcpBackSpec : ChangeSpec := { name := "dhcpBack", fn := fun _ => fun
  | [d1, d2, d3] => { results := [.lit (.bool true)], args := [d1, d2, d3] }
  | _ => none }
def dhcpBackRow : OpenClaim := { program := "ytgkbcfhgodjpaaa", sum := "6364efc6e3d802bf24fd59e7457e6b6aed204cf65fecc59ba3898f2bcec981d7", func := "toll/tolllaw09.DhcpBack", spec := "dhcpBack", apart := false }
def DhcpBackSaid : Prop := dhcpBackRow.holds Try.pinned (OpenSpec.ofChange dhcpBackSpec)

/-- ITS FALSE NEIGHBOUR: 'it returns false'. Refute it at one input. -/
def dhcpBackWrong : ChangeSpec := { name := "dhcpBack", fn := fun _ => fun
  | [d1, d2, d3] => { results := [.lit (.bool false)], args := [d1, d2, d3] }
  | _ => none }
def DhcpBackWrongFalsely : Prop := dhcpBackRow.holds Try.pinned (OpenSpec.ofChange dhcpBackWrong)

/-- 'tolllaw09.DhcpParts': WHATEVER THE INPUT: true; the input reads as it did. -/
def dhcpPartsSpec : ChangeSpec := { name := "dhcpParts", fn := fun _ => fun
  | [d1, d2, d3] => { results := [.lit (.bool true)], args := [d1, d2, d3] }
  | _ => none }
def dhcpPartsRow : OpenClaim := { program := "ytgkbcfhgodjpaaa", sum := "6364efc6e3d802bf24fd59e7457e6b6aed204cf65fecc59ba3898f2bcec981d7", func := "toll/tolllaw09.DhcpParts", spec := "dhcpParts", apart := false }
def DhcpPartsSaid : Prop := dhcpPartsRow.holds Try.pinned (OpenSpec.ofChange dhcpPartsSpec)

/-- ITS FALSE NEIGHBOUR: 'it returns false'. Refute it at one input. -/
def dhcpPartsWrong : ChangeSpec := { name := "dhcpParts", fn := fun _ => fun
  | [d1, d2, d3] => { results := [.lit (.bool false)], args := [d1, d2, d3] }
  | _ => none }
def DhcpPartsWrongFalsely : Prop := dhcpPartsRow.holds Try.pinned (OpenSpec.ofChange dhcpPartsWrong)

/-- 'tolllaw09.DhcpKnown': WHATEVER THE INPUT: true; the input reads as it did. -/
def dhcpKnownSpec : ChangeSpec := { name := "dhcpKnown", fn := fun _ => fun
  | [] => { results := [.lit (.bool true)], args := [] }
  | _ => none }
def dhcpKnownRow : OpenClaim := { program := "ytgkbcfhgodjpaaa", sum := "6364efc6e3d802bf24fd59e7457e6b6aed204cf65fecc59ba3898f2bcec981d7", func := "toll/tolllaw09.DhcpKnown", spec := "dhcpKnown", unfollowed := true, recurses := true, apart := false }
def DhcpKnownSaid : Prop := dhcpKnownRow.holds Try.pinned (OpenSpec.ofChange dhcpKnownSpec)

/-- ITS FALSE NEIGHBOUR: 'it returns false'. Refute it at one input. -/
def dhcpKnownWrong : ChangeSpec := { name := "dhcpKnown", fn := fun _ => fun
  | [] => { results := [.lit (.bool false)], args := [] }
  | _ => none }
def DhcpKnownWrongFalsely : Prop := dhcpKnownRow.holds Try.pinned (OpenSpec.ofChange dhcpKnownWrong)

/- THE SECOND FORM. 'bulk': how many values and letters a reading holds, each counted each time it is reached (what is shared counts as often as it is met; a slice's spare places count too). A statement '..UptoSaid' is the law's where the arguments, and the package variables that the reading takes, are together of bulk at most 1048576: NARROWER than '..Said'. Prove '..Said' where nothing that the law and all that it calls make is longer than what came in: it says more and counts as full. Else prove '..UptoSaid'. A law counts once. -/
mutual
def uptoBulk {H : Type} : DataW H → Nat
  | .lit (.string bytes) => bytes.length + 1
  | .lit _ => 1
  | .nil => 1
  | .ptr d => uptoBulk d + 1
  | .slice elems spare => uptoBulkAll elems + uptoBulkAll spare + 1
  | .agg parts => uptoBulkAll parts + 1
  | .iface _ d => uptoBulk d + 1
  | .map entries => uptoBulkEntries entries + 1
  | .held _ => 1
def uptoBulkAll {H : Type} : List (DataW H) → Nat
  | [] => 0
  | d :: r => uptoBulk d + uptoBulkAll r
def uptoBulkEntries {H : Type} : List (Lit × DataW H) → Nat
  | [] => 0
  | x :: r => uptoBulkEntry x + uptoBulkEntries r
def uptoBulkEntry {H : Type} : Lit × DataW H → Nat
  | (.string bytes, d) => bytes.length + uptoBulk d + 1
  | (_, d) => uptoBulk d + 1
 end
def uptoSmall : (H : Type) → List (DataW H) → Bool := fun _ ds => decide (uptoBulkAll ds ≤ 1048576)
def OpenSpec.upto (s : _root_.Go.ChangeSpec) : _root_.Go.OpenSpec := { _root_.Go.OpenSpec.ofChange s with cond := some uptoSmall }

/-- 'tolllaw09.DhcpTells', WHERE WHAT IT READS IS OF BULK AT MOST 1048576: true; the input reads as it did. -/
def dhcpTellsUptoRow : OpenClaim := { program := "ytgkbcfhgodjpaaa", sum := "6364efc6e3d802bf24fd59e7457e6b6aed204cf65fecc59ba3898f2bcec981d7", func := "toll/tolllaw09.DhcpTells", spec := "dhcpTells", apart := false, narrowed := true }
def DhcpTellsUptoSaid : Prop := dhcpTellsUptoRow.holds Try.pinned (OpenSpec.upto dhcpTellsSpec)

/-- 'tolllaw09.DhcpBack', WHERE WHAT IT READS IS OF BULK AT MOST 1048576: true; the input reads as it did. -/
def dhcpBackUptoRow : OpenClaim := { program := "ytgkbcfhgodjpaaa", sum := "6364efc6e3d802bf24fd59e7457e6b6aed204cf65fecc59ba3898f2bcec981d7", func := "toll/tolllaw09.DhcpBack", spec := "dhcpBack", apart := false, narrowed := true }
def DhcpBackUptoSaid : Prop := dhcpBackUptoRow.holds Try.pinned (OpenSpec.upto dhcpBackSpec)

/-- 'tolllaw09.DhcpParts', WHERE WHAT IT READS IS OF BULK AT MOST 1048576: true; the input reads as it did. -/
def dhcpPartsUptoRow : OpenClaim := { program := "ytgkbcfhgodjpaaa", sum := "6364efc6e3d802bf24fd59e7457e6b6aed204cf65fecc59ba3898f2bcec981d7", func := "toll/tolllaw09.DhcpParts", spec := "dhcpParts", apart := false, narrowed := true }
def DhcpPartsUptoSaid : Prop := dhcpPartsUptoRow.holds Try.pinned (OpenSpec.upto dhcpPartsSpec)

/-- 'tolllaw09.DhcpKnown', WHERE WHAT IT READS IS OF BULK AT MOST 1048576: true; the input reads as it did. -/
def dhcpKnownUptoRow : OpenClaim := { program := "ytgkbcfhgodjpaaa", sum := "6364efc6e3d802bf24fd59e7457e6b6aed204cf65fecc59ba3898f2bcec981d7", func := "toll/tolllaw09.DhcpKnown", spec := "dhcpKnown", unfollowed := true, recurses := true, apart := false, narrowed := true }
def DhcpKnownUptoSaid : Prop := dhcpKnownUptoRow.holds Try.pinned (OpenSpec.upto dhcpKnownSpec)

end Rows
end Go.Proofs.Ytgkbcfhgodjpaaa
