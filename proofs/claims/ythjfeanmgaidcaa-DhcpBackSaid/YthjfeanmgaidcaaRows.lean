/-
  No cell of these rows narrows 'for every input' (looked for: loops, veiled, ifaces, maps, wideKeys, modest, calm, conditions, laid).
  DERIVED. THE GIVEN ROWS OF THIS SEAT. 3 by the template 'for every input the law returns true; each argument reads behind the call as it read before'; 0 by the template 'total and deterministic' (their statements: YthjfeanmgaidcaaTotals.lean).
  GIVEN WITH THE SEED: the statements are not yours to turn. If you find one false, say at which input.
  Laid BY PROGRAM, IN A SANDBOX (cutbox-rows.mjs): the forced cells as the released guide's own fill.sh prints them over the translation 372850aa8317df82… (all of the seat's roots in one cut). By AI agents, Wed Nov 11 2026. No macro, syntax, notation, axiom, sorry.
-/
import Derived.Test.YthjfeanmgaidcaaChecked
import GoSem.Claim
import GoSem.ClaimJoined
import GoSem.ClaimMapViews
import Derived.JoinedTies
import Derived.KernelRfl
namespace Go.Proofs.Ythjfeanmgaidcaa
/- THE CELL 'sum', in the pinned program and in every row, IS THE sha256 OF THE DUMP (.gsa) THAT YthjfeanmgaidcaaProg.lean LOADS. Nothing in Lean hashes anything: it is a label: what it is worth is what the hold of that sum in a sandbox is worth. -/
noncomputable def Try.pinned : Pinned := { name := "ythjfeanmgaidcaa", sum := "372850aa8317df8203ae03ac43535006bb1372a20e2fb0fcde30b6ee8666a9d5", checked := Try.checked }
namespace Rows
def none {H : Type} : Left H := { results := [], args := [] }

/-- 'tolllaw09.DhcpBack': WHATEVER THE INPUT: true; the input reads as it did. -/
def dhcpBackSpec : ChangeSpec := { name := "dhcpBack", fn := fun _ => fun
  | [d1, d2, d3] => { results := [.lit (.bool true)], args := [d1, d2, d3] }
  | _ => none }
def dhcpBackRow : OpenClaim := { program := "ythjfeanmgaidcaa", sum := "372850aa8317df8203ae03ac43535006bb1372a20e2fb0fcde30b6ee8666a9d5", func := "toll/tolllaw09.DhcpBack", spec := "dhcpBack", apart := false }
def DhcpBackSaid : Prop := dhcpBackRow.holds Try.pinned (OpenSpec.ofChange dhcpBackSpec)

/-- ITS FALSE NEIGHBOUR: 'it returns false'. Refute it at one input. -/
def dhcpBackWrong : ChangeSpec := { name := "dhcpBack", fn := fun _ => fun
  | [d1, d2, d3] => { results := [.lit (.bool false)], args := [d1, d2, d3] }
  | _ => none }
def DhcpBackWrongFalsely : Prop := dhcpBackRow.holds Try.pinned (OpenSpec.ofChange dhcpBackWrong)

/-- 'tolllaw10.BpduBack': WHATEVER THE INPUT: true; the input reads as it did. -/
def bpduBackSpec : ChangeSpec := { name := "bpduBack", fn := fun _ => fun
  | [d1, d2, d3, d4, d5] => { results := [.lit (.bool true)], args := [d1, d2, d3, d4, d5] }
  | _ => none }
def bpduBackRow : OpenClaim := { program := "ythjfeanmgaidcaa", sum := "372850aa8317df8203ae03ac43535006bb1372a20e2fb0fcde30b6ee8666a9d5", func := "toll/tolllaw10.BpduBack", spec := "bpduBack", unfollowed := true, recurses := true, apart := false }
def BpduBackSaid : Prop := bpduBackRow.holds Try.pinned (OpenSpec.ofChange bpduBackSpec)

/-- ITS FALSE NEIGHBOUR: 'it returns false'. Refute it at one input. -/
def bpduBackWrong : ChangeSpec := { name := "bpduBack", fn := fun _ => fun
  | [d1, d2, d3, d4, d5] => { results := [.lit (.bool false)], args := [d1, d2, d3, d4, d5] }
  | _ => none }
def BpduBackWrongFalsely : Prop := bpduBackRow.holds Try.pinned (OpenSpec.ofChange bpduBackWrong)

/-- 'tolllaw10.BpduIs': WHATEVER THE INPUT: true; the input reads as it did. -/
def bpduIsSpec : ChangeSpec := { name := "bpduIs", fn := fun _ => fun
  | [d1, d2, d3, d4] => { results := [.lit (.bool true)], args := [d1, d2, d3, d4] }
  | _ => none }
def bpduIsRow : OpenClaim := { program := "ythjfeanmgaidcaa", sum := "372850aa8317df8203ae03ac43535006bb1372a20e2fb0fcde30b6ee8666a9d5", func := "toll/tolllaw10.BpduIs", spec := "bpduIs", apart := false }
def BpduIsSaid : Prop := bpduIsRow.holds Try.pinned (OpenSpec.ofChange bpduIsSpec)

/-- ITS FALSE NEIGHBOUR: 'it returns false'. Refute it at one input. -/
def bpduIsWrong : ChangeSpec := { name := "bpduIs", fn := fun _ => fun
  | [d1, d2, d3, d4] => { results := [.lit (.bool false)], args := [d1, d2, d3, d4] }
  | _ => none }
def BpduIsWrongFalsely : Prop := bpduIsRow.holds Try.pinned (OpenSpec.ofChange bpduIsWrong)

/- THE SECOND FORM. 'bulk': how many values and letters a reading holds, each counted each time it is reached (what is shared counts as often as it is met; a slice's spare places count too). A statement '..UptoSaid' is the law's where the arguments, and the package variables that the reading takes, are together of bulk at most 1048576: NARROWER than '..Said'. Prove '..Said' where nothing that the law and all that it calls make is longer than what came in: it says more and counts as full. Else prove '..UptoSaid'. A law counts once. -/
mutual
def uptoBulk {H : Type} : DataW H → Nat
  | .lit (.string bytes) => bytes.length + 1
  | .lit _ => 1
  | .nil => 1
  | .ptr d => uptoBulk d + 1
  | .slice elems spare => uptoBulkAll elems + uptoBulkAll spare + 1
  | .agg parts => uptoBulkAll parts + 1
  | .iface _ d => uptoBulk d + 1
  | .map entries => uptoBulkEntries entries + 1
  | .held _ => 1
def uptoBulkAll {H : Type} : List (DataW H) → Nat
  | [] => 0
  | d :: r => uptoBulk d + uptoBulkAll r
def uptoBulkEntries {H : Type} : List (Lit × DataW H) → Nat
  | [] => 0
  | x :: r => uptoBulkEntry x + uptoBulkEntries r
def uptoBulkEntry {H : Type} : Lit × DataW H → Nat
  | (.string bytes, d) => bytes.length + uptoBulk d + 1
  | (_, d) => uptoBulk d + 1
 end
def uptoSmall : (H : Type) → List (DataW H) → Bool := fun _ ds => decide (uptoBulkAll ds ≤ 1048576)
def OpenSpec.upto (s : _root_.Go.ChangeSpec) : _root_.Go.OpenSpec := { _root_.Go.OpenSpec.ofChange s with cond := some uptoSmall }

/-- 'tolllaw09.DhcpBack', WHERE WHAT IT READS IS OF BULK AT MOST 1048576: true; the input reads as it did. -/
def dhcpBackUptoRow : OpenClaim := { program := "ythjfeanmgaidcaa", sum := "372850aa8317df8203ae03ac43535006bb1372a20e2fb0fcde30b6ee8666a9d5", func := "toll/tolllaw09.DhcpBack", spec := "dhcpBack", apart := false, narrowed := true }
def DhcpBackUptoSaid : Prop := dhcpBackUptoRow.holds Try.pinned (OpenSpec.upto dhcpBackSpec)

/-- 'tolllaw10.BpduBack', WHERE WHAT IT READS IS OF BULK AT MOST 1048576: true; the input reads as it did. -/
def bpduBackUptoRow : OpenClaim := { program := "ythjfeanmgaidcaa", sum := "372850aa8317df8203ae03ac43535006bb1372a20e2fb0fcde30b6ee8666a9d5", func := "toll/tolllaw10.BpduBack", spec := "bpduBack", unfollowed := true, recurses := true, apart := false, narrowed := true }
def BpduBackUptoSaid : Prop := bpduBackUptoRow.holds Try.pinned (OpenSpec.upto bpduBackSpec)

/-- 'tolllaw10.BpduIs', WHERE WHAT IT READS IS OF BULK AT MOST 1048576: true; the input reads as it did. -/
def bpduIsUptoRow : OpenClaim := { program := "ythjfeanmgaidcaa", sum := "372850aa8317df8203ae03ac43535006bb1372a20e2fb0fcde30b6ee8666a9d5", func := "toll/tolllaw10.BpduIs", spec := "bpduIs", apart := false, narrowed := true }
def BpduIsUptoSaid : Prop := bpduIsUptoRow.holds Try.pinned (OpenSpec.upto bpduIsSpec)

end Rows
end Go.Proofs.Ythjfeanmgaidcaa
