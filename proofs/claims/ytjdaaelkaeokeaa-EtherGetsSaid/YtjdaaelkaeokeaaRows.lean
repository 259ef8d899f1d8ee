/-
  No cell of these rows narrows 'for every input' (looked for: loops, veiled, ifaces, maps, wideKeys, modest, calm, conditions, laid).
  DERIVED. THE GIVEN ROWS OF THIS SEAT. 6 by the template 'for every input the law returns true; each argument reads behind the call as it read before'; 0 by the template 'total and deterministic' (their statements: YtjdaaelkaeokeaaTotals.lean).
  GIVEN WITH THE SEED: the statements are not yours to turn. If you find one false, say at which input.
  Laid BY PROGRAM, IN A SANDBOX (cutbox-rows.mjs): the forced cells as the released guide's own fill.sh prints them over the translation ffbc2af62291e5b6… (all of the seat's roots in one cut). By AI agents, Wed Nov 11 2026. No macro, syntax, notation, axiom, sorry.
-/
import Derived.Test.YtjdaaelkaeokeaaChecked
import GoSem.Claim
import GoSem.ClaimJoined
import GoSem.ClaimMapViews
import Derived.JoinedTies
import Derived.KernelRfl
namespace Go.Proofs.Ytjdaaelkaeokeaa
/- THE CELL 'sum', in the pinned program and in every row, IS THE sha256 OF THE DUMP (.gsa) THAT YtjdaaelkaeokeaaProg.lean LOADS. Nothing in Lean hashes anything: it is a label: what it is worth is what the hold of that sum in a sandbox is worth. -/
noncomputable def Try.pinned : Pinned := { name := "ytjdaaelkaeokeaa", sum := "ffbc2af62291e5b63e90125162b24cbcd39adeb6be74dd786779b3476bb8e42e", checked := Try.checked }
namespace Rows
def none {H : Type} : Left H := { results := [], args := [] }

/-- 'tolllaw04.EtherPuts': WHATEVER THE INPUT: true; the input reads as it did. -/
def etherPutsSpec : ChangeSpec := { name := "etherPuts", fn := fun _ => fun
  | [d] => { results := [.lit (.bool true)], args := [d] }
  | _ => none }
def etherPutsRow : OpenClaim := { program := "ytjdaaelkaeokeaa", sum := "ffbc2af62291e5b63e90125162b24cbcd39adeb6be74dd786779b3476bb8e42e", func := "toll/tolllaw04.EtherPuts", spec := "etherPuts", unfollowed := true, recurses := true, apart := false }
def EtherPutsSaid : Prop := etherPutsRow.holds Try.pinned (OpenSpec.ofChange etherPutsSpec)

/-- ITS FALSE NEIGHBOUR: 'it returns false'. Refute it at one input. -/
def etherPutsWrong : ChangeSpec := { name := "etherPuts", fn := fun _ => fun
  | [d] => { results := [.lit (.bool false)], args := [d] }
  | _ => none }
def EtherPutsWrongFalsely : Prop := etherPutsRow.holds Try.pinned (OpenSpec.ofChange etherPutsWrong)

/-- 'tolllaw04.EtherGets': WHATEVER THE INPUT: true; the input reads as it did. -/
def etherGetsSpec : ChangeSpec := { name := "etherGets", fn := fun _ => fun
  | [d] => { results := [.lit (.bool true)], args := [d] }
  | _ => none }
def etherGetsRow : OpenClaim := { program := "ytjdaaelkaeokeaa", sum := "ffbc2af62291e5b63e90125162b24cbcd39adeb6be74dd786779b3476bb8e42e", func := "toll/tolllaw04.EtherGets", spec := "etherGets", unfollowed := true, recurses := true, apart := false }
def EtherGetsSaid : Prop := etherGetsRow.holds Try.pinned (OpenSpec.ofChange etherGetsSpec)

/-- ITS FALSE NEIGHBOUR: 'it returns false'. Refute it at one input. -/
def etherGetsWrong : ChangeSpec := { name := "etherGets", fn := fun _ => fun
  | [d] => { results := [.lit (.bool false)], args := [d] }
  | _ => none }
def EtherGetsWrongFalsely : Prop := etherGetsRow.holds Try.pinned (OpenSpec.ofChange etherGetsWrong)

/-- 'tolllaw04.EtherBack': WHATEVER THE INPUT: true; the input reads as it did. -/
def etherBackSpec : ChangeSpec := { name := "etherBack", fn := fun _ => fun
  | [d1, d2] => { results := [.lit (.bool true)], args := [d1, d2] }
  | _ => none }
def etherBackRow : OpenClaim := { program := "ytjdaaelkaeokeaa", sum := "ffbc2af62291e5b63e90125162b24cbcd39adeb6be74dd786779b3476bb8e42e", func := "toll/tolllaw04.EtherBack", spec := "etherBack", unfollowed := true, recurses := true, apart := false }
def EtherBackSaid : Prop := etherBackRow.holds Try.pinned (OpenSpec.ofChange etherBackSpec)

/-- ITS FALSE NEIGHBOUR: 'it returns false'. Refute it at one input. -/
def etherBackWrong : ChangeSpec := { name := "etherBack", fn := fun _ => fun
  | [d1, d2] => { results := [.lit (.bool false)], args := [d1, d2] }
  | _ => none }
def EtherBackWrongFalsely : Prop := etherBackRow.holds Try.pinned (OpenSpec.ofChange etherBackWrong)

/-- 'tolllaw04.EtherTags': WHATEVER THE INPUT: true; the input reads as it did. -/
def etherTagsSpec : ChangeSpec := { name := "etherTags", fn := fun _ => fun
  | [d1, d2] => { results := [.lit (.bool true)], args := [d1, d2] }
  | _ => none }
def etherTagsRow : OpenClaim := { program := "ytjdaaelkaeokeaa", sum := "ffbc2af62291e5b63e90125162b24cbcd39adeb6be74dd786779b3476bb8e42e", func := "toll/tolllaw04.EtherTags", spec := "etherTags", unfollowed := true, recurses := true, apart := false }
def EtherTagsSaid : Prop := etherTagsRow.holds Try.pinned (OpenSpec.ofChange etherTagsSpec)

/-- ITS FALSE NEIGHBOUR: 'it returns false'. Refute it at one input. -/
def etherTagsWrong : ChangeSpec := { name := "etherTags", fn := fun _ => fun
  | [d1, d2] => { results := [.lit (.bool false)], args := [d1, d2] }
  | _ => none }
def EtherTagsWrongFalsely : Prop := etherTagsRow.holds Try.pinned (OpenSpec.ofChange etherTagsWrong)

/-- 'tolllaw04.EtherSnap': WHATEVER THE INPUT: true; the input reads as it did. -/
def etherSnapSpec : ChangeSpec := { name := "etherSnap", fn := fun _ => fun
  | [d1, d2, d3, d4] => { results := [.lit (.bool true)], args := [d1, d2, d3, d4] }
  | _ => none }
def etherSnapRow : OpenClaim := { program := "ytjdaaelkaeokeaa", sum := "ffbc2af62291e5b63e90125162b24cbcd39adeb6be74dd786779b3476bb8e42e", func := "toll/tolllaw04.EtherSnap", spec := "etherSnap", unfollowed := true, recurses := true, apart := false }
def EtherSnapSaid : Prop := etherSnapRow.holds Try.pinned (OpenSpec.ofChange etherSnapSpec)

/-- ITS FALSE NEIGHBOUR: 'it returns false'. Refute it at one input. -/
def etherSnapWrong : ChangeSpec := { name := "etherSnap", fn := fun _ => fun
  | [d1, d2, d3, d4] => { results := [.lit (.bool false)], args := [d1, d2, d3, d4] }
  | _ => none }
def EtherSnapWrongFalsely : Prop := etherSnapRow.holds Try.pinned (OpenSpec.ofChange etherSnapWrong)

/-- 'tolllaw04.EtherKnown': WHATEVER THE INPUT: true; the input reads as it did. -/
def etherKnownSpec : ChangeSpec := { name := "etherKnown", fn := fun _ => fun
  | [] => { results := [.lit (.bool true)], args := [] }
  | _ => none }
def etherKnownRow : OpenClaim := { program := "ytjdaaelkaeokeaa", sum := "ffbc2af62291e5b63e90125162b24cbcd39adeb6be74dd786779b3476bb8e42e", func := "toll/tolllaw04.EtherKnown", spec := "etherKnown", unfollowed := true, recurses := true, apart := false }
def EtherKnownSaid : Prop := etherKnownRow.holds Try.pinned (OpenSpec.ofChange etherKnownSpec)

/-- ITS FALSE NEIGHBOUR: 'it returns false'. Refute it at one input. -/
def etherKnownWrong : ChangeSpec := { name := "etherKnown", fn := fun _ => fun
  | [] => { results := [.lit (.bool false)], args := [] }
  | _ => none }
def EtherKnownWrongFalsely : Prop := etherKnownRow.holds Try.pinned (OpenSpec.ofChange etherKnownWrong)

/- THE SECOND FORM. 'bulk': how many values and letters a reading holds, each counted each time it is reached (what is shared counts as often as it is met; a slice's spare places count too). A statement '..UptoSaid' is the law's where the arguments, and the package variables that the reading takes, are together of bulk at most 1048576: NARROWER than '..Said'. Prove '..Said' where nothing that the law and all that it calls make is longer than what came in: it says more and counts as full. Else prove '..UptoSaid'. A law counts once. -/
mutual
def uptoBulk {H : Type} : DataW H → Nat
  | .lit (.string bytes) => bytes.length + 1
  | .lit _ => 1
  | .nil => 1
  | .ptr d => uptoBulk d + 1
  | .slice elems spare => uptoBulkAll elems + uptoBulkAll spare + 1
  | .agg parts => uptoBulkAll parts + 1
  | .iface _ d => uptoBulk d + 1
  | .map entries => uptoBulkEntries entries + 1
  | .held _ => 1
def uptoBulkAll {H : Type} : List (DataW H) → Nat
  | [] => 0
  | d :: r => uptoBulk d + uptoBulkAll r
def uptoBulkEntries {H : Type} : List (Lit × DataW H) → Nat
  | [] => 0
  | x :: r => uptoBulkEntry x + uptoBulkEntries r
def uptoBulkEntry {H : Type} : Lit × DataW H → Nat
  | (.string bytes, d) => bytes.length + uptoBulk d + 1
  | (_, d) => uptoBulk d + 1
 end
def uptoSmall : (H : Type) → List (DataW H) → Bool := fun _ ds => decide (uptoBulkAll ds ≤ 1048576)
def OpenSpec.upto (s : _root_.Go.ChangeSpec) : _root_.Go.OpenSpec := { _root_.Go.OpenSpec.ofChange s with cond := some uptoSmall }

/-- 'tolllaw04.EtherPuts', WHERE WHAT IT READS IS OF BULK AT MOST 1048576: true; the input reads as it did. -/
def etherPutsUptoRow : OpenClaim := { program := "ytjdaaelkaeokeaa", sum := "ffbc2af62291e5b63e90125162b24cbcd39adeb6be74dd786779b3476bb8e42e", func := "toll/tolllaw04.EtherPuts", spec := "etherPuts", unfollowed := true, recurses := true, apart := false, narrowed := true }
def EtherPutsUptoSaid : Prop := etherPutsUptoRow.holds Try.pinned (OpenSpec.upto etherPutsSpec)

/-- 'tolllaw04.EtherGets', WHERE WHAT IT READS IS OF BULK AT MOST 1048576: true; the input reads as it did. -/
def etherGetsUptoRow : OpenClaim := { program := "ytjdaaelkaeokeaa", sum := "ffbc2af62291e5b63e90125162b24cbcd39adeb6be74dd786779b3476bb8e42e", func := "toll/tolllaw04.EtherGets", spec := "etherGets", unfollowed := true, recurses := true, apart := false, narrowed := true }
def EtherGetsUptoSaid : Prop := etherGetsUptoRow.holds Try.pinned (OpenSpec.upto etherGetsSpec)

/-- 'tolllaw04.EtherBack', WHERE WHAT IT READS IS OF BULK AT MOST 1048576: true; the input reads as it did. -/
def etherBackUptoRow : OpenClaim := { program := "ytjdaaelkaeokeaa", sum := "ffbc2af62291e5b63e90125162b24cbcd39adeb6be74dd786779b3476bb8e42e", func := "toll/tolllaw04.EtherBack", spec := "etherBack", unfollowed := true, recurses := true, apart := false, narrowed := true }
def EtherBackUptoSaid : Prop := etherBackUptoRow.holds Try.pinned (OpenSpec.upto etherBackSpec)

/-- 'tolllaw04.EtherTags', WHERE WHAT IT READS IS OF BULK AT MOST 1048576: true; the input reads as it did. -/
def etherTagsUptoRow : OpenClaim := { program := "ytjdaaelkaeokeaa", sum := "ffbc2af62291e5b63e90125162b24cbcd39adeb6be74dd786779b3476bb8e42e", func := "toll/tolllaw04.EtherTags", spec := "etherTags", unfollowed := true, recurses := true, apart := false, narrowed := true }
def EtherTagsUptoSaid : Prop := etherTagsUptoRow.holds Try.pinned (OpenSpec.upto etherTagsSpec)

/-- 'tolllaw04.EtherSnap', WHERE WHAT IT READS IS OF BULK AT MOST 1048576: true; the input reads as it did. -/
def etherSnapUptoRow : OpenClaim := { program := "ytjdaaelkaeokeaa", sum := "ffbc2af62291e5b63e90125162b24cbcd39adeb6be74dd786779b3476bb8e42e", func := "toll/tolllaw04.EtherSnap", spec := "etherSnap", unfollowed := true, recurses := true, apart := false, narrowed := true }
def EtherSnapUptoSaid : Prop := etherSnapUptoRow.holds Try.pinned (OpenSpec.upto etherSnapSpec)

/-- 'tolllaw04.EtherKnown', WHERE WHAT IT READS IS OF BULK AT MOST 1048576: true; the input reads as it did. -/
def etherKnownUptoRow : OpenClaim := { program := "ytjdaaelkaeokeaa", sum := "ffbc2af62291e5b63e90125162b24cbcd39adeb6be74dd786779b3476bb8e42e", func := "toll/tolllaw04.EtherKnown", spec := "etherKnown", unfollowed := true, recurses := true, apart := false, narrowed := true }
def EtherKnownUptoSaid : Prop := etherKnownUptoRow.holds Try.pinned (OpenSpec.upto etherKnownSpec)

end Rows
end Go.Proofs.Ytjdaaelkaeokeaa
