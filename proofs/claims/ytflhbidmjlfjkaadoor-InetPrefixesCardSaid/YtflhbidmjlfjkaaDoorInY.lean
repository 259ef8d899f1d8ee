/- Package inet: what Get and Cut answer. -/
import Derived.Test.YtflhbidmjlfjkaaDoorInJ
import Derived.Test.YtflhbidmjlfjkaaDoorInL
namespace Go.Proofs.YtflhbidmjlfjkaaDoor
open Go.RowKit Go.Sort
set_option linter.unusedVariables false

/-- Bytes that stand in new memory. -/
def NewB (w w' : World) (A : Option Addr) (n c : Nat) (l : List UInt8) : Prop := Byt w' A n c l ∧ ∀ i, Lies A n i → w.heap.size ≤ i
/-- What Get and Cut answer. -/
def GetIs (w : World) (e : Ending) (w' : World) (r : Hd × List UInt8 × Int) : Prop := ∃ A1 n1 c1 A2 n2 c2, e = .returned (.tuple #[.agg (hcs r.1 A1 n1 c1).toArray, .slice A2 n2 c2, .int .i64 r.2.2]) ∧ NewB w w' A1 n1 c1 r.1.x ∧ NewB w w' A2 n2 c2 r.2.1 ∧ Kept Nil w w'
end Go.Proofs.YtflhbidmjlfjkaaDoor
