/- tolllaw04.EtherSnap: the walk, as its arguments are handed. -/
import Derived.Test.YtjdaaelkaeokeaaEthSn
import Derived.Test.YtjdaaelkaeokeaaEthFr
namespace Go.Proofs.Ytjdaaelkaeokeaa
open Go.RowKit Go.Sort
theorem esnap_go (a : Int) (B : Option Addr) (nb cb : Nat) (bl : List UInt8) (R : Option Addr) (nr cr : Nat) (rl : List UInt8) (o : List UInt8) (w : World) (ha : (Lit.int .u16 a).wf = true) (hb : Byt w B nb cb bl) (hr : Byt w R nr cr rl) (ho : o.length = 3) :
    Calls Try.prog 7 #[.int .u16 a, .slice B nb cb, .slice R nr cr, .agg (bys o).toArray] w fun e w' => e = .returned (.bool true) ∧ Below w.heap.size w w' :=
  esnap_yes a B nb cb bl R nr cr rl o w (by have := wfu16 a ha; omega) hb hr ho
end Go.Proofs.Ytjdaaelkaeokeaa
