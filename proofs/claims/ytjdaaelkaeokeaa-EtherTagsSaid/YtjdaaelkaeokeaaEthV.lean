/- Bits of int. -/
import Derived.Test.YtjdaaelkaeokeaaEthT
import Derived.Laws.BitsAllLaws
namespace Go.Proofs.Ytjdaaelkaeokeaa
open Go.RowKit Go.Sort
theorem i64_or_nat (a b : Nat) (ha : a < 9223372036854775808) (hb : b < 9223372036854775808) : bits .or .i64 (a : Int) (b : Int) = ((a ||| b : Nat) : Int) := by
  have hx : a ||| b < 2 ^ 63 := Nat.or_lt_two_pow (by omega) (by omega)
  show IntKind.i64.wrap ((BitVec.ofInt 64 (a : Int) ||| BitVec.ofInt 64 (b : Int)).toNat : Int) = _
  rw [BitVec.toNat_or, ofInt_u64 a (by omega), ofInt_u64 b (by omega)]
  rw [IntKind.wrap_i64]
  omega
theorem or_pq (p q : UInt8) : bits .or .i64 ((p.toNat : Int) * 256) (q.toNat : Int) = ((p.toNat * 256 + q.toNat : Nat) : Int) := by
  have hp := p.toNat_lt
  have hq := q.toNat_lt
  have e : ((p.toNat : Int) * 256) = ((p.toNat * 256 : Nat) : Int) := by omega
  rw [e, i64_or_nat _ _ (by omega) (by omega), nat_join 8 _ _ (by omega) (by omega)]
end Go.Proofs.Ytjdaaelkaeokeaa
