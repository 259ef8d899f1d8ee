/- Contracts of package mac: addresses as arrays of six bytes: Number, Of, IsGroup, Bits, Masked, Kind. -/
import Derived.Test.YtflhbidmjlfjkaaDoorProg
import Derived.Test.YtflhbidmjlfjkaaDoorMem
import Derived.WalkSpells
import Derived.WalkLawsBesides
import Derived.Deep.QuietTactic
import Derived.BigQuiet
import Derived.BigRegion
import Derived.Lib.Hide
import Derived.Outline
import Derived.Handy
import Derived.Stop.BytesEq
namespace Go.Proofs.YtflhbidmjlfjkaaDoor
open Go.RowKit
set_option linter.unusedVariables false

theorem msiz5 (w : World) : (sizeOf 5).run Tryd.prog w = .ok 1 w := by kernel_rfl
/-- An address as a value. -/
def mv (l : List UInt8) : Value := .agg (bys l).toArray
theorem mv6 (a b c d e f : UInt8) : mv [a, b, c, d, e, f] = .agg #[.int .u8 (a.toNat : Int), .int .u8 (b.toNat : Int), .int .u8 (c.toNat : Int), .int .u8 (d.toNat : Int), .int .u8 (e.toNat : Int), .int .u8 (f.toNat : Int)] := rfl
theorem six (l : List UInt8) (h : l.length = 6) : ∃ a b c d e f, l = [a, b, c, d, e, f] := by
  match l, h with
  | [a, b, c, d, e, f], _ => exact ⟨a, b, c, d, e, f, rfl⟩
/-- The number of bytes, the highest first. -/
def numL (l : List UInt8) : Nat := l.foldl (fun a b => a * 256 + b.toNat) 0
/-- The address of a number's lowest 48 bits. -/
def ofL (n : Nat) : List UInt8 := [UInt8.ofNat (n / 2 ^ 40), UInt8.ofNat (n / 2 ^ 32), UInt8.ofNat (n / 2 ^ 24), UInt8.ofNat (n / 2 ^ 16), UInt8.ofNat (n / 2 ^ 8), UInt8.ofNat n]
def andL (l m : List UInt8) : List UInt8 := List.zipWith (· &&& ·) l m

theorem join64 (a : Nat) (b : UInt8) (ha : a < 281474976710656) : bits .or .u64 (IntKind.u64.wrap ((a : Int) * 256)) (IntKind.u64.wrap (b.toNat : Int)) = ((a * 256 + b.toNat : Nat) : Int) := by
  have hb := b.toNat_lt
  rw [IntWalk.u64_in _ (by omega), IntWalk.u64_in (b.toNat : Int) (by omega)]
  have e : ((a : Int) * 256) = ((a * 256 : Nat) : Int) := by omega
  rw [e, u64_or_nat _ _ (by omega) (by omega), nat_join 8 _ _ (by omega) (by omega)]
theorem numL_snoc (l : List UInt8) (b : UInt8) : numL (l ++ [b]) = numL l * 256 + b.toNat := by simp [numL]
theorem numL_lt (l : List UInt8) : numL l < 256 ^ l.length := by
  suffices ∀ (l : List UInt8) (a : Nat), l.foldl (fun a b => a * 256 + b.toNat) a < (a + 1) * 256 ^ l.length by
    have := this l 0; simpa [numL] using this
  intro l
  induction l with
  | nil => intro a; simp
  | cons b l ih =>
    intro a
    have h := ih (a * 256 + b.toNat)
    have hb := b.toNat_lt
    simp only [List.foldl_cons, List.length_cons, Nat.pow_succ]
    refine Nat.lt_of_lt_of_le h ?_
    rw [Nat.mul_comm (256 ^ l.length) 256, ← Nat.mul_assoc]
    exact Nat.mul_le_mul_right _ (by omega)

theorem u8_of (n : Nat) (x : Int) (hx : x = (n : Int)) : x % 256 = ((UInt8.ofNat n).toNat : Int) := by rw [UInt8.toNat_ofNat']; omega
theorem and8 (a b : UInt8) : bits .and .u8 (a.toNat : Int) (b.toNat : Int) = ((a &&& b).toNat : Int) := by
  rw [u8_and_nat _ _ a.toNat_lt b.toNat_lt, UInt8.toNat_and]
/-- The mask of k bits. -/
def maskL (k : Nat) : List UInt8 := ofL (2 ^ 64 - 2 ^ (48 - k))
theorem shl48 : ∀ k : Fin 49, IntKind.u64.wrap (18446744073709551615 * 2 ^ (48 - k.val)) = ((2 ^ 64 - 2 ^ (48 - k.val) : Nat) : Int) := by decide +kernel
theorem and1 (a : UInt8) : bits .and .u8 (a.toNat : Int) 1 = ((a.toNat % 2 : Nat) : Int) := by
  have := u8_and_nat a.toNat 1 a.toNat_lt (by omega)
  rw [show ((1 : Nat) : Int) = 1 from rfl] at this
  rw [this, show (1 : Nat) = 2 ^ 1 - 1 from rfl, Nat.and_two_pow_sub_one_eq_mod]
/-- Whether an address is a reserved one. -/
def rsvL (l : List UInt8) : Bool := match l with
  | [a, b, c, d, e, f] => decide ([a, b, c, d, e] = [1, 128, 194, 0, 0] ∧ f.toNat < 16)
  | _ => false
end Go.Proofs.YtflhbidmjlfjkaaDoor
