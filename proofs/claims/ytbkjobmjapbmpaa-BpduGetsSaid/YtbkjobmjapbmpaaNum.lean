/- Numbers and their bytes, in plain words. Nothing of the program is named here. -/
import Derived.Test.YtbkjobmjapbmpaaMem
namespace Go.Proofs.Ytbkjobmjapbmpaa
set_option linter.unusedVariables false

/-- A number out of bytes, the highest first. -/
def numM (l : List UInt8) : Nat := l.foldl (fun a b => a * 256 + b.toNat) 0
theorem numM_snoc (l : List UInt8) (b : UInt8) : numM (l ++ [b]) = numM l * 256 + b.toNat := by simp [numM]
theorem foldn_lt (l : List UInt8) (a : Nat) : l.foldl (fun a b => a * 256 + b.toNat) a < (a + 1) * 256 ^ l.length := by
  induction l generalizing a with
  | nil => simp
  | cons b l ih =>
    have h1 := ih (a * 256 + b.toNat)
    have h2 := b.toNat_lt
    have h3 : (a * 256 + b.toNat + 1) * 256 ^ l.length ≤ (a + 1) * 256 * 256 ^ l.length := Nat.mul_le_mul_right _ (by omega)
    simp only [List.foldl_cons, List.length_cons, Nat.pow_succ]
    rw [Nat.mul_comm (256 ^ l.length) 256, ← Nat.mul_assoc]
    omega
theorem numM_lt (l : List UInt8) : numM l < 256 ^ l.length := by have := foldn_lt l 0; simpa [numM] using this
theorem six_of (l : List UInt8) (h : l.length = 6) : ∃ a b c d e f, l = [a, b, c, d, e, f] := by
  match l, h with
  | [a, b, c, d, e, f], _ => exact ⟨a, b, c, d, e, f, rfl⟩
/-- A number's bytes, W of them, the highest first. -/
def beM (W x : Nat) : List UInt8 := (List.range W).map fun j => UInt8.ofNat (x / 2 ^ (8 * (W - 1 - j)))
theorem beM_len (W x : Nat) : (beM W x).length = W := by simp [beM]
def beAll (W : Nat) (xs : List Nat) : List UInt8 := (xs.map (beM W)).flatten
theorem beAll_snoc (W : Nat) (xs : List Nat) (k : Nat) (h : k < xs.length) : beAll W (xs.take (k + 1)) = beAll W (xs.take k) ++ beM W xs[k] := by
  rw [List.take_succ_eq_append_getElem h]
  simp only [beAll, List.map_append, List.flatten_append, List.map_cons, List.map_nil, List.flatten_cons, List.flatten_nil, List.append_nil]
theorem beAll_len (W : Nat) (xs : List Nat) : (beAll W xs).length = xs.length * W := by
  induction xs with
  | nil => simp [beAll]
  | cons x xs ih => simp only [beAll, List.map_cons, List.flatten_cons, List.length_append, beM_len, List.length_cons] at ih ⊢; rw [ih, Nat.add_mul]; omega
theorem bys_set (l : List UInt8) (i : Nat) (b : UInt8) : (bys l).set i (.int .u8 (b.toNat : Int)) = bys (l.set i b) := by simp [bys, List.map_set]
end Go.Proofs.Ytbkjobmjapbmpaa
