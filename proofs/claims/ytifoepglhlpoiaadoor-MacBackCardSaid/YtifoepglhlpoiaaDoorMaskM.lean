/- Plain facts on addresses' masks, for MacMasks. -/
import Derived.Test.YtifoepglhlpoiaaDoorMacB
namespace Go.Proofs.YtifoepglhlpoiaaDoor
open Go.RowKit
set_option linter.unusedVariables false

theorem xorj (x y p q : Nat) (hp : p < 256) (hq : q < 256) : (x * 256 + p) ^^^ (y * 256 + q) = (x ^^^ y) * 256 + (p ^^^ q) := by
  have hpq : p ^^^ q < 2 ^ 8 := Nat.xor_lt_two_pow (by omega) (by omega)
  apply Nat.eq_of_testBit_eq
  intro j
  rw [Nat.testBit_xor, Nat.mul_comm x, Nat.mul_comm y, Nat.mul_comm (x ^^^ y), Nat.testBit_two_pow_mul_add x (i := 8) (by omega), Nat.testBit_two_pow_mul_add y (i := 8) (by omega), Nat.testBit_two_pow_mul_add (x ^^^ y) (i := 8) hpq]
  split <;> simp [Nat.testBit_xor]
theorem andj (x y p q : Nat) (hp : p < 256) (hq : q < 256) : (x * 256 + p) &&& (y * 256 + q) = (x &&& y) * 256 + (p &&& q) := by
  have hpq : p &&& q < 2 ^ 8 := Nat.and_lt_two_pow p (by omega)
  apply Nat.eq_of_testBit_eq
  intro j
  rw [Nat.testBit_and, Nat.mul_comm x, Nat.mul_comm y, Nat.mul_comm (x &&& y), Nat.testBit_two_pow_mul_add x (i := 8) (by omega), Nat.testBit_two_pow_mul_add y (i := 8) (by omega), Nat.testBit_two_pow_mul_add (x &&& y) (i := 8) hpq]
  split <;> simp [Nat.testBit_and]
theorem num6 (a b c d e f : UInt8) : numL [a, b, c, d, e, f] = (((((0 * 256 + a.toNat) * 256 + b.toNat) * 256 + c.toNat) * 256 + d.toNat) * 256 + e.toNat) * 256 + f.toNat := by simp [numL]
theorem byte_differ (a b c : UInt8) : (a.toNat ^^^ b.toNat) &&& c.toNat = 0 ↔ b &&& c = a &&& c := by
  rw [Nat.and_xor_distrib_right, ← UInt8.toNat_and, ← UInt8.toNat_and, ← UInt8.toNat_xor]
  constructor
  · intro h
    have : (a &&& c) ^^^ (b &&& c) = 0 := UInt8.toNat_inj.1 h
    exact (UInt8.xor_eq_zero_iff.1 this).symm
  · intro h
    rw [UInt8.xor_eq_zero_iff.2 h.symm]
    rfl
theorem num_lt (a b c d e f : UInt8) : numL [a, b, c, d, e, f] < 281474976710656 := by
  have h := numL_lt [a, b, c, d, e, f]
  simpa using h
/-- Two numbers differ under a third just where the masked addresses do. -/
theorem differ_eq (a0 a1 a2 a3 a4 a5 b0 b1 b2 b3 b4 b5 c0 c1 c2 c3 c4 c5 : UInt8) :
    (bits .and .u64 (bits .xor .u64 (numL [a0, a1, a2, a3, a4, a5] : Int) (numL [b0, b1, b2, b3, b4, b5] : Int)) (numL [c0, c1, c2, c3, c4, c5] : Int) == 0) = (andL [b0, b1, b2, b3, b4, b5] [c0, c1, c2, c3, c4, c5] == andL [a0, a1, a2, a3, a4, a5] [c0, c1, c2, c3, c4, c5]) := by
  have ha := num_lt a0 a1 a2 a3 a4 a5
  have hb := num_lt b0 b1 b2 b3 b4 b5
  have hc := num_lt c0 c1 c2 c3 c4 c5
  have hx : numL [a0, a1, a2, a3, a4, a5] ^^^ numL [b0, b1, b2, b3, b4, b5] < 2 ^ 48 := Nat.xor_lt_two_pow (by omega) (by omega)
  rw [u64_xor_nat _ _ (by omega) (by omega), u64_and_nat _ _ (by omega) (by omega)]
  have d0 := byte_differ a0 b0 c0
  have d1 := byte_differ a1 b1 c1
  have d2 := byte_differ a2 b2 c2
  have d3 := byte_differ a3 b3 c3
  have d4 := byte_differ a4 b4 c4
  have d5 := byte_differ a5 b5 c5
  have hn : (numL [a0, a1, a2, a3, a4, a5] ^^^ numL [b0, b1, b2, b3, b4, b5]) &&& numL [c0, c1, c2, c3, c4, c5] =
      (((((0 * 256 + ((a0.toNat ^^^ b0.toNat) &&& c0.toNat)) * 256 + ((a1.toNat ^^^ b1.toNat) &&& c1.toNat)) * 256 + ((a2.toNat ^^^ b2.toNat) &&& c2.toNat)) * 256 + ((a3.toNat ^^^ b3.toNat) &&& c3.toNat)) * 256 + ((a4.toNat ^^^ b4.toNat) &&& c4.toNat)) * 256 + ((a5.toNat ^^^ b5.toNat) &&& c5.toNat) := by
    have hq : ∀ a b : UInt8, a.toNat ^^^ b.toNat < 256 := fun a b => Nat.xor_lt_two_pow (n := 8) a.toNat_lt b.toNat_lt
    rw [num6, num6, num6, xorj _ _ _ _ a5.toNat_lt b5.toNat_lt, xorj _ _ _ _ a4.toNat_lt b4.toNat_lt, xorj _ _ _ _ a3.toNat_lt b3.toNat_lt, xorj _ _ _ _ a2.toNat_lt b2.toNat_lt, xorj _ _ _ _ a1.toNat_lt b1.toNat_lt, xorj _ _ _ _ a0.toNat_lt b0.toNat_lt]
    rw [andj _ _ _ _ (hq _ _) c5.toNat_lt, andj _ _ _ _ (hq _ _) c4.toNat_lt, andj _ _ _ _ (hq _ _) c3.toNat_lt, andj _ _ _ _ (hq _ _) c2.toNat_lt, andj _ _ _ _ (hq _ _) c1.toNat_lt, andj _ _ _ _ (hq _ _) c0.toNat_lt]
    simp
  rw [hn, Bool.eq_iff_iff]
  simp only [andL, List.zipWith_cons_cons, List.zipWith_nil_left, beq_iff_eq, List.cons.injEq, and_true]
  rw [← d0, ← d1, ← d2, ← d3, ← d4, ← d5]
  generalize (a0.toNat ^^^ b0.toNat) &&& c0.toNat = y0
  generalize (a1.toNat ^^^ b1.toNat) &&& c1.toNat = y1
  generalize (a2.toNat ^^^ b2.toNat) &&& c2.toNat = y2
  generalize (a3.toNat ^^^ b3.toNat) &&& c3.toNat = y3
  generalize (a4.toNat ^^^ b4.toNat) &&& c4.toNat = y4
  generalize (a5.toNat ^^^ b5.toNat) &&& c5.toNat = y5
  omega
theorem mask_steps : ∀ k : Fin 49, andL (maskL (min (k.val + 1) 48)) (maskL k.val) = maskL k.val := by decide +kernel
/-- What agrees under more bits agrees under fewer. -/
theorem closer (a0 a1 a2 a3 a4 a5 b0 b1 b2 b3 b4 b5 : UInt8) (k : Nat) (hk : k ≤ 48) (h : (andL [b0, b1, b2, b3, b4, b5] (maskL (min (k + 1) 48)) == andL [a0, a1, a2, a3, a4, a5] (maskL (min (k + 1) 48))) = true) :
    (andL [b0, b1, b2, b3, b4, b5] (maskL k) == andL [a0, a1, a2, a3, a4, a5] (maskL k)) = true := by
  have hs := mask_steps ⟨k, by omega⟩
  simp only at hs
  obtain ⟨m0, m1, m2, m3, m4, m5, hm⟩ := six (maskL k) rfl
  obtain ⟨n0, n1, n2, n3, n4, n5, hn⟩ := six (maskL (min (k + 1) 48)) rfl
  rw [hm, hn] at hs
  rw [hn] at h
  rw [hm]
  simp only [andL, List.zipWith_cons_cons, List.zipWith_nil_left, beq_iff_eq, List.cons.injEq, and_true] at h hs ⊢
  obtain ⟨s0, s1, s2, s3, s4, s5⟩ := hs
  obtain ⟨h0, h1, h2, h3, h4, h5⟩ := h
  refine ⟨?_, ?_, ?_, ?_, ?_, ?_⟩
  · rw [← s0, ← UInt8.and_assoc, ← UInt8.and_assoc, h0]
  · rw [← s1, ← UInt8.and_assoc, ← UInt8.and_assoc, h1]
  · rw [← s2, ← UInt8.and_assoc, ← UInt8.and_assoc, h2]
  · rw [← s3, ← UInt8.and_assoc, ← UInt8.and_assoc, h3]
  · rw [← s4, ← UInt8.and_assoc, ← UInt8.and_assoc, h4]
  · rw [← s5, ← UInt8.and_assoc, ← UInt8.and_assoc, h5]
theorem and_swap (a c m : UInt8) : (a &&& c) &&& m = (a &&& m) &&& c := by
  rw [UInt8.and_assoc, UInt8.and_comm c m, ← UInt8.and_assoc]
theorem and_zero (a : UInt8) : a &&& 0 = 0 := by
  apply UInt8.toNat_inj.1
  rw [UInt8.toNat_and]
  simp
theorem and_all (a : UInt8) : a &&& 255 = a := by
  apply UInt8.toNat_inj.1
  rw [UInt8.toNat_and]
  have := a.toNat_lt
  show a.toNat &&& (2 ^ 8 - 1) = _
  rw [Nat.and_two_pow_sub_one_eq_mod]
  omega
theorem under_none (a0 a1 a2 a3 a4 a5 b0 b1 b2 b3 b4 b5 : UInt8) : (andL [b0, b1, b2, b3, b4, b5] [0, 0, 0, 0, 0, 0] == andL [a0, a1, a2, a3, a4, a5] [0, 0, 0, 0, 0, 0]) = true := by
  simp [andL, and_zero]
theorem under_all (a0 a1 a2 a3 a4 a5 b0 b1 b2 b3 b4 b5 : UInt8) : (andL [b0, b1, b2, b3, b4, b5] [255, 255, 255, 255, 255, 255] == andL [a0, a1, a2, a3, a4, a5] [255, 255, 255, 255, 255, 255]) = ([a0, a1, a2, a3, a4, a5] == [b0, b1, b2, b3, b4, b5]) := by
  simp only [andL, List.zipWith_cons_cons, List.zipWith_nil_left, and_all]
  rw [Bool.eq_iff_iff]
  simp only [beq_iff_eq]
  exact ⟨Eq.symm, Eq.symm⟩
/-- The number of a mask whose 48 - j highest bits are set. -/
def stp (j : Nat) : Nat := 281474976710656 - 2 ^ j
theorem num_mask : ∀ k : Fin 49, numL (maskL k.val) = stp (48 - k.val) := by decide +kernel
theorem stp_and : ∀ j : Fin 48, stp j.val &&& (stp j.val - 1) = stp (j.val + 1) := by decide +kernel
theorem stp_facts : ∀ j : Fin 49, stp j.val < 281474976710656 ∧ (0 < stp j.val ↔ j.val < 48) := by decide +kernel
theorem stp_step (j : Nat) (hj : j < 48) : bits .and .u64 (stp j : Int) ((stp j : Int) - 1) = (stp (j + 1) : Int) := by
  have h1 := stp_and ⟨j, hj⟩
  have h2 := stp_facts ⟨j, by omega⟩
  simp only at h1 h2
  have e : ((stp j : Int) - 1) = ((stp j - 1 : Nat) : Int) := by have := h2.2.2 hj; omega
  rw [e, u64_and_nat _ _ (by omega) (by omega), h1]
end Go.Proofs.YtifoepglhlpoiaaDoor
