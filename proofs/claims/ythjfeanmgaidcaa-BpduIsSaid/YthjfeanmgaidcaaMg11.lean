/- Texts that belong together, one behind the other: BrA, CutD. Conditions: those of each. -/
import Derived.Test.YthjfeanmgaidcaaMg4
import Derived.Test.YthjfeanmgaidcaaMg8
import Derived.Test.YthjfeanmgaidcaaMg7
import Derived.IntWalk
import Derived.Lib.Hide
/- tollref10: contracts of number, Get. -/
namespace Go.Proofs.Ythjfeanmgaidcaa
open Go.RowKit Go.Sort
set_option linter.unusedVariables false

/-- A number of the bytes from lo to hi. -/
def sgB (b : List UInt8) (lo hi : Nat) : Nat := numM ((b.take hi).drop lo)
def rdB (k : Int) (b : List UInt8) : Bp := ⟨k, sgB b 4 5, sgB b 5 13, sgB b 17 25, sgB b 13 17, sgB b 25 27, sgB b 27 29, sgB b 29 31, sgB b 31 33, sgB b 33 35⟩
def finB (k : Int) (many : Nat) (b : List UInt8) : Bp × Int := if b.length < many then (Bp.zero, 4) else if (rdB k b).ma ≤ (rdB k b).ag ∨ (many = 36 ∧ sgB b 35 36 ≠ 0) then (Bp.zero, 5) else (rdB k b, 0)
def getB (b : List UInt8) : Bp × Int :=
  if b.length < 4 then (Bp.zero, 4) else if sgB b 0 1 ≠ 0 ∨ sgB b 1 2 ≠ 0 then (Bp.zero, 5) else
    if sgB b 2 3 = 0 ∧ sgB b 3 4 = 128 then (Bp.chg, 0) else if sgB b 2 3 = 0 ∧ sgB b 3 4 = 0 then finB 1 35 b else if sgB b 2 3 = 2 ∧ sgB b 3 4 = 2 then finB 3 36 b else (Bp.zero, 5)
theorem sg_one (b : List UInt8) (k : Nat) (h : k < b.length) : (b[k].toNat : Int) = (sgB b k (k + 1) : Int) := by
  unfold sgB
  rw [List.take_succ_eq_append_getElem h, List.drop_append_of_le_length (by simp; omega), List.drop_of_length_le (by simp; omega), List.nil_append]
  simp [numM]
theorem sg_lt (b : List UInt8) (lo hi wd : Nat) (h : hi - lo ≤ wd) : sgB b lo hi < 256 ^ wd := by
  unfold sgB
  have h1 := numM_lt ((b.take hi).drop lo)
  have h2 : (256 : Nat) ^ ((b.take hi).drop lo).length ≤ 256 ^ wd := Nat.pow_le_pow_right (by omega) (by simp; omega)
  omega
theorem rdB_ok (k : Int) (b : List UInt8) (h0 : -9223372036854775808 ≤ k) (h1 : k ≤ 9223372036854775807) : (rdB k b).ok := ⟨h0, h1, sg_lt _ _ _ 1 (by decide), sg_lt _ _ _ 8 (by decide), sg_lt _ _ _ 8 (by decide), sg_lt _ _ _ 4 (by decide), sg_lt _ _ _ 2 (by decide), sg_lt _ _ _ 2 (by decide), sg_lt _ _ _ 2 (by decide), sg_lt _ _ _ 2 (by decide), sg_lt _ _ _ 2 (by decide)⟩
theorem getB_ok (b : List UInt8) : (getB b).1.ok := by
  have hf : ∀ k many, -9223372036854775808 ≤ k → k ≤ 9223372036854775807 → (finB k many b).1.ok := by
    intro k many h0 h1
    unfold finB
    split
    · exact Bp.zero_ok
    · split
      · exact Bp.zero_ok
      · exact rdB_ok k b h0 h1
  unfold getB
  split
  · exact Bp.zero_ok
  · split
    · exact Bp.zero_ok
    · split
      · exact Bp.chg_ok
      · split
        · exact hf 1 35 (by decide) (by decide)
        · split
          · exact hf 3 36 (by decide) (by decide)
          · exact Bp.zero_ok
theorem infI1 : (Try.prog.info? 5).map (·.size) = some [Value.int .u8 0].length := by kernel_rfl
theorem inf_w8 (v : Value) : (Try.prog.info? 5).map (·.size) = some [v].length := by show _ = some 1; kernel_rfl
theorem inf_w16 (v : Value) : (Try.prog.info? 23).map (·.size) = some [v].length := by show _ = some 1; kernel_rfl
theorem inf_w32 (v : Value) : (Try.prog.info? 22).map (·.size) = some [v].length := by show _ = some 1; kernel_rfl
theorem inf_w64 (v : Value) : (Try.prog.info? 50).map (·.size) = some [v].length := by show _ = some 1; kernel_rfl
theorem inf_wi (v : Value) : (Try.prog.info? 3).map (·.size) = some [v].length := by show _ = some 1; kernel_rfl
theorem one1 {v : Value} (h : v.oneCell' = true) : ∀ u ∈ [v], u.oneCell' = true := by intro u hu; simp at hu; subst hu; exact h

end Go.Proofs.Ythjfeanmgaidcaa
/- Package cut's cutter: what is taken, step by step. -/
namespace Go.Proofs.Ythjfeanmgaidcaa
open Go.RowKit
set_option linter.unusedVariables false

/-- What is taken of a cutter without an error. -/
theorem takeM_ok (l : List UInt8) (k n : Nat) (h : k + n ≤ l.length) : takeM ⟨l, k, 0⟩ (n : Int) = ((l.drop k).take n, ⟨l, k + n, 0⟩) := by
  unfold takeM
  rw [if_neg (by simp), if_neg (by omega), if_neg (by simp only; omega)]
  simp only [Int.toNat_natCast]
  rw [List.drop_take, Nat.add_sub_cancel_left]
theorem takeM_short (l : List UInt8) (k n : Nat) (hk : k ≤ l.length) (h : l.length < k + n) : takeM ⟨l, k, 0⟩ (n : Int) = ([], ⟨l, k, 4⟩) := by
  unfold takeM
  rw [if_neg (by simp), if_neg (by omega), if_pos (by simp only; omega)]
theorem takeM_err (l : List UInt8) (k : Nat) (er : Int) (he : er ≠ 0) (x : Int) : takeM ⟨l, k, er⟩ x = ([], ⟨l, k, er⟩) := by
  unfold takeM
  rw [if_pos he]
/-- A cutter that has taken K bytes, or has failed. -/
def Took (b : List UInt8) (K : Nat) (s : Cst) : Prop := s.l = b ∧ (s.er = 4 ∨ (s.er = 0 ∧ s.k = K ∧ K ≤ b.length))
theorem took_start (b : List UInt8) : Took b 0 ⟨b, 0, 0⟩ := ⟨rfl, .inr ⟨rfl, rfl, Nat.zero_le _⟩⟩
theorem Took.next {b : List UInt8} {K : Nat} {s : Cst} (h : Took b K s) (n : Nat) : Took b (K + n) (takeM s (n : Int)).2 := by
  obtain ⟨l, k, er⟩ := s
  obtain ⟨rfl, h⟩ := h
  simp only at h
  rcases h with rfl | ⟨rfl, rfl, hk⟩
  · rw [takeM_err l k 4 (by decide)]
    exact ⟨rfl, .inl rfl⟩
  · rcases Nat.lt_or_ge l.length (k + n) with h | h
    · rw [takeM_short l k n hk h]
      exact ⟨rfl, .inl rfl⟩
    · rw [takeM_ok l k n h]
      exact ⟨rfl, .inr ⟨rfl, rfl, h⟩⟩
theorem Took.done {b : List UInt8} {K : Nat} {s : Cst} (h : Took b K s) (hb : b.length < K) : s.er = 4 := by
  rcases h.2 with h | ⟨_, _, h⟩
  · exact h
  · omega
end Go.Proofs.Ythjfeanmgaidcaa
