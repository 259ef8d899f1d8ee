/- Package cut's cutter: what is taken, step by step. -/
import Derived.Test.YtbkjobmjapbmpaaCutC
namespace Go.Proofs.Ytbkjobmjapbmpaa
open Go.RowKit
set_option linter.unusedVariables false

/-- What is taken of a cutter without an error. -/
theorem takeM_ok (l : List UInt8) (k n : Nat) (h : k + n ≤ l.length) : takeM ⟨l, k, 0⟩ (n : Int) = ((l.drop k).take n, ⟨l, k + n, 0⟩) := by
  unfold takeM
  rw [if_neg (by simp), if_neg (by omega), if_neg (by simp only; omega)]
  simp only [Int.toNat_natCast]
  rw [List.drop_take, Nat.add_sub_cancel_left]
theorem takeM_short (l : List UInt8) (k n : Nat) (hk : k ≤ l.length) (h : l.length < k + n) : takeM ⟨l, k, 0⟩ (n : Int) = ([], ⟨l, k, 4⟩) := by
  unfold takeM
  rw [if_neg (by simp), if_neg (by omega), if_pos (by simp only; omega)]
theorem takeM_err (l : List UInt8) (k : Nat) (er : Int) (he : er ≠ 0) (x : Int) : takeM ⟨l, k, er⟩ x = ([], ⟨l, k, er⟩) := by
  unfold takeM
  rw [if_pos he]
/-- A cutter that has taken K bytes, or has failed. -/
def Took (b : List UInt8) (K : Nat) (s : Cst) : Prop := s.l = b ∧ (s.er = 4 ∨ (s.er = 0 ∧ s.k = K ∧ K ≤ b.length))
theorem took_start (b : List UInt8) : Took b 0 ⟨b, 0, 0⟩ := ⟨rfl, .inr ⟨rfl, rfl, Nat.zero_le _⟩⟩
theorem Took.next {b : List UInt8} {K : Nat} {s : Cst} (h : Took b K s) (n : Nat) : Took b (K + n) (takeM s (n : Int)).2 := by
  obtain ⟨l, k, er⟩ := s
  obtain ⟨rfl, h⟩ := h
  simp only at h
  rcases h with rfl | ⟨rfl, rfl, hk⟩
  · rw [takeM_err l k 4 (by decide)]
    exact ⟨rfl, .inl rfl⟩
  · rcases Nat.lt_or_ge l.length (k + n) with h | h
    · rw [takeM_short l k n hk h]
      exact ⟨rfl, .inl rfl⟩
    · rw [takeM_ok l k n h]
      exact ⟨rfl, .inr ⟨rfl, rfl, h⟩⟩
theorem Took.done {b : List UInt8} {K : Nat} {s : Cst} (h : Took b K s) (hb : b.length < K) : s.er = 4 := by
  rcases h.2 with h | ⟨_, _, h⟩
  · exact h
  · omega
end Go.Proofs.Ytbkjobmjapbmpaa
