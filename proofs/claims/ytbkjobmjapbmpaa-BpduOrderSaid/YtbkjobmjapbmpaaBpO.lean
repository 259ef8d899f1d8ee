/- Package bpdu: Compare as an order of numbers. -/
import Derived.Test.YtbkjobmjapbmpaaBpF
namespace Go.Proofs.Ytbkjobmjapbmpaa
open Go.RowKit Go.Sort
set_option linter.unusedVariables false

theorem cmp1_lex (x y r s N : Nat) (hr : r < N) (hs : s < N) : (if cmp1 x y = 0 then cmp1 r s else cmp1 x y) = cmp1 (x * N + r) (y * N + s) := by
  rcases Nat.lt_trichotomy x y with h | h | h
  · have h1 : cmp1 x y = -1 := by unfold cmp1; rw [if_pos h]
    have h2 : (x + 1) * N ≤ y * N := Nat.mul_le_mul_right N h
    rw [Nat.add_mul] at h2
    rw [h1, if_neg (by decide)]
    unfold cmp1
    rw [if_pos (by omega)]
  · subst h
    have h1 : cmp1 x x = 0 := by unfold cmp1; rw [if_neg (Nat.lt_irrefl _), if_neg (Nat.lt_irrefl _)]
    rw [h1, if_pos rfl]
    unfold cmp1
    congr 1
    · simp
    · congr 1
      simp
  · have h1 : cmp1 x y = 1 := by unfold cmp1; rw [if_neg (by omega), if_pos h]
    have h2 : (y + 1) * N ≤ x * N := Nat.mul_le_mul_right N h
    rw [Nat.add_mul] at h2
    rw [h1, if_neg (by decide)]
    unfold cmp1
    rw [if_neg (by omega), if_pos (by omega)]
def keyB (m : Bp) : Nat := ((m.ro * 4294967296 + m.co) * 18446744073709551616 + m.br) * 65536 + m.po
theorem or4 (a b c d : Int) : orI [a, b, c, d] = (if (if (if a = 0 then b else a) = 0 then c else (if a = 0 then b else a)) = 0 then d else (if (if a = 0 then b else a) = 0 then c else (if a = 0 then b else a))) := by
  unfold orI orI orI orI orI
  by_cases ha : a = 0
  · by_cases hb : b = 0
    · by_cases hc : c = 0
      · by_cases hd : d = 0 <;> simp [ha, hb, hc, hd]
      · simp [ha, hb, hc]
    · simp [ha, hb]
  · simp [ha]
theorem cmpL_key (a b : Bp) (ha : a.ok) (hb : b.ok) : orI (cmpL a b) = cmp1 (keyB a) (keyB b) := by
  unfold cmpL keyB
  rw [or4, cmp1_lex _ _ _ _ 4294967296 ha.co hb.co, cmp1_lex _ _ _ _ 18446744073709551616 ha.br hb.br, cmp1_lex _ _ _ _ 65536 ha.po hb.po]
theorem cmp_key (a b : Bp) (ha : a.ok) (hb : b.ok) : cmpB a b = cmp1 (keyB (cpdB a)) (keyB (cpdB b)) := cmpL_key _ _ (cpdB_ok ha) (cpdB_ok hb)
theorem cmp1_cases (x y : Nat) : (x < y ∧ cmp1 x y = -1) ∨ (x = y ∧ cmp1 x y = 0) ∨ (y < x ∧ cmp1 x y = 1) := by
  unfold cmp1
  rcases Nat.lt_trichotomy x y with h | h | h
  · exact .inl ⟨h, if_pos h⟩
  · exact .inr (.inl ⟨h, by rw [if_neg (by omega), if_neg (by omega)]⟩)
  · exact .inr (.inr ⟨h, by rw [if_neg (by omega), if_pos h]⟩)
theorem sgn_cmp (a b : Bp) (ha : a.ok) (hb : b.ok) : sgn (cmpB a b) = cmp1 (keyB (cpdB a)) (keyB (cpdB b)) := by
  rw [cmp_key a b ha hb]
  rcases cmp1_cases (keyB (cpdB a)) (keyB (cpdB b)) with h | h | h <;> rw [h.2] <;> rfl
theorem key_ro (a b : Bp) (ha : a.ok) (hb : b.ok) (h : a.ro < b.ro) : keyB a < keyB b := by
  have := ha.co; have := ha.br; have := ha.po
  unfold keyB
  omega
theorem key_co (a b : Bp) (ha : a.ok) (hb : b.ok) (hr : a.ro = b.ro) (h : a.co < b.co) : keyB a < keyB b := by
  have := ha.br; have := ha.po
  unfold keyB
  omega
theorem cmp1_turn (x y : Nat) : cmp1 y x = - cmp1 x y := by
  rcases cmp1_cases x y with h | h | h <;> rcases cmp1_cases y x with k | k | k <;> rw [h.2, k.2] <;> omega
theorem ord3 (x y z : Nat) : cmp1 x y = 1 ∨ (cmp1 x y = 0 ∧ cmp1 y z = 1) ∨ (cmp1 x y = 0 ∧ cmp1 y z = 0 ∧ ¬ 0 < cmp1 x z) ∨ (cmp1 x y = 0 ∧ cmp1 y z = -1 ∧ ¬ 0 < cmp1 x z ∧ ¬ 0 ≤ cmp1 x z) ∨ (cmp1 x y = -1 ∧ cmp1 y z = 1) ∨ (cmp1 x y = -1 ∧ cmp1 y z ≠ 1 ∧ (cmp1 y z = 0 ∨ cmp1 y z = -1) ∧ ¬ 0 < cmp1 x z ∧ ¬ 0 ≤ cmp1 x z) := by
  rcases cmp1_cases x y with h | h | h
  · rcases cmp1_cases y z with k | k | k
    · rcases cmp1_cases x z with l | l | l
      · rw [h.2, k.2, l.2]; decide
      · omega
      · omega
    · rcases cmp1_cases x z with l | l | l
      · rw [h.2, k.2, l.2]; decide
      · omega
      · omega
    · rw [h.2, k.2]; exact .inr (.inr (.inr (.inr (.inl ⟨rfl, rfl⟩))))
  · rcases cmp1_cases y z with k | k | k
    · rcases cmp1_cases x z with l | l | l
      · rw [h.2, k.2, l.2]; decide
      · omega
      · omega
    · rcases cmp1_cases x z with l | l | l
      · omega
      · rw [h.2, k.2, l.2]; decide
      · omega
    · rw [h.2, k.2]; exact .inr (.inl ⟨rfl, rfl⟩)
  · exact .inl h.2
end Go.Proofs.Ytbkjobmjapbmpaa
