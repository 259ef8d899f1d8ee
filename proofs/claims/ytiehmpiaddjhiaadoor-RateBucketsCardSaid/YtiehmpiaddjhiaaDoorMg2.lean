/- Texts that belong together, one behind the other: RaM, RaN. Conditions: those of each. -/
import Derived.Test.YtiehmpiaddjhiaaDoorMg1
/- Float64: products and sums of clean ones. Plain. -/
namespace Go.Proofs.YtiehmpiaddjhiaaDoor
open Go
set_option linter.unusedVariables false

theorem word_is (r : Nat) : Ieee.double.word false r = r := by
  unfold Ieee.Format.word
  rw [if_neg (by decide)]
theorem nearest_le (m : Nat) (e : Int) : Ieee.double.nearest false m e ≤ INFB := by
  unfold Ieee.Format.nearest
  dsimp only
  split
  · rw [word_is]
    exact Nat.zero_le _
  · rw [word_is, dbl_inf]
    exact Nat.min_le_right _ _
theorem read_clean (x : Nat) (h : x ≤ INFB) : Ieee.double.read x = .infinity false ∨ ∃ m e, Ieee.double.read x = .number false m e ∧ (0 < x → 0 < m) := by
  have hs : INFB < SG := by decide
  have hm : x % SG = x := Nat.mod_eq_of_lt (by omega)
  have hn : negF x = false := by unfold negF; rw [Nat.div_eq_of_lt (by omega)]; rfl
  rcases Nat.lt_or_ge x INFB with h1 | h1
  · refine .inr ⟨_, _, by rw [read_num x (by rw [hm]; exact h1), hn], fun hx => ?_⟩
    rw [hm]
    unfold magR
    split
    · exact hx
    · exact Nat.lt_of_lt_of_le (show 0 < BIN by decide) (Nat.le_add_right _ _)
  · exact .inl (by rw [read_inf x (by rw [hm]; omega), hn])
theorem fin_read (x : Nat) (h : x < INFB) (h0 : 0 < x) : ∃ m e, Ieee.double.read x = .number false m e ∧ 0 < m := by
  rcases read_clean x (Nat.le_of_lt h) with h1 | ⟨m, e, h1, h2⟩
  · have hs : INFB < SG := by decide
    have hm : x % SG = x := Nat.mod_eq_of_lt (by omega)
    rw [read_num x (by rw [hm]; exact h)] at h1
    cases h1
  · exact ⟨m, e, h1, h2 h0⟩
theorem wr_inf : (some (Ieee.Datum.infinity false)).map Ieee.double.write = some INFB := by
  show some (Ieee.double.word false Ieee.double.infRung) = some INFB
  rw [word_is, dbl_inf]
theorem sum_ii : Ieee.Datum.sum (.infinity false) (.infinity false) = some (.infinity false) := by
  unfold Ieee.Datum.sum
  rfl
theorem sum_in (n : Nat) (j : Int) : Ieee.Datum.sum (.infinity false) (.number false n j) = some (.infinity false) := by
  unfold Ieee.Datum.sum
  rfl
theorem sum_ni (n : Nat) (j : Int) : Ieee.Datum.sum (.number false n j) (.infinity false) = some (.infinity false) := by
  unfold Ieee.Datum.sum
  rfl
theorem add_ok (x y : Nat) (hx : x ≤ INFB) (hy : y ≤ INFB) : ∃ s, Ieee.double.add x y = some s ∧ s ≤ INFB := by
  unfold Ieee.Format.add
  rcases read_clean x hx with h1 | ⟨m, i, h1, -⟩ <;> rcases read_clean y hy with h2 | ⟨n, j, h2, -⟩ <;> rw [h1, h2]
  · rw [sum_ii]; exact ⟨INFB, wr_inf, Nat.le_refl _⟩
  · rw [sum_in]; exact ⟨INFB, wr_inf, Nat.le_refl _⟩
  · rw [sum_ni]; exact ⟨INFB, wr_inf, Nat.le_refl _⟩
  · refine ⟨_, rfl, ?_⟩
    have hp : ∀ (m u : Nat), (0 : Int) ≤ Ieee.signed false m u := fun m u => by unfold Ieee.signed; rw [if_neg (by decide)]; exact Int.natCast_nonneg _
    have h := Int.add_nonneg (hp m (i - min i j).toNat) (hp n (j - min i j).toNat)
    show Ieee.double.nearest _ _ _ ≤ INFB
    have hb : (if Ieee.signed false m (i - min i j).toNat + Ieee.signed false n (j - min i j).toNat = 0 then false && false else decide (Ieee.signed false m (i - min i j).toNat + Ieee.signed false n (j - min i j).toNat < 0)) = false := by
      split
      · rfl
      · exact decide_eq_false (by omega)
    rw [hb]
    exact nearest_le _ _
theorem mul_ok (x y : Nat) (hx : x ≤ INFB) (hy : y < INFB) (h0 : 0 < y) : ∃ s, Ieee.double.mul x y = some s ∧ s ≤ INFB := by
  unfold Ieee.Format.mul
  obtain ⟨n, j, h2, hn⟩ := fin_read y hy h0
  rcases read_clean x hx with h1 | ⟨m, i, h1, -⟩ <;> rw [h1, h2]
  · refine ⟨INFB, ?_, Nat.le_refl _⟩
    unfold Ieee.Datum.product
    simp only
    rw [if_neg (by omega)]
    exact wr_inf
  · exact ⟨_, rfl, nearest_le _ _⟩
end Go.Proofs.YtiehmpiaddjhiaaDoor
/- Float64: whole numbers. Plain. -/
namespace Go.Proofs.YtiehmpiaddjhiaaDoor
open Go
set_option linter.unusedVariables false

theorem cut_le (n drop : Nat) : Ieee.Toward.even.cut false n drop ≤ n / (1 <<< min drop (n.log2 + 2)) + 1 := by
  unfold Ieee.Toward.cut
  dsimp only
  refine Nat.add_le_add_left ?_ _
  exact Bool.toNat_le _
theorem keptA (n l : Nat) (h : n < 2 ^ (l + 1)) (h1 : l < 52) : (n <<< (52 - l)) / (1 <<< 0) ≤ 2 ^ 53 := by
  rw [Nat.shiftLeft_zero, Nat.div_one, Nat.shiftLeft_eq]
  have h2 : n * 2 ^ (52 - l) ≤ 2 ^ (l + 1) * 2 ^ (52 - l) := Nat.mul_le_mul_right _ (Nat.le_of_lt h)
  rw [← Nat.pow_add, show l + 1 + (52 - l) = 53 by omega] at h2
  exact h2
theorem keptB (n l : Nat) (h : n < 2 ^ (l + 1)) (h1 : 52 ≤ l) : n / (1 <<< (l - 52)) ≤ 2 ^ 53 := by
  rw [Nat.shiftLeft_eq, Nat.one_mul]
  refine Nat.le_of_lt (Nat.div_lt_of_lt_mul ?_)
  rw [← Nat.pow_add, show l - 52 + 53 = l + 1 by omega]
  exact h
theorem kept_le (n : Nat) (h0 : 0 < n) (L : Int) (hL : L = (n.log2 : Int) - 52) : Ieee.Toward.even.cut false (n <<< (0 - L).toNat) (L - 0).toNat ≤ 2 ^ 53 + 1 := by
  have hlt := Nat.lt_log2_self (n := n)
  refine Nat.le_trans (cut_le _ _) (Nat.add_le_add_right ?_ 1)
  rcases Nat.lt_or_ge n.log2 52 with h1 | h1
  · have e1 : (0 - L).toNat = 52 - n.log2 := by omega
    have e2 : (L - 0).toNat = 0 := by omega
    rw [e1, e2, Nat.zero_min]
    exact keptA n _ hlt h1
  · have e1 : (0 - L).toNat = 0 := by omega
    have e2 : (L - 0).toNat = n.log2 - 52 := by omega
    rw [e1, e2, Nat.shiftLeft_zero, Nat.min_eq_left (by omega)]
    exact keptB n _ hlt h1
theorem lp_is : Ieee.double.leastPlace = -1074 := by decide
theorem near_is (n : Nat) (h0 : 0 < n) (L : Int) (hL : L = (n.log2 : Int) - 52) : Ieee.double.nearest false n 0 = min ((n.log2 + 1022) * BIN + Ieee.Toward.even.cut false (n <<< (0 - L).toNat) (L - 0).toNat) INFB := by
  unfold Ieee.Format.nearest
  rw [if_neg (Nat.ne_of_gt h0)]
  dsimp only
  rw [dbl_inf, dbl_bin, lp_is, word_is, show Ieee.double.fractionBits = 52 from rfl]
  have e : max (0 + (n.log2 : Int) - ((52 : Nat) : Int)) (-1074) = L := by omega
  rw [e, show (L - -1074).toNat = n.log2 + 1022 by omega]
/-- A whole number as a float64: above nought, below infinity. -/
theorem of_nat (n : Nat) (h0 : 0 < n) (h : n.log2 < 64) : 0 < Ieee.double.nearest false n 0 ∧ Ieee.double.nearest false n 0 < INFB := by
  have hk := kept_le n h0 _ rfl
  rw [near_is n h0 _ rfl]
  generalize Ieee.Toward.even.cut false _ _ = K at hk ⊢
  have hp : (2 : Nat) ^ 53 = 9007199254740992 := by decide
  rw [hp] at hk
  have hB : BIN = 4503599627370496 := rfl
  have hI : INFB = 9218868437227405312 := rfl
  rw [hB, hI]
  omega
end Go.Proofs.YtiehmpiaddjhiaaDoor
