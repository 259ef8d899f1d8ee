/- Texts that belong together, one behind the other: RaMo, RaMq. Conditions: those of each. -/
import Derived.Test.YtiehmpiaddjhiaaDoorMg25
import Derived.Test.YtiehmpiaddjhiaaDoorMg9
import Derived.Test.YtiehmpiaddjhiaaDoorMg15
/- Float64: sums and products of clean ones go up; what a bucket has goes up with the ticks. Plain but for afM. -/
namespace Go.Proofs.YtiehmpiaddjhiaaDoor
open Go
set_option linter.unusedVariables false

theorem valR_le {r s : Nat} (h : r ≤ s) : valR r ≤ valR s := by
  rcases Nat.lt_or_eq_of_le h with h | h
  · exact Nat.le_of_lt (valR_mono h)
  · rw [h]; exact Nat.le_refl _
theorem read_fin (x : Nat) (h : x < INFB) : Ieee.double.read x = .number false (magR x) ((-1074 : Int) + ((plR x : Nat) : Int)) := by
  have hs : INFB < SG := by decide
  have hm : x % SG = x := Nat.mod_eq_of_lt (by omega)
  have hn : negF x = false := by unfold negF; rw [Nat.div_eq_of_lt (by omega)]; rfl
  rw [read_num x (by rw [hm]; exact h), hn, hm, lp_is]
theorem read_infb : Ieee.double.read INFB = .infinity false := by
  have hs : INFB % SG = INFB := Nat.mod_eq_of_lt (by decide)
  rw [read_inf INFB hs]
  rfl
theorem signed_f (m u : Nat) : Ieee.signed false m u = ((m * 2 ^ u : Nat) : Int) := by
  unfold Ieee.signed
  rw [if_neg (by decide), Nat.shiftLeft_eq]
/-- A finite sum, as the word nearest to the values' sum. -/
theorem add_fin (x y : Nat) (hx : x < INFB) (hy : y < INFB) : ∃ T e, (0 : Int) ≤ e + 1074 + ((0 : Nat) : Int) ∧ smM x y = Ieee.double.nearest false T e ∧ T * 2 ^ (e + 1074 + ((0 : Nat) : Int)).toNat = valR x + valR y := by
  obtain ⟨p, hp⟩ : ∃ p, plR x = p := ⟨_, rfl⟩
  obtain ⟨q, hq⟩ : ∃ q, plR y = q := ⟨_, rfl⟩
  refine ⟨magR x * 2 ^ (p - min p q) + magR y * 2 ^ (q - min p q), -1074 + ((min p q : Nat) : Int), by omega, ?_, ?_⟩
  · unfold smM Ieee.Format.add
    rw [read_fin x hx, read_fin y hy, hp, hq]
    have e1 : min ((-1074 : Int) + (p : Int)) (-1074 + (q : Int)) = -1074 + ((min p q : Nat) : Int) := by omega
    have e2 : ((-1074 : Int) + (p : Int) - (-1074 + ((min p q : Nat) : Int))).toNat = p - min p q := by omega
    have e3 : ((-1074 : Int) + (q : Int) - (-1074 + ((min p q : Nat) : Int))).toNat = q - min p q := by omega
    unfold Ieee.Datum.sum
    dsimp only
    rw [e1, e2, e3, signed_f, signed_f]
    obtain ⟨A, hA⟩ : ∃ A : Nat, magR x * 2 ^ (p - min p q) = A := ⟨_, rfl⟩
    obtain ⟨B, hB⟩ : ∃ B : Nat, magR y * 2 ^ (q - min p q) = B := ⟨_, rfl⟩
    rw [hA, hB]
    have e4 : (if (A : Int) + (B : Int) = 0 then false && false else decide ((A : Int) + (B : Int) < 0)) = false := by
      split
      · rfl
      · exact decide_eq_false (by omega)
    rw [e4, show ((A : Int) + (B : Int)).natAbs = A + B by omega]
    rfl
  · rw [show ((-1074 : Int) + ((min p q : Nat) : Int) + 1074 + ((0 : Nat) : Int)).toNat = min p q by omega, Nat.add_mul, Nat.mul_assoc, Nat.mul_assoc, ← Nat.pow_add, ← Nat.pow_add, Nat.sub_add_cancel (Nat.min_le_left _ _), Nat.sub_add_cancel (Nat.min_le_right _ _)]
    unfold valR
    rw [hp, hq]
theorem sm_inf (x y : Nat) (hx : x ≤ INFB) (hy : y ≤ INFB) (h : x = INFB ∨ y = INFB) : smM x y = INFB := by
  unfold smM Ieee.Format.add
  rcases h with h | h <;> subst h <;> rw [read_infb]
  · rcases Nat.lt_or_eq_of_le hy with h2 | h2
    · rw [read_fin y h2, sum_in, wr_inf]; rfl
    · subst h2; rw [read_infb, sum_ii, wr_inf]; rfl
  · rcases Nat.lt_or_eq_of_le hx with h2 | h2
    · rw [read_fin x h2, sum_ni, wr_inf]; rfl
    · subst h2; rw [read_infb, sum_ii, wr_inf]; rfl
theorem sm_mono (x y z : Nat) (hx : x ≤ INFB) (hz : z ≤ INFB) (h : y ≤ z) : smM x y ≤ smM x z := by
  have hle := (sm_ok x y hx (Nat.le_trans h hz)).2
  rcases Nat.lt_or_eq_of_le hx with h1 | h1
  · rcases Nat.lt_or_eq_of_le hz with h2 | h2
    · obtain ⟨T, e, a1, a2, a3⟩ := add_fin x y h1 (Nat.lt_of_le_of_lt h h2)
      obtain ⟨U, f, b1, b2, b3⟩ := add_fin x z h1 h2
      rw [a2, b2]
      exact near_mono T U e f 0 a1 b1 (by rw [a3, b3]; exact Nat.add_le_add_left (valR_le h) _)
    · rw [sm_inf x z hx hz (.inr h2)]; exact hle
  · rw [sm_inf x z hx hz (.inl h1)]; exact hle
theorem mul_fin (x y : Nat) (hx : x < INFB) (hy : y < INFB) : ∃ T e, (0 : Int) ≤ e + 1074 + ((1074 : Nat) : Int) ∧ (Ieee.double.mul x y).getD 0 = Ieee.double.nearest false T e ∧ T * 2 ^ (e + 1074 + ((1074 : Nat) : Int)).toNat = valR x * valR y := by
  obtain ⟨p, hp⟩ : ∃ p, plR x = p := ⟨_, rfl⟩
  obtain ⟨q, hq⟩ : ∃ q, plR y = q := ⟨_, rfl⟩
  refine ⟨magR x * magR y, -1074 + (p : Int) + (-1074 + (q : Int)), by omega, ?_, ?_⟩
  · unfold Ieee.Format.mul
    rw [read_fin x hx, read_fin y hy, hp, hq]
    rfl
  · rw [show ((-1074 : Int) + (p : Int) + (-1074 + (q : Int)) + 1074 + ((1074 : Nat) : Int)).toNat = p + q by omega, Nat.pow_add]
    unfold valR
    rw [hp, hq, Nat.mul_mul_mul_comm]
theorem tk_mono (d e : Nat) (h : d ≤ e) : tkF d ≤ tkF e := by
  rw [tkF_is, tkF_is]
  exact near_mono d e 0 0 0 (by decide) (by decide) (Nat.mul_le_mul_right _ h)
theorem tk_ok (d : Nat) (h0 : 0 < d) (h : d < 18446744073709551616) : 0 < tkF d ∧ tkF d < INFB := by
  have hl : d.log2 < 64 := (Nat.log2_lt (by omega)).2 (by
    have : (2 : Nat) ^ 64 = 18446744073709551616 := by decide
    rw [this]; exact h)
  rw [tkF_is]
  exact of_nat d h0 hl
theorem pr_mono (r d e : Nat) (hr : r ≤ INFB) (h0 : 0 < d) (h : d ≤ e) (he : e < 18446744073709551616) : prM r d ≤ prM r e := by
  have hd := tk_ok d h0 (by omega)
  have hee := tk_ok e (by omega) he
  rcases Nat.lt_or_eq_of_le hr with h1 | h1
  · unfold prM
    obtain ⟨T, f, a1, a2, a3⟩ := mul_fin r (tkF d) h1 hd.2
    obtain ⟨U, g, b1, b2, b3⟩ := mul_fin r (tkF e) h1 hee.2
    rw [a2, b2]
    exact near_mono T U f g 1074 a1 b1 (by rw [a3, b3]; exact Nat.mul_le_mul_left _ (valR_le (tk_mono d e h)))
  · have : prM r e = INFB := by
      unfold prM Ieee.Format.mul
      obtain ⟨n, j, h2, hn⟩ := fin_read (tkF e) hee.2 hee.1
      rw [h1, read_infb, h2]
      unfold Ieee.Datum.product
      simp only
      rw [if_neg (by omega)]
      rw [show (false ^^ false) = false from rfl, wr_inf]
      rfl
    rw [this]
    exact (pr_ok r d hr h0 (by omega)).2
end Go.Proofs.YtiehmpiaddjhiaaDoor
/- What a bucket has goes up with the ticks; the least tick is the least. -/
namespace Go.Proofs.YtiehmpiaddjhiaaDoor
open Go
set_option linter.unusedVariables false

/-- A clean finite word is the one nearest to its own value. -/
theorem nr_exact (l : Nat) (hl : 0 < l) : nr 0 (valR l) = l := by
  have hB : BIN = 2 ^ 52 := BIN_pow
  unfold nr valR magR plR
  rw [hB]
  rcases Nat.lt_or_ge l (2 ^ 52) with h | h
  · rw [if_pos h, Nat.div_eq_of_lt h, Nat.zero_sub, Nat.pow_zero, Nat.mul_one]
    have hlog : l.log2 < 52 := (Nat.log2_lt (by omega)).2 h
    rw [show l.log2 - (52 + 0) = 0 by omega, Nat.zero_mul, Nat.zero_add, Nat.zero_add]
    unfold rne
    rw [Nat.pow_zero, Nat.div_one, Nat.mod_one]
    rfl
  · rw [if_neg (Nat.not_lt.2 h)]
    have hq : 1 ≤ l / 2 ^ 52 := (Nat.le_div_iff_mul_le (Nat.pow_pos (by decide))).2 (by rw [Nat.one_mul]; exact h)
    have hdm := Nat.div_add_mod l (2 ^ 52)
    have hr : l % 2 ^ 52 < 2 ^ 52 := Nat.mod_lt _ (Nat.pow_pos (by decide))
    obtain ⟨q, hq2⟩ : ∃ q, l / 2 ^ 52 = q + 1 := ⟨l / 2 ^ 52 - 1, by omega⟩
    obtain ⟨r, hr2⟩ : ∃ r, l % 2 ^ 52 = r := ⟨_, rfl⟩
    rw [hq2, hr2] at hdm
    rw [hr2] at hr
    rw [hq2, hr2, Nat.add_sub_cancel]
    have hlog : ((2 ^ 52 + r) * 2 ^ q).log2 = 52 + q := by
      have hp : 0 < 2 ^ q := Nat.pow_pos (by decide)
      have h0 : 0 < 2 ^ 52 + r := Nat.lt_of_lt_of_le (Nat.pow_pos (by decide)) (Nat.le_add_right _ _)
      refine (Nat.log2_eq_iff (Nat.ne_of_gt (Nat.mul_pos h0 hp))).2 ⟨?_, ?_⟩
      · rw [Nat.pow_add]
        exact Nat.mul_le_mul_right _ (Nat.le_add_right _ _)
      · rw [show 52 + q + 1 = 53 + q by omega, Nat.pow_add]
        exact (Nat.mul_lt_mul_right hp).2 (by
          rw [show (2 : Nat) ^ 53 = 2 ^ 52 + 2 ^ 52 from rfl]
          exact Nat.add_lt_add_left hr _)
    rw [hlog, show 52 + q - (52 + 0) = q by omega, Nat.add_zero]
    have hs := rne_scale (2 ^ 52 + r) 0 q
    rw [Nat.zero_add] at hs
    rw [hs]
    have hz : rne (2 ^ 52 + r) 0 = 2 ^ 52 + r := by
      unfold rne
      rw [Nat.pow_zero, Nat.div_one, Nat.mod_one]
      rfl
    rw [hz, ← hdm, Nat.mul_add, Nat.mul_one, Nat.mul_comm q]
    omega
theorem sm_ge (l p : Nat) (hl : l ≤ INFB) (hp : p ≤ INFB) : l ≤ smM l p := by
  rcases Nat.lt_or_eq_of_le hl with h1 | h1
  · refine Nat.le_trans ?_ (sm_mono l 0 p hl hp (Nat.zero_le _))
    obtain ⟨T, e, a1, a2, a3⟩ := add_fin l 0 h1 (by decide)
    rw [show valR 0 = 0 from rfl, Nat.add_zero] at a3
    rw [a2]
    rcases Nat.eq_zero_or_pos l with h0 | h0
    · rw [h0]; exact Nat.zero_le _
    · have hv := nr_exact l h0
      rcases Nat.eq_zero_or_pos T with t0 | t0
      · subst t0
        rw [Nat.zero_mul] at a3
        rw [← a3] at hv
        have : nr 0 0 = 0 := by decide
        omega
      · rw [near_nr T e 0 t0 a1, a3, hv]
        exact Nat.le_min.2 ⟨Nat.le_refl _, hl⟩
  · rw [sm_inf l p hl hp (.inl h1), h1]
    exact Nat.le_refl _
theorem af_mono {m : Bk} (h : m.cl) (d e : Nat) (hde : d ≤ e) (he : e < 18446744073709551616) : afM m d ≤ afM m e := by
  have hlI := Nat.le_trans h.l h.b
  unfold afM
  rcases Nat.eq_zero_or_pos d with h0 | h0
  · rw [if_pos h0]
    rcases Nat.eq_zero_or_pos e with h1 | h1
    · rw [if_pos h1]
      exact Nat.le_refl _
    · rw [if_neg (by omega)]
      exact Nat.le_min.2 ⟨h.l, sm_ge _ _ hlI (pr_ok m.r e h.r h1 he).2⟩
  · rw [if_neg (by omega), if_neg (by omega)]
    have := sm_mono m.l (prM m.r d) (prM m.r e) hlI (pr_ok m.r e h.r (by omega) he).2 (pr_mono m.r d e h.r h0 hde he)
    exact Nat.le_min.2 ⟨Nat.min_le_left _ _, Nat.le_trans (Nat.min_le_right _ _) this⟩
/-- The search finds the least, where what is sought stays once it has come. -/
theorem ls_least (p : Nat → Bool) (E : Nat) (hp : ∀ i j, i ≤ j → j < E → p i = true → p j = true) : ∀ (f lo hi : Nat), lo ≤ hi → hi ≤ E → hi - lo < 2 ^ f → (∀ i, i < lo → p i = false) → (∀ i, hi ≤ i → i < E → p i = true) →
    lsM p f lo hi ≤ E ∧ (∀ i, i < lsM p f lo hi → p i = false) ∧ (lsM p f lo hi < E → p (lsM p f lo hi) = true) := by
  intro f
  induction f with
  | zero =>
    intro lo hi h1 h2 h3 h4 h5
    have he : lo = hi := by simp at h3; omega
    show lo ≤ E ∧ (∀ i, i < lo → p i = false) ∧ (lo < E → p lo = true)
    exact ⟨by omega, h4, fun h => h5 lo (by omega) h⟩
  | succ f ih =>
    intro lo hi h1 h2 h3 h4 h5
    by_cases hlt : lo < hi
    · rw [Nat.pow_succ] at h3
      have hs : lsM p (f + 1) lo hi = if p (lo + (hi - lo) / 2) then lsM p f lo (lo + (hi - lo) / 2) else lsM p f (lo + (hi - lo) / 2 + 1) hi := by
        rw [lsM, if_pos hlt]
      rw [hs]
      cases hv : p (lo + (hi - lo) / 2)
      · rw [if_neg (by decide)]
        refine ih _ hi (by omega) h2 (by omega) (fun i hi2 => ?_) h5
        cases hpi : p i
        · rfl
        · have := hp i (lo + (hi - lo) / 2) (by omega) (by omega) hpi
          rw [hv] at this
          exact absurd this (by decide)
      · rw [if_pos rfl]
        exact ih lo _ (by omega) (by omega) (by omega) h4 (fun i hi2 hi3 => hp _ i hi2 hi3 hv)
    · rw [lsM_end p (f + 1) lo hi hlt]
      exact ⟨by omega, h4, fun h => h5 lo (by omega) h⟩
/-- What Wait finds: behind it a bucket has what is asked for, ahead of it not. -/
theorem wait_least {c : Bk} (h : c.cl) (n R : Nat) (hR : lsM (isSo c n) 41 0 1099511627777 = R) : R ≤ 1099511627777 ∧ (∀ i, i < R → afM c i < n) ∧ (R < 1099511627777 → n ≤ afM c R) := by
  have hp : ∀ i j, i ≤ j → j < 1099511627777 → isSo c n i = true → isSo c n j = true := by
    intro i j hij hj hi
    unfold isSo at hi ⊢
    have h1 := of_decide_eq_true hi
    exact decide_eq_true (Nat.le_trans h1 (af_mono h i j hij (by omega)))
  have := ls_least (isSo c n) 1099511627777 hp 41 0 1099511627777 (by omega) (by omega) (by decide) (fun i hi => by omega) (fun i h1 h2 => by omega)
  rw [hR] at this
  obtain ⟨h1, h2, h3⟩ := this
  exact ⟨h1, fun i hi => by have := of_decide_eq_false (h2 i hi); omega, fun hr => of_decide_eq_true (h3 hr)⟩
end Go.Proofs.YtiehmpiaddjhiaaDoor
