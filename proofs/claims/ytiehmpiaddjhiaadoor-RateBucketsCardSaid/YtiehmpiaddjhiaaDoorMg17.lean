/- Texts that belong together, one behind the other: RaMq, RaBd. Conditions: those of each. -/
import Derived.Test.YtiehmpiaddjhiaaDoorMg10
import Derived.Test.YtiehmpiaddjhiaaDoorMg16
/- What a bucket has goes up with the ticks; the least tick is the least. -/
namespace Go.Proofs.YtiehmpiaddjhiaaDoor
open Go
set_option linter.unusedVariables false

/-- A clean finite word is the one nearest to its own value. -/
theorem nr_exact (l : Nat) (hl : 0 < l) : nr 0 (valR l) = l := by
  have hB : BIN = 2 ^ 52 := BIN_pow
  unfold nr valR magR plR
  rw [hB]
  rcases Nat.lt_or_ge l (2 ^ 52) with h | h
  · rw [if_pos h, Nat.div_eq_of_lt h, Nat.zero_sub, Nat.pow_zero, Nat.mul_one]
    have hlog : l.log2 < 52 := (Nat.log2_lt (by omega)).2 h
    rw [show l.log2 - (52 + 0) = 0 by omega, Nat.zero_mul, Nat.zero_add, Nat.zero_add]
    unfold rne
    rw [Nat.pow_zero, Nat.div_one, Nat.mod_one]
    rfl
  · rw [if_neg (Nat.not_lt.2 h)]
    have hq : 1 ≤ l / 2 ^ 52 := (Nat.le_div_iff_mul_le (Nat.pow_pos (by decide))).2 (by rw [Nat.one_mul]; exact h)
    have hdm := Nat.div_add_mod l (2 ^ 52)
    have hr : l % 2 ^ 52 < 2 ^ 52 := Nat.mod_lt _ (Nat.pow_pos (by decide))
    obtain ⟨q, hq2⟩ : ∃ q, l / 2 ^ 52 = q + 1 := ⟨l / 2 ^ 52 - 1, by omega⟩
    obtain ⟨r, hr2⟩ : ∃ r, l % 2 ^ 52 = r := ⟨_, rfl⟩
    rw [hq2, hr2] at hdm
    rw [hr2] at hr
    rw [hq2, hr2, Nat.add_sub_cancel]
    have hlog : ((2 ^ 52 + r) * 2 ^ q).log2 = 52 + q := by
      have hp : 0 < 2 ^ q := Nat.pow_pos (by decide)
      have h0 : 0 < 2 ^ 52 + r := Nat.lt_of_lt_of_le (Nat.pow_pos (by decide)) (Nat.le_add_right _ _)
      refine (Nat.log2_eq_iff (Nat.ne_of_gt (Nat.mul_pos h0 hp))).2 ⟨?_, ?_⟩
      · rw [Nat.pow_add]
        exact Nat.mul_le_mul_right _ (Nat.le_add_right _ _)
      · rw [show 52 + q + 1 = 53 + q by omega, Nat.pow_add]
        exact (Nat.mul_lt_mul_right hp).2 (by
          rw [show (2 : Nat) ^ 53 = 2 ^ 52 + 2 ^ 52 from rfl]
          exact Nat.add_lt_add_left hr _)
    rw [hlog, show 52 + q - (52 + 0) = q by omega, Nat.add_zero]
    have hs := rne_scale (2 ^ 52 + r) 0 q
    rw [Nat.zero_add] at hs
    rw [hs]
    have hz : rne (2 ^ 52 + r) 0 = 2 ^ 52 + r := by
      unfold rne
      rw [Nat.pow_zero, Nat.div_one, Nat.mod_one]
      rfl
    rw [hz, ← hdm, Nat.mul_add, Nat.mul_one, Nat.mul_comm q]
    omega
theorem sm_ge (l p : Nat) (hl : l ≤ INFB) (hp : p ≤ INFB) : l ≤ smM l p := by
  rcases Nat.lt_or_eq_of_le hl with h1 | h1
  · refine Nat.le_trans ?_ (sm_mono l 0 p hl hp (Nat.zero_le _))
    obtain ⟨T, e, a1, a2, a3⟩ := add_fin l 0 h1 (by decide)
    rw [show valR 0 = 0 from rfl, Nat.add_zero] at a3
    rw [a2]
    rcases Nat.eq_zero_or_pos l with h0 | h0
    · rw [h0]; exact Nat.zero_le _
    · have hv := nr_exact l h0
      rcases Nat.eq_zero_or_pos T with t0 | t0
      · subst t0
        rw [Nat.zero_mul] at a3
        rw [← a3] at hv
        have : nr 0 0 = 0 := by decide
        omega
      · rw [near_nr T e 0 t0 a1, a3, hv]
        exact Nat.le_min.2 ⟨Nat.le_refl _, hl⟩
  · rw [sm_inf l p hl hp (.inl h1), h1]
    exact Nat.le_refl _
theorem af_mono {m : Bk} (h : m.cl) (d e : Nat) (hde : d ≤ e) (he : e < 18446744073709551616) : afM m d ≤ afM m e := by
  have hlI := Nat.le_trans h.l h.b
  unfold afM
  rcases Nat.eq_zero_or_pos d with h0 | h0
  · rw [if_pos h0]
    rcases Nat.eq_zero_or_pos e with h1 | h1
    · rw [if_pos h1]
      exact Nat.le_refl _
    · rw [if_neg (by omega)]
      exact Nat.le_min.2 ⟨h.l, sm_ge _ _ hlI (pr_ok m.r e h.r h1 he).2⟩
  · rw [if_neg (by omega), if_neg (by omega)]
    have := sm_mono m.l (prM m.r d) (prM m.r e) hlI (pr_ok m.r e h.r (by omega) he).2 (pr_mono m.r d e h.r h0 hde he)
    exact Nat.le_min.2 ⟨Nat.min_le_left _ _, Nat.le_trans (Nat.min_le_right _ _) this⟩
/-- The search finds the least, where what is sought stays once it has come. -/
theorem ls_least (p : Nat → Bool) (E : Nat) (hp : ∀ i j, i ≤ j → j < E → p i = true → p j = true) : ∀ (f lo hi : Nat), lo ≤ hi → hi ≤ E → hi - lo < 2 ^ f → (∀ i, i < lo → p i = false) → (∀ i, hi ≤ i → i < E → p i = true) →
    lsM p f lo hi ≤ E ∧ (∀ i, i < lsM p f lo hi → p i = false) ∧ (lsM p f lo hi < E → p (lsM p f lo hi) = true) := by
  intro f
  induction f with
  | zero =>
    intro lo hi h1 h2 h3 h4 h5
    have he : lo = hi := by simp at h3; omega
    show lo ≤ E ∧ (∀ i, i < lo → p i = false) ∧ (lo < E → p lo = true)
    exact ⟨by omega, h4, fun h => h5 lo (by omega) h⟩
  | succ f ih =>
    intro lo hi h1 h2 h3 h4 h5
    by_cases hlt : lo < hi
    · rw [Nat.pow_succ] at h3
      have hs : lsM p (f + 1) lo hi = if p (lo + (hi - lo) / 2) then lsM p f lo (lo + (hi - lo) / 2) else lsM p f (lo + (hi - lo) / 2 + 1) hi := by
        rw [lsM, if_pos hlt]
      rw [hs]
      cases hv : p (lo + (hi - lo) / 2)
      · rw [if_neg (by decide)]
        refine ih _ hi (by omega) h2 (by omega) (fun i hi2 => ?_) h5
        cases hpi : p i
        · rfl
        · have := hp i (lo + (hi - lo) / 2) (by omega) (by omega) hpi
          rw [hv] at this
          exact absurd this (by decide)
      · rw [if_pos rfl]
        exact ih lo _ (by omega) (by omega) (by omega) h4 (fun i hi2 hi3 => hp _ i hi2 hi3 hv)
    · rw [lsM_end p (f + 1) lo hi hlt]
      exact ⟨by omega, h4, fun h => h5 lo (by omega) h⟩
/-- What Wait finds: behind it a bucket has what is asked for, ahead of it not. -/
theorem wait_least {c : Bk} (h : c.cl) (n R : Nat) (hR : lsM (isSo c n) 41 0 1099511627777 = R) : R ≤ 1099511627777 ∧ (∀ i, i < R → afM c i < n) ∧ (R < 1099511627777 → n ≤ afM c R) := by
  have hp : ∀ i j, i ≤ j → j < 1099511627777 → isSo c n i = true → isSo c n j = true := by
    intro i j hij hj hi
    unfold isSo at hi ⊢
    have h1 := of_decide_eq_true hi
    exact decide_eq_true (Nat.le_trans h1 (af_mono h i j hij (by omega)))
  have := ls_least (isSo c n) 1099511627777 hp 41 0 1099511627777 (by omega) (by omega) (by decide) (fun i hi => by omega) (fun i h1 h2 => by omega)
  rw [hR] at this
  obtain ⟨h1, h2, h3⟩ := this
  exact ⟨h1, fun i hi => by have := of_decide_eq_false (h2 i hi); omega, fun hr => of_decide_eq_true (h3 hr)⟩
end Go.Proofs.YtiehmpiaddjhiaaDoor
/- Float64: what one rounding adds; bounds of what a bucket lets through. Plain but for afM. -/
namespace Go.Proofs.YtiehmpiaddjhiaaDoor
open Go
set_option linter.unusedVariables false

theorem nr_zero : nr 0 0 = 0 := by decide
theorem val_small (N : Nat) (h : N < 2 ^ 53) : valR N = N := by
  have hB : BIN = 2 ^ 52 := BIN_pow
  have e53 : (2 : Nat) ^ 53 = 2 * 2 ^ 52 := by decide
  unfold valR magR plR
  rw [hB]
  rw [e53] at h
  have hp : 0 < 2 ^ 52 := by decide
  generalize 2 ^ 52 = P at *
  rcases Nat.lt_or_ge N P with h1 | h1
  · rw [if_pos h1, Nat.div_eq_of_lt h1, Nat.zero_sub, Nat.pow_zero, Nat.mul_one]
  · have hq : N / P = 1 := Nat.div_eq_of_lt_le (by omega) (by omega)
    have hm : N % P = N - P := by rw [Nat.mod_eq_sub_mod h1, Nat.mod_eq_of_lt (by omega)]
    rw [if_neg (by omega), hq, hm, Nat.sub_self, Nat.pow_zero, Nat.mul_one]
    omega
theorem val_word (d q : Nat) (h1 : 2 ^ 52 ≤ q) (h2 : q ≤ 2 ^ 53) : valR (d * 2 ^ 52 + q) = q * 2 ^ d := by
  have hB : BIN = 2 ^ 52 := BIN_pow
  have e53 : (2 : Nat) ^ 53 = 2 * 2 ^ 52 := by decide
  unfold valR magR plR
  rw [hB]
  rw [e53] at h2
  have hp : 0 < 2 ^ 52 := by decide
  generalize 2 ^ 52 = P at *
  have hge : P ≤ d * P + q := Nat.le_trans h1 (Nat.le_add_left _ _)
  rw [if_neg (by omega)]
  rcases Nat.lt_or_ge q (2 * P) with h3 | h3
  · have e : d * P + q = (q - P) + P * (d + 1) := by rw [Nat.mul_add, Nat.mul_comm P d]; omega
    rw [e, Nat.add_mul_div_left _ _ hp, Nat.add_mul_mod_self_left, Nat.div_eq_of_lt (by omega), Nat.mod_eq_of_lt (by omega), Nat.zero_add, Nat.add_sub_cancel]
    rw [show P + (q - P) = q by omega]
  · have e : d * P + q = 0 + P * (d + 2) := by rw [Nat.mul_add, Nat.mul_comm P d]; omega
    rw [e, Nat.add_mul_div_left _ _ hp, Nat.add_mul_mod_self_left, Nat.zero_div, Nat.zero_mod, Nat.zero_add, Nat.add_zero]
    rw [show d + 2 - 1 = d + 1 by omega, Nat.pow_succ, show q = 2 * P by omega, Nat.mul_comm (2 ^ d) 2, ← Nat.mul_assoc, Nat.mul_comm P 2]
theorem rne_err (n d : Nat) : 2 * (rne n d * 2 ^ d) ≤ 2 * n + 2 ^ d ∧ 2 * n ≤ 2 * (rne n d * 2 ^ d) + 2 ^ d := by
  unfold rne
  have hg : 0 < 2 ^ d := Nat.pow_pos (by decide)
  generalize 2 ^ d = g at *
  have h1 := Nat.div_add_mod n g
  have hr : n % g < g := Nat.mod_lt _ hg
  rw [Nat.mul_comm] at h1
  generalize n / g = q at *
  generalize n % g = r at *
  by_cases a1 : g < 2 * r
  · rw [decide_eq_true a1, Bool.true_or]
    show 2 * ((q + 1) * g) ≤ _ ∧ _ ≤ 2 * ((q + 1) * g) + g
    rw [Nat.add_mul, Nat.one_mul]
    omega
  · rw [decide_eq_false a1, Bool.false_or]
    by_cases b1 : g = 2 * r
    · have := Bool.toNat_le (decide (g = 2 * r) && decide (q % 2 = 1))
      generalize (decide (g = 2 * r) && decide (q % 2 = 1)).toNat = t at *
      rcases (show t = 0 ∨ t = 1 by omega) with rfl | rfl
      · rw [Nat.add_zero]; omega
      · rw [Nat.add_mul, Nat.one_mul]; omega
    · rw [decide_eq_false b1, Bool.false_and]
      show 2 * ((q + 0) * g) ≤ _ ∧ _ ≤ 2 * ((q + 0) * g) + g
      rw [Nat.add_zero]
      omega
/-- What one rounding adds or takes. -/
theorem val_nr (N : Nat) : valR (nr 0 N) * 2 ^ 53 ≤ N * (2 ^ 53 + 1) ∧ N * 2 ^ 53 ≤ valR (nr 0 N) * (2 ^ 53 + 1) := by
  rcases Nat.lt_or_ge N (2 ^ 53) with h | h
  · have hn : nr 0 N = N := by
      rcases Nat.eq_zero_or_pos N with h0 | h0
      · rw [h0]; exact nr_zero
      · have := nr_exact N h0
        rw [val_small N h] at this
        exact this
    rw [hn, val_small N h, Nat.mul_add, Nat.mul_one]
    exact ⟨Nat.le_add_right _ _, Nat.le_add_right _ _⟩
  · have h0 : 0 < N := Nat.lt_of_lt_of_le (Nat.pow_pos (by decide)) h
    have hL := Nat.log2_self_le (n := N) (by omega)
    have hU := Nat.lt_log2_self (n := N)
    have hl : 53 ≤ N.log2 := (Nat.le_log2 (by omega)).2 h
    unfold nr
    obtain ⟨d, hd⟩ : ∃ d, N.log2 = 52 + d := ⟨N.log2 - 52, by omega⟩
    rw [hd] at hL hU
    rw [hd, show 52 + d - (52 + 0) = d by omega, Nat.add_zero]
    have q1 : 2 ^ 52 ≤ rne N d := rne_ge N d 52 (by rw [Nat.add_comm d 52]; exact hL)
    have q2 : rne N d ≤ 2 ^ 53 := rne_le N d 53 (by rw [show d + 53 = 52 + d + 1 by omega]; exact hU)
    obtain ⟨e1, e2⟩ := rne_err N d
    rw [val_word d _ q1 q2]
    have k1 : 2 ^ 52 * 2 ^ d ≤ N := by rw [← Nat.pow_add]; exact hL
    have k2 : 2 ^ 52 * 2 ^ d ≤ rne N d * 2 ^ d := Nat.mul_le_mul_right _ q1
    have e53 : (2 : Nat) ^ 53 = 2 * 2 ^ 52 := by decide
    rw [e53]
    clear hL hU q1 q2 h
    generalize rne N d * 2 ^ d = V at *
    generalize 2 ^ d = g at *
    generalize (2 : Nat) ^ 52 = P at *
    have m1 := Nat.mul_le_mul_right P e1
    have m2 := Nat.mul_le_mul_right P e2
    rw [Nat.add_mul, Nat.mul_comm g P] at m1 m2
    have c1 : V * (2 * P) = 2 * V * P := by rw [← Nat.mul_assoc, Nat.mul_comm V 2]
    have c2 : N * (2 * P) = 2 * N * P := by rw [← Nat.mul_assoc, Nat.mul_comm N 2]
    rw [Nat.mul_add, Nat.mul_add, Nat.mul_one, Nat.mul_one, c1, c2]
    omega
theorem val_min (N : Nat) : valR (min (nr 0 N) INFB) * 2 ^ 53 ≤ N * (2 ^ 53 + 1) := Nat.le_trans (Nat.mul_le_mul_right _ (valR_le (Nat.min_le_left _ _))) (val_nr N).1
theorem low_min (N : Nat) : min (nr 0 N) INFB = INFB ∨ N * 2 ^ 53 ≤ valR (min (nr 0 N) INFB) * (2 ^ 53 + 1) := by
  rcases Nat.le_total (nr 0 N) INFB with h | h
  · rw [Nat.min_eq_left h]
    exact .inr (val_nr N).2
  · rw [Nat.min_eq_right h]
    exact .inl rfl
theorem near_zero (e : Int) : Ieee.double.nearest false 0 e = 0 := by
  unfold Ieee.Format.nearest
  rw [if_pos rfl, word_is]
/-- The word of a sum, by its value. -/
theorem near_at0 (T : Nat) (e : Int) (N : Nat) (he : (0 : Int) ≤ e + 1074 + ((0 : Nat) : Int)) (h : T * 2 ^ (e + 1074 + ((0 : Nat) : Int)).toNat = N) : Ieee.double.nearest false T e = min (nr 0 N) INFB := by
  rcases Nat.eq_zero_or_pos T with h0 | h0
  · subst h0
    rw [Nat.zero_mul] at h
    rw [near_zero, ← h, nr_zero]
    rfl
  · rw [near_nr T e 0 h0 he, h]
theorem nr_scale (u N : Nat) : nr u (N * 2 ^ u) = nr 0 N := by
  rcases Nat.eq_zero_or_pos N with h0 | h0
  · subst h0
    rw [Nat.zero_mul, nr_zero]
    unfold nr
    rw [show (0 : Nat).log2 = 0 by decide, Nat.zero_sub, Nat.zero_mul, Nat.zero_add, Nat.zero_add]
    unfold rne
    rw [Nat.zero_div, Nat.zero_mod]
    have : 0 < 2 ^ u := Nat.pow_pos (by decide)
    rw [decide_eq_false (by omega), decide_eq_false (by omega)]
    rfl
  · unfold nr
    have hlog : (N * 2 ^ u).log2 = N.log2 + u := by
      have hp : 0 < 2 ^ u := Nat.pow_pos (by decide)
      refine (Nat.log2_eq_iff (Nat.ne_of_gt (Nat.mul_pos h0 hp))).2 ⟨?_, ?_⟩
      · rw [Nat.pow_add]
        exact Nat.mul_le_mul_right _ (Nat.log2_self_le (by omega))
      · rw [show N.log2 + u + 1 = N.log2 + 1 + u by omega, Nat.pow_add]
        exact (Nat.mul_lt_mul_right hp).2 Nat.lt_log2_self
    rw [hlog, show N.log2 + u - (52 + u) = N.log2 - 52 by omega, show N.log2 - (52 + 0) = N.log2 - 52 by omega, rne_scale, Nat.add_zero]
theorem near_at (u T : Nat) (e : Int) (N : Nat) (he : (0 : Int) ≤ e + 1074 + (u : Int)) (h : T * 2 ^ (e + 1074 + (u : Int)).toNat = N * 2 ^ u) : Ieee.double.nearest false T e = min (nr 0 N) INFB := by
  rcases Nat.eq_zero_or_pos T with h0 | h0
  · subst h0
    rw [Nat.zero_mul] at h
    have hN : N = 0 := by
      rcases Nat.eq_zero_or_pos N with h1 | h1
      · exact h1
      · exact absurd h (Nat.ne_of_lt (Nat.mul_pos h1 (Nat.pow_pos (by decide))))
    rw [near_zero, hN, nr_zero]
    rfl
  · rw [near_nr T e u h0 he, h, nr_scale]
theorem sm_word (x y : Nat) (hx : x < INFB) (hy : y < INFB) : smM x y = min (nr 0 (valR x + valR y)) INFB := by
  obtain ⟨T, e, a1, a2, a3⟩ := add_fin x y hx hy
  rw [a2]
  exact near_at0 T e _ a1 a3
theorem sm_up (x y : Nat) (hx : x ≤ INFB) (hy : y ≤ INFB) : valR (smM x y) * 2 ^ 53 ≤ (valR x + valR y) * (2 ^ 53 + 1) := by
  rcases Nat.lt_or_eq_of_le hx with h1 | h1
  · rcases Nat.lt_or_eq_of_le hy with h2 | h2
    · rw [sm_word x y h1 h2]
      exact val_min _
    · rw [sm_inf x y hx hy (.inr h2), h2]
      exact Nat.mul_le_mul (Nat.le_add_left _ _) (Nat.le_add_right _ _)
  · rw [sm_inf x y hx hy (.inl h1), h1]
    exact Nat.mul_le_mul (Nat.le_add_right _ _) (Nat.le_add_right _ _)
theorem sm_low (x y : Nat) (hx : x ≤ INFB) (hy : y ≤ INFB) : smM x y = INFB ∨ (x < INFB ∧ y < INFB ∧ (valR x + valR y) * 2 ^ 53 ≤ valR (smM x y) * (2 ^ 53 + 1)) := by
  rcases Nat.lt_or_eq_of_le hx with h1 | h1
  · rcases Nat.lt_or_eq_of_le hy with h2 | h2
    · rw [sm_word x y h1 h2]
      rcases low_min (valR x + valR y) with h | h
      · exact .inl h
      · exact .inr ⟨h1, h2, h⟩
    · exact .inl (sm_inf x y hx hy (.inr h2))
  · exact .inl (sm_inf x y hx hy (.inl h1))
/-- A number of ticks, exactly. -/
theorem tk_val (d : Nat) (h0 : 0 < d) (h : d < 2 ^ 53) : valR (tkF d) = d * 2 ^ 1074 ∧ 0 < tkF d ∧ tkF d < INFB := by
  have hok := tk_ok d h0 (Nat.lt_of_lt_of_le h (by decide))
  refine ⟨?_, hok⟩
  have hw : tkF d = min (nr 0 (d * 2 ^ 1074)) INFB := by
    rw [tkF_is]
    refine near_at0 d 0 _ (by decide) ?_
    rw [show ((0 : Int) + 1074 + ((0 : Nat) : Int)).toNat = 1074 from rfl]
  have hlt : nr 0 (d * 2 ^ 1074) < INFB := by
    have := hok.2
    rw [hw] at this
    omega
  rw [hw, Nat.min_eq_left (Nat.le_of_lt hlt)]
  have hl : d.log2 < 53 := (Nat.log2_lt (by omega)).2 h
  have hL := Nat.log2_self_le (n := d) (by omega)
  have hU := Nat.lt_log2_self (n := d)
  obtain ⟨k, hk⟩ : ∃ k, 52 - d.log2 = k := ⟨_, rfl⟩
  have e0 : d * 2 ^ 1074 = (d * 2 ^ k) * 2 ^ (1074 - k) := by rw [Nat.mul_assoc, ← Nat.pow_add, show k + (1074 - k) = 1074 by omega]
  have m1 : 2 ^ 52 ≤ d * 2 ^ k := by
    rw [show (52 : Nat) = d.log2 + k by omega, Nat.pow_add]
    exact Nat.mul_le_mul_right _ hL
  have m2 : d * 2 ^ k < 2 ^ 53 := by
    rw [show (53 : Nat) = d.log2 + 1 + k by omega, Nat.pow_add]
    exact (Nat.mul_lt_mul_right (Nat.pow_pos (by decide))).2 hU
  rw [e0]
  have hv := val_word (1074 - k) (d * 2 ^ k) m1 (Nat.le_of_lt m2)
  have hx := nr_exact ((1074 - k) * 2 ^ 52 + d * 2 ^ k) (Nat.lt_of_lt_of_le (Nat.pow_pos (by decide)) (Nat.le_trans m1 (Nat.le_add_left _ _)))
  rw [hv] at hx
  rw [hx, hv]
theorem pr_word (r d : Nat) (hr : r < INFB) (h0 : 0 < d) (h : d < 2 ^ 53) : prM r d = min (nr 0 (valR r * d)) INFB := by
  obtain ⟨t1, t2, t3⟩ := tk_val d h0 h
  unfold prM
  obtain ⟨T, f, a1, a2, a3⟩ := mul_fin r (tkF d) hr t3
  rw [a2]
  exact near_at 1074 T f _ a1 (by rw [a3, t1, Nat.mul_assoc])
theorem pr_inf (d : Nat) (h0 : 0 < d) (h : d < 2 ^ 53) : prM INFB d = INFB := by
  obtain ⟨t1, t2, t3⟩ := tk_val d h0 h
  unfold prM Ieee.Format.mul
  obtain ⟨n, j, h2, hn⟩ := fin_read (tkF d) t3 t2
  rw [read_infb, h2]
  unfold Ieee.Datum.product
  simp only
  rw [if_neg (by omega)]
  rw [show (false ^^ false) = false from rfl, wr_inf]
  rfl
theorem pr_up (r d : Nat) (hr : r ≤ INFB) (h0 : 0 < d) (h : d < 2 ^ 53) : valR (prM r d) * 2 ^ 53 ≤ valR r * d * (2 ^ 53 + 1) := by
  rcases Nat.lt_or_eq_of_le hr with h1 | h1
  · rw [pr_word r d h1 h0 h]
    exact val_min _
  · rw [h1, pr_inf d h0 h]
    exact Nat.mul_le_mul (Nat.le_mul_of_pos_right _ h0) (Nat.le_add_right _ _)
theorem pr_low (r d : Nat) (hr : r ≤ INFB) (h0 : 0 < d) (h : d < 2 ^ 53) : prM r d = INFB ∨ valR r * d * 2 ^ 53 ≤ valR (prM r d) * (2 ^ 53 + 1) := by
  rcases Nat.lt_or_eq_of_le hr with h1 | h1
  · rw [pr_word r d h1 h0 h]
    exact low_min _
  · rw [h1]
    exact .inl (pr_inf d h0 h)
/-- A difference of two finite ones. -/
theorem sub_fin (x y : Nat) (hx : x < INFB) (hy : y ≤ x) : ∃ s, Ieee.double.sub x y = some s ∧ s ≤ x ∧ valR s * 2 ^ 53 ≤ (valR x - valR y) * (2 ^ 53 + 1) := by
  have hyI : y < INFB := Nat.lt_of_le_of_lt hy hx
  have hvv := valR_le hy
  obtain ⟨p, hp⟩ : ∃ p, plR x = p := ⟨_, rfl⟩
  obtain ⟨q, hq⟩ : ∃ q, plR y = q := ⟨_, rfl⟩
  have hA : magR x * 2 ^ (p - min p q) * 2 ^ min p q = valR x := by
    rw [Nat.mul_assoc, ← Nat.pow_add, Nat.sub_add_cancel (Nat.min_le_left _ _)]
    unfold valR
    rw [hp]
  have hB : magR y * 2 ^ (q - min p q) * 2 ^ min p q = valR y := by
    rw [Nat.mul_assoc, ← Nat.pow_add, Nat.sub_add_cancel (Nat.min_le_right _ _)]
    unfold valR
    rw [hq]
  have hpos : 0 < 2 ^ min p q := Nat.pow_pos (by decide)
  generalize hAA : magR x * 2 ^ (p - min p q) = A at *
  generalize hBB : magR y * 2 ^ (q - min p q) = B at *
  have hBA : B ≤ A := by
    rw [← hA, ← hB] at hvv
    exact Nat.le_of_mul_le_mul_right hvv hpos
  have key : Ieee.double.sub x y = some (Ieee.double.nearest false (A - B) (-1074 + ((min p q : Nat) : Int))) := by
    unfold Ieee.Format.sub
    rw [read_fin x hx, read_fin y hyI, hp, hq]
    have e1 : min ((-1074 : Int) + (p : Int)) (-1074 + (q : Int)) = -1074 + ((min p q : Nat) : Int) := by omega
    have e2 : ((-1074 : Int) + (p : Int) - (-1074 + ((min p q : Nat) : Int))).toNat = p - min p q := by omega
    have e3 : ((-1074 : Int) + (q : Int) - (-1074 + ((min p q : Nat) : Int))).toNat = q - min p q := by omega
    show (Ieee.Datum.sum (.number false (magR x) _) (.number true (magR y) _)).map _ = _
    unfold Ieee.Datum.sum
    dsimp only
    rw [e1, e2, e3, signed_f]
    have s2 : Ieee.signed true (magR y) (q - min p q) = -(B : Int) := by
      unfold Ieee.signed
      rw [if_pos rfl, Nat.shiftLeft_eq, hBB]
    rw [s2, hAA]
    have e4 : (if (A : Int) + -(B : Int) = 0 then false && true else decide ((A : Int) + -(B : Int) < 0)) = false := by
      split
      · rfl
      · exact decide_eq_false (by omega)
    rw [e4, show ((A : Int) + -(B : Int)).natAbs = A - B by omega]
    rfl
  have hw : Ieee.double.nearest false (A - B) (-1074 + ((min p q : Nat) : Int)) = min (nr 0 (valR x - valR y)) INFB := by
    refine near_at0 _ _ _ (by omega) ?_
    rw [show ((-1074 : Int) + ((min p q : Nat) : Int) + 1074 + ((0 : Nat) : Int)).toNat = min p q by omega, Nat.sub_mul, hA, hB]
  refine ⟨_, key, ?_, ?_⟩
  · rw [hw]
    refine Nat.le_trans (Nat.min_le_left _ _) ?_
    rcases Nat.eq_zero_or_pos (valR x - valR y) with h0 | h0
    · rw [h0, nr_zero]; exact Nat.zero_le _
    · have hx0 : 0 < x := by
        rcases Nat.eq_zero_or_pos x with h1 | h1
        · rw [h1] at h0
          have : valR 0 = 0 := by decide
          omega
        · exact h1
      have := nr_mono 0 _ _ h0 (Nat.sub_le (valR x) (valR y))
      rw [nr_exact x hx0] at this
      exact this
  · rw [hw]
    exact val_min _
end Go.Proofs.YtiehmpiaddjhiaaDoor
