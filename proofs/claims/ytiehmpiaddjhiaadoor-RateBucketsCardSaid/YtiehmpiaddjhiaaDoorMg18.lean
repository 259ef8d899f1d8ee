/- Texts that belong together, one behind the other: RaBe, RaHs. Conditions: those of each. -/
import Derived.Test.YtiehmpiaddjhiaaDoorMg17
import Derived.Test.YtiehmpiaddjhiaaDoorMg15
/- RateBounds: what holds from try to try. Plain but for afM. -/
namespace Go.Proofs.YtiehmpiaddjhiaaDoor
open Go
set_option linter.unusedVariables false

theorem ar_pad {X Y p q D E : Nat} (hD : D ≤ E) (h : X * p ≤ Y * q) : X * (p * D) ≤ Y * (q * E) := by
  rw [← Nat.mul_assoc, ← Nat.mul_assoc]
  exact Nat.mul_le_mul h hD
theorem ar_after {T L L1 g M p q F G : Nat} (hF : F ≤ G) (hp : p ≤ q) (h1 : L1 * F ≤ (L + g) * G) (h2 : (T + L) * p ≤ M * q) : (T + L1) * (p * F) ≤ (M + g) * (q * G) := by
  have m1 := Nat.mul_le_mul_right p h1
  have m2 := Nat.mul_le_mul_right G h2
  have m3 := Nat.mul_le_mul_left (T * p) hF
  have m4 := Nat.mul_le_mul_right G (Nat.mul_le_mul_left g hp)
  simp only [Nat.mul_add, Nat.add_mul, Nat.mul_assoc, Nat.mul_comm, Nat.mul_left_comm] at *
  omega
theorem ar_take {T L1 L2 n M p q D E : Nat} (hD : D ≤ E) (hn : n ≤ L1) (h1 : L2 * D ≤ (L1 - n) * E) (h2 : (T + L1) * p ≤ M * q) : (T + n + L2) * (p * D) ≤ M * (q * E) := by
  obtain ⟨m, rfl⟩ : ∃ m, L1 = m + n := ⟨L1 - n, by omega⟩
  rw [Nat.add_sub_cancel] at h1
  have m1 := Nat.mul_le_mul_right p h1
  have m2 := Nat.mul_le_mul_right E h2
  have m3 := Nat.mul_le_mul_left ((T + n) * p) hD
  simp only [Nat.mul_add, Nat.add_mul, Nat.mul_assoc, Nat.mul_comm, Nat.mul_left_comm] at *
  omega
theorem ar_sum {T t t2 n p q D E : Nat} (hp : p ≤ q) (h1 : t2 * D ≤ (t + n) * E) (h2 : t * p ≤ T * q) : t2 * (p * D) ≤ (T + n) * (q * E) := by
  have m1 := Nat.mul_le_mul_right p h1
  have m2 := Nat.mul_le_mul_right E h2
  have m3 := Nat.mul_le_mul_right E (Nat.mul_le_mul_left n hp)
  simp only [Nat.mul_add, Nat.add_mul, Nat.mul_assoc, Nat.mul_comm, Nat.mul_left_comm] at *
  omega
theorem ar_two {a b c g D E : Nat} (h1 : c * D ≤ (a + b) * E) (h2 : b * D ≤ g * E) (hD : D ≤ E) : c * (D * D) ≤ (a + g) * (E * E) := by
  have m1 := Nat.mul_le_mul_right D h1
  have m2 := Nat.mul_le_mul_right E h2
  have m3 := Nat.mul_le_mul_left (a * E) hD
  simp only [Nat.mul_add, Nat.add_mul, Nat.mul_assoc, Nat.mul_comm, Nat.mul_left_comm] at *
  omega
theorem ar_low {a b c g D E : Nat} (h1 : (a + b) * D ≤ c * E) (h2 : g * D ≤ b * E) (hD : D ≤ E) : (a + g) * (D * D) ≤ c * (E * E) := by
  have m1 := Nat.mul_le_mul_right E h1
  have m2 := Nat.mul_le_mul_right D h2
  have m3 := Nat.mul_le_mul_left (a * D) hD
  simp only [Nat.mul_add, Nat.add_mul, Nat.mul_assoc, Nat.mul_comm, Nat.mul_left_comm] at *
  omega
def DD : Nat := 2 ^ 53
def EE : Nat := 2 ^ 53 + 1
theorem DE : DD ≤ EE := Nat.le_add_right _ _
theorem DE2 : DD * DD ≤ EE * EE := Nat.mul_le_mul DE DE
theorem DEp (k : Nat) : DD ^ k ≤ EE ^ k := Nat.pow_le_pow_left DE k
/-- X is not above Y by more than k roundings may add. -/
def Abt (k X Y : Nat) : Prop := X * DD ^ k ≤ Y * EE ^ k
theorem Abt.pad {k X Y : Nat} (h : Abt k X Y) : Abt (k + 1) X Y := ar_pad DE h
theorem Abt.pads {k X Y : Nat} (h : Abt k X Y) : ∀ j, Abt (k + j) X Y
  | 0 => h
  | j + 1 => (Abt.pads h j).pad
theorem Abt.to {k X Y : Nat} (h : Abt k X Y) {m : Nat} (hm : k ≤ m) : Abt m X Y := by
  have := h.pads (m - k)
  rwa [Nat.add_sub_cancel' hm] at this
theorem Abt.trans {k j X Y Z : Nat} (h : Abt k X Y) (h2 : Abt j Y Z) : Abt (k + j) X Z := by
  unfold Abt at *
  rw [Nat.pow_add, Nat.pow_add]
  have m1 := Nat.mul_le_mul_right (DD ^ j) h
  have m2 := Nat.mul_le_mul_right (EE ^ k) h2
  simp only [Nat.mul_assoc, Nat.mul_comm, Nat.mul_left_comm] at *
  omega
theorem pow2 (D k : Nat) : D ^ (k + 2) = D ^ k * (D * D) := by rw [Nat.pow_succ, Nat.pow_succ, Nat.mul_assoc]
/-- What holds from try to try. -/
structure BdI (r B i now t L : Nat) : Prop where
  kr : r ≤ INFB
  kb : B ≤ INFB
  kt : t ≤ INFB
  kl : L ≤ B
  nw : now ≤ i * 1048576
  inv : B = INFB ∨ ∃ T, Abt (4 * i) (T + valR L) (valR B + valR r * now) ∧ Abt (4 * i) (valR t) T
theorem BdI.start {r B : Nat} (hr : r ≤ INFB) (hb : B ≤ INFB) : BdI r B 0 0 0 B :=
  ⟨hr, hb, Nat.zero_le _, Nat.le_refl _, Nat.le_refl _, .inr ⟨0, by unfold Abt; simp, by unfold Abt; rw [show valR 0 = 0 from rfl, Nat.zero_mul]; exact Nat.zero_le _⟩⟩
theorem af_up (r B L now : Nat) (a : Int) (hr : r ≤ INFB) (hb : B ≤ INFB) (hl : L ≤ B) (d : Nat) (hd : d < 1048576) : valR (afM ⟨r, B, L, a⟩ d) * (DD * DD) ≤ (valR L + valR r * d) * (EE * EE) := by
  unfold afM
  dsimp only
  rcases Nat.eq_zero_or_pos d with h0 | h0
  · rw [if_pos h0, h0, Nat.mul_zero, Nat.add_zero]
    exact Nat.mul_le_mul_left _ DE2
  · rw [if_neg (by omega)]
    have hd53 : d < 2 ^ 53 := Nat.lt_trans hd (by decide)
    have hp := (pr_ok r d hr h0 (by omega)).2
    refine Nat.le_trans (Nat.mul_le_mul_right _ (valR_le (Nat.min_le_right _ _))) ?_
    exact ar_two (sm_up L (prM r d) (Nat.le_trans hl hb) hp) (pr_up r d hr h0 hd53) DE
theorem BdI.miss {r B i now t L : Nat} (h : BdI r B i now t L) (a : Int) (d : Nat) (hd : d < 1048576) : BdI r B (i + 1) (now + d) t (afM ⟨r, B, L, a⟩ d) := by
  have hal : afM ⟨r, B, L, a⟩ d ≤ B := by
    unfold afM
    split
    · exact h.kl
    · exact Nat.min_le_left _ _
  refine ⟨h.kr, h.kb, h.kt, hal, by have := h.nw; omega, ?_⟩
  rcases h.inv with h1 | ⟨T, h1, h2⟩
  · exact .inl h1
  · refine .inr ⟨T, ?_, h2.to (by omega)⟩
    have := ar_after DE2 (DEp (4 * i)) (af_up r B L now a h.kr h.kb h.kl d hd) h1
    rw [← pow2, ← pow2, Nat.add_assoc, ← Nat.mul_add] at this
    exact Abt.to (k := 4 * i + 2) this (by omega)
theorem BdI.hit {r B i now t L : Nat} (h : BdI r B i now t L) (a : Int) (d : Nat) (hd : d < 1048576) (n L2 : Nat) (hn : n ≤ afM ⟨r, B, L, a⟩ d) (hs : (afM ⟨r, B, L, a⟩ d = INFB ∧ L2 = INFB) ∨ (afM ⟨r, B, L, a⟩ d ≠ INFB ∧ L2 ≤ afM ⟨r, B, L, a⟩ d ∧ valR L2 * 2 ^ 53 ≤ (valR (afM ⟨r, B, L, a⟩ d) - valR n) * (2 ^ 53 + 1))) : BdI r B (i + 1) (now + d) (smM t n) L2 := by
  have hal : afM ⟨r, B, L, a⟩ d ≤ B := by
    unfold afM
    split
    · exact h.kl
    · exact Nat.min_le_left _ _
  have hn2 : n ≤ INFB := Nat.le_trans hn (Nat.le_trans hal h.kb)
  refine ⟨h.kr, h.kb, (sm_ok t n h.kt hn2).2, ?_, by have := h.nw; omega, ?_⟩
  · rcases hs with ⟨h1, h2⟩ | ⟨h1, h2, h3⟩
    · rw [h2, ← h1]; exact hal
    · exact Nat.le_trans h2 hal
  rcases h.inv with h1 | ⟨T, h1, h2⟩
  · exact .inl h1
  · rcases hs with ⟨s1, s2⟩ | ⟨s1, s2, s3⟩
    · exact .inl (Nat.le_antisymm h.kb (by rw [← s1]; exact hal))
    · refine .inr ⟨T + valR n, ?_, ?_⟩
      · have k1 := ar_after DE2 (DEp (4 * i)) (af_up r B L now a h.kr h.kb h.kl d hd) h1
        rw [← pow2, ← pow2, Nat.add_assoc, ← Nat.mul_add] at k1
        have k2 := ar_take DE (valR_le hn) s3 k1
        rw [← Nat.pow_succ, ← Nat.pow_succ] at k2
        exact Abt.to (k := 4 * i + 2 + 1) k2 (by omega)
      · have k2 := ar_sum (DEp (4 * i)) (sm_up t n h.kt hn2) h2
        rw [show (2 : Nat) ^ 53 + 1 = EE from rfl, show (2 : Nat) ^ 53 = DD from rfl, ← Nat.pow_succ, ← Nat.pow_succ] at k2
        exact Abt.to (k := 4 * i + 1) k2 (by omega)
/-- The most that a bucket may have let through. -/
def mostM (r B now : Nat) : Nat := if now = 0 then B else smM B (prM r now)
def CW : Nat := 4607182418804521008
theorem val_cw : valR CW = 4503599631874096 * 2 ^ 1022 := by
  unfold valR
  rw [show magR CW = 4503599631874096 by decide, show plR CW = 1022 by decide]
theorem big_cw : EE ^ 482 * 2 ^ 52 ≤ DD ^ 482 * 4503599631874096 := by decide +kernel
theorem most_ok (r B now : Nat) (hr : r ≤ INFB) (hb : B ≤ INFB) (hn : now < 2 ^ 53) : mostM r B now ≤ INFB := by
  unfold mostM
  split
  · exact hb
  · exact (sm_ok B _ hb (pr_ok r now hr (by omega) (Nat.lt_trans hn (by decide))).2).2
theorem most_low (r B now : Nat) (hr : r ≤ INFB) (hb : B ≤ INFB) (hn : now < 2 ^ 53) : mostM r B now = INFB ∨ (B < INFB ∧ Abt 2 (valR B + valR r * now) (valR (mostM r B now))) := by
  unfold mostM
  rcases Nat.eq_zero_or_pos now with h0 | h0
  · rw [if_pos h0, h0, Nat.mul_zero, Nat.add_zero]
    rcases Nat.lt_or_eq_of_le hb with h1 | h1
    · exact .inr ⟨h1, Nat.mul_le_mul_left _ (DEp 2)⟩
    · exact .inl h1
  · rw [if_neg (by omega)]
    have hp := (pr_ok r now hr h0 (Nat.lt_trans hn (by decide))).2
    rcases sm_low B (prM r now) hb hp with h1 | ⟨h1, h2, h3⟩
    · exact .inl h1
    · refine .inr ⟨h1, ?_⟩
      rcases pr_low r now hr h0 hn with h4 | h4
      · omega
      · have := ar_low h3 h4 (Nat.le_add_right (2 ^ 53) 1)
        unfold Abt
        rw [Nat.pow_succ, Nat.pow_one, Nat.pow_succ, Nat.pow_one]
        exact this
theorem near_own (t : Nat) (ht : t ≤ INFB) : Ieee.double.nearest false (valR t) (-1074) = t := by
  rw [near_at0 (valR t) (-1074) (valR t) (by decide) (by rw [show ((-1074 : Int) + 1074 + ((0 : Nat) : Int)).toNat = 0 from rfl, Nat.pow_zero, Nat.mul_one])]
  rcases Nat.eq_zero_or_pos t with h0 | h0
  · subst h0
    rw [show valR 0 = 0 from rfl, nr_zero]
    rfl
  · rw [nr_exact t h0, Nat.min_eq_left ht]
theorem BdI.last {r B i now t L : Nat} (h : BdI r B i now t L) (hi : i ≤ 60) : ∃ s, Ieee.double.mul (mostM r B now) CW = some s ∧ s ≤ INFB ∧ t ≤ s := by
  have hnw : now < 2 ^ 53 := Nat.lt_of_le_of_lt (Nat.le_trans h.nw (Nat.mul_le_mul_right _ hi)) (by decide)
  have hm := most_ok r B now h.kr h.kb hnw
  have hcw : CW < INFB := by decide
  have hc0 : 0 < CW := by decide
  obtain ⟨s, e, hs⟩ := mul_ok (mostM r B now) CW hm hcw hc0
  refine ⟨s, e, hs, ?_⟩
  have hinf : mostM r B now = INFB → t ≤ s := fun hmi => by
    have : s = INFB := by
      rw [hmi] at e
      unfold Ieee.Format.mul at e
      obtain ⟨n, j, h2, hn⟩ := fin_read CW hcw hc0
      rw [read_infb, h2] at e
      unfold Ieee.Datum.product at e
      simp only at e
      rw [if_neg (by omega)] at e
      rw [show (false ^^ false) = false from rfl, wr_inf] at e
      exact (Option.some.inj e).symm
    rw [this]
    exact h.kt
  rcases most_low r B now h.kr h.kb hnw with h1 | ⟨h1, h2⟩
  · exact hinf h1
  · rcases Nat.lt_or_eq_of_le hm with h3 | h3
    · rcases h.inv with h4 | ⟨T, h4, h5⟩
      · omega
      · have h6 : Abt (4 * i) T (valR B + valR r * now) := Nat.le_trans (Nat.mul_le_mul_right _ (Nat.le_add_right T (valR L))) h4
        have h7 : Abt 482 (valR t) (valR (mostM r B now)) := ((h5.trans h6).trans h2).to (by omega)
        have h8 : valR t * 2 ^ 52 ≤ valR (mostM r B now) * 4503599631874096 := by
          have m1 := Nat.mul_le_mul_right (2 ^ 52) h7
          have m2 := Nat.mul_le_mul_left (valR (mostM r B now)) big_cw
          have hDk : ∀ k, 0 < DD ^ k := fun k => Nat.pow_pos (by decide)
          have hD := hDk 482
          refine Nat.le_of_mul_le_mul_right ?_ hD
          generalize DD ^ 482 = x at *
          generalize EE ^ 482 = y at *
          generalize valR t = v at *
          generalize valR (mostM r B now) = m at *
          simp only [Nat.mul_assoc, Nat.mul_comm, Nat.mul_left_comm] at *
          omega
        obtain ⟨T2, f, a1, a2, a3⟩ := mul_fin (mostM r B now) CW h3 hcw
        rw [e, Option.getD_some] at a2
        rw [a2]
        have := near_mono (valR t) T2 (-1074) f 1074 (by decide) a1 (by
          rw [a3, val_cw, show ((-1074 : Int) + 1074 + ((1074 : Nat) : Int)).toNat = 52 + 1022 from rfl]
          obtain ⟨z, hz⟩ : ∃ z : Nat, z = 1022 := ⟨_, rfl⟩
          rw [← hz, Nat.pow_add, ← Nat.mul_assoc, ← Nat.mul_assoc]
          exact Nat.mul_le_mul_right _ h8)
        rw [near_own t h.kt] at this
        exact this
    · exact hinf h3
end Go.Proofs.YtiehmpiaddjhiaaDoor
/- Package rate: Has. -/
namespace Go.Proofs.YtiehmpiaddjhiaaDoor
open Go.RowKit Go.Sort
set_option linter.unusedVariables false

set_option maxRecDepth 100000 in
theorem has_yes (g : Nat) (m : Bk) (hm : m.ok) (now : Int) (hn : -9223372036854775808 ≤ now ∧ now ≤ 9223372036854775807) (w : World) (hb : KB w g m) : Calls Tryd.prog 13 #[.pointer (some ⟨g, 0, none⟩), .int .i64 now] w fun e w' => e = .returned (.float .f64 (brM m now).l) ∧ KB w' g (brM m now) ∧ Kept (One g) w w' := by
  have HM := Lib.hid hm
  have HN := Lib.hid hn
  have hbr := bring_yes g m hm now hn w hb
  obtain ⟨c, hc⟩ : ∃ c, brM m now = c := ⟨_, rfl⟩
  rw [hc] at hbr ⊢
  have HBR := Lib.hid hbr
  clear hm hn hb hbr hc
  go_enter Tryd.func13, Tryd.ntmps13
  go_wp2_with (fail)
  refine HBR.out.mono ?_
  rintro e w1 ⟨rfl, hb, hk⟩
  have HB := Lib.hid hb
  have HK := Lib.hid hk
  clear hb hk
  have c2 := HB.out.c2
  dsimp only
  go_wp2_with (fail)
  go_ret
  exact ⟨rfl, HB.out, HK.out⟩
end Go.Proofs.YtiehmpiaddjhiaaDoor
