/- ICMP in plain words: a word changed; bytes read and laid again. Nothing of the program is named here. -/
import Derived.Test.YtkpelaojjfcpfaaIcH
import Derived.Test.YtkpelaojjfcpfaaTrS
namespace Go.Proofs.Ytkpelaojjfcpfaa
set_option linter.unusedVariables false

theorem tot_zero (l : List UInt8) : totM l = 0 ↔ l = List.replicate l.length 0 := by
  match l with
  | [] => simp [totM, wordsM]
  | [a] =>
    simp [totM, wordsM]
    exact ⟨fun h => by rw [← UInt8.toNat_inj]; simp; omega, fun h => by rw [h]; rfl⟩
  | a :: b :: r =>
    rw [totM_cons2, List.length_cons, List.length_cons, List.replicate_succ, List.replicate_succ]
    constructor
    · intro h
      have ha : a = 0 := by rw [← UInt8.toNat_inj]; simp; omega
      have hb : b = 0 := by rw [← UInt8.toNat_inj]; simp; omega
      have hr : totM r = 0 := by omega
      rw [ha, hb, ← (tot_zero r).1 hr]
    · intro h
      injection h with h1 h2
      injection h2 with h2 h3
      rw [h1, h2, (tot_zero r).2 h3]
      rfl
theorem sum_full (l : List UInt8) : sumM l = 0 ↔ 0 < totM l ∧ totM l % 65535 = 0 := by
  rw [sum_is_zero, accM_eq]
  by_cases h : 0 < totM l
  · rw [norm_full _ h]; simp [h]
  · have h0 : totM l = 0 := by omega
    rw [h0]
    simp [normM]
theorem tot_two (b : List UInt8) (k : Nat) (hk : k % 2 = 0) (hk2 : k + 1 < b.length) (y z x0 x1 : UInt8) (e0 : b[k]? = some x0) (e1 : b[k + 1]? = some x1) :
    totM ((b.set k y).set (k + 1) z) + (256 * x0.toNat + x1.toNat) = totM b + (256 * y.toNat + z.toNat) := by
  have h1 := tot_set b k (by omega) y
  have h2 := tot_set (b.set k y) (k + 1) (by rw [List.length_set]; exact hk2) z
  have w1 : wtM k = 256 := by unfold wtM; rw [if_pos hk]
  have w2 : wtM (k + 1) = 1 := by unfold wtM; rw [if_neg (by omega)]
  have g1 : (b.set k y)[k + 1]'(by rw [List.length_set]; exact hk2) = x1 := by
    rw [List.getElem_set_ne (by omega)]
    exact (List.getElem?_eq_some_iff.1 e1).2
  have g0 : b[k]'(by omega) = x0 := (List.getElem?_eq_some_iff.1 e0).2
  rw [w1, g0] at h1
  rw [w2, g1] at h2
  omega
theorem eq_nat (x y : UInt8) (h : x.toNat = y.toNat) : x = y := UInt8.toNat_inj.1 h
/-- One word changed. -/
theorem chg_sum (b : List UInt8) (k : Nat) (hk : k % 2 = 0) (hk2 : k + 1 < b.length) (hs : sumM b = 0) (y z x0 x1 : UInt8) (e0 : b[k]? = some x0) (e1 : b[k + 1]? = some x1) :
    sumM ((b.set k y).set (k + 1) z) = 0 ↔ (y = x0 ∧ z = x1) ∨ ((x0 = 0 ∧ x1 = 0 ∧ y = 255 ∧ z = 255) ∨ (x0 = 255 ∧ x1 = 255 ∧ y = 0 ∧ z = 0)) ∧ (b.set k y).set (k + 1) z ≠ List.replicate b.length 0 := by
  have ht := tot_two b k hk hk2 y z x0 x1 e0 e1
  have hl : ((b.set k y).set (k + 1) z).length = b.length := by rw [List.length_set, List.length_set]
  have hz := tot_zero ((b.set k y).set (k + 1) z)
  rw [hl] at hz
  rw [sum_full] at hs ⊢
  rw [ne_eq, ← hz]
  generalize totM ((b.set k y).set (k + 1) z) = T' at *
  generalize totM b = T at *
  have b0 := x0.toNat_lt
  have b1 := x1.toNat_lt
  have b2 := y.toNat_lt
  have b3 := z.toNat_lt
  constructor
  · rintro ⟨hp, hm⟩
    have hd : 256 * y.toNat + z.toNat = 256 * x0.toNat + x1.toNat ∨ (256 * y.toNat + z.toNat = 65535 ∧ 256 * x0.toNat + x1.toNat = 0) ∨ (256 * y.toNat + z.toNat = 0 ∧ 256 * x0.toNat + x1.toNat = 65535) := by omega
    rcases hd with hd | ⟨h1, h2⟩ | ⟨h1, h2⟩
    · exact .inl ⟨eq_nat _ _ (by omega), eq_nat _ _ (by omega)⟩
    · exact .inr ⟨.inl ⟨eq_nat _ _ (show _ = 0 by omega), eq_nat _ _ (show _ = 0 by omega), eq_nat _ _ (show _ = 255 by omega), eq_nat _ _ (show _ = 255 by omega)⟩, by omega⟩
    · exact .inr ⟨.inr ⟨eq_nat _ _ (show _ = 255 by omega), eq_nat _ _ (show _ = 255 by omega), eq_nat _ _ (show _ = 0 by omega), eq_nat _ _ (show _ = 0 by omega)⟩, by omega⟩
  · rintro (⟨rfl, rfl⟩ | ⟨⟨rfl, rfl, rfl, rfl⟩ | ⟨rfl, rfl, rfl, rfl⟩, hn⟩)
    · omega
    · have : (255 : UInt8).toNat = 255 := rfl
      have : (0 : UInt8).toNat = 0 := rfl
      omega
    · have : (255 : UInt8).toNat = 255 := rfl
      have : (0 : UInt8).toNat = 0 := rfl
      omega
theorem xor_same (x h : UInt8) : x ^^^ h = x ↔ h = 0 := by
  constructor
  · intro e
    have : x ^^^ (x ^^^ h) = x ^^^ x := by rw [e]
    rw [← UInt8.xor_assoc, UInt8.xor_self, UInt8.zero_xor] at this
    exact this
  · rintro rfl; simp
/-- What Get tells of bytes of which one word has been changed. -/
theorem chg_get (b : List UInt8) (k : Nat) (hk : k % 2 = 0) (h8 : 8 ≤ b.length) (hk2 : k + 1 < b.length) (hs : sumM b = 0) (h l x0 x1 : UInt8) (e0 : b[k]? = some x0) (e1 : b[k + 1]? = some x1) (b' : List UInt8) (hb : b' = (b.set k (x0 ^^^ h)).set (k + 1) (x1 ^^^ l)) :
    (h = 0 ∧ l = 0 ∧ (getI b').2 = 0) ∨ (¬ (h = 0 ∧ l = 0) ∧ ¬ (h = 255 ∧ l = 255) ∧ (getI b').2 = 21) ∨
    (h = 255 ∧ l = 255 ∧ ¬ (x0 = 0 ∧ x1 = 0) ∧ ¬ (x0 = 255 ∧ x1 = 255) ∧ (getI b').2 = 21) ∨
    (h = 255 ∧ l = 255 ∧ (x0 = 0 ∧ x1 = 0 ∨ x0 = 255 ∧ x1 = 255) ∧ b' ≠ List.replicate b.length 0 ∧ (getI b').2 = 0) ∨
    (h = 255 ∧ l = 255 ∧ (x0 = 0 ∧ x1 = 0 ∨ x0 = 255 ∧ x1 = 255) ∧ b' = List.replicate b.length 0 ∧ (getI b').2 = 21) := by
  have hc := chg_sum b k hk hk2 hs (x0 ^^^ h) (x1 ^^^ l) x0 x1 e0 e1
  have hl : b'.length = b.length := by rw [hb, List.length_set, List.length_set]
  rw [← hb, xor_same, xor_same] at hc
  have g0 : sumM b' = 0 → (getI b').2 = 0 := fun e => by
    obtain ⟨t, c, x, y, p, q, r, s, body, rfl⟩ := eight b' (by omega)
    rw [getI_ok _ _ _ _ _ _ _ _ _ e]
  have g1 : sumM b' ≠ 0 → (getI b').2 = 21 := fun e => by rw [getI_sum b' (by omega) e]
  by_cases h0 : h = 0 ∧ l = 0
  · exact .inl ⟨h0.1, h0.2, g0 (hc.2 (.inl h0))⟩
  · by_cases h5 : h = 255 ∧ l = 255
    · obtain ⟨rfl, rfl⟩ := h5
      by_cases hx : x0 = 0 ∧ x1 = 0 ∨ x0 = 255 ∧ x1 = 255
      · by_cases hz : b' = List.replicate b.length 0
        · refine .inr (.inr (.inr (.inr ⟨rfl, rfl, hx, hz, g1 fun e => ?_⟩)))
          rcases hc.1 e with h | h
          · exact h0 h
          · exact h.2 hz
        · refine .inr (.inr (.inr (.inl ⟨rfl, rfl, hx, hz, g0 (hc.2 (.inr ⟨?_, hz⟩))⟩)))
          rcases hx with ⟨rfl, rfl⟩ | ⟨rfl, rfl⟩
          · exact .inl ⟨rfl, rfl, by decide, by decide⟩
          · exact .inr ⟨rfl, rfl, by decide, by decide⟩
      · refine .inr (.inr (.inl ⟨rfl, rfl, fun e => hx (.inl e), fun e => hx (.inr e), g1 fun e => ?_⟩))
        rcases hc.1 e with h | ⟨h | h, _⟩
        · exact h0 h
        · exact hx (.inl ⟨h.1, h.2.1⟩)
        · exact hx (.inr ⟨h.1, h.2.1⟩)
    · refine .inr (.inl ⟨h0, h5, g1 fun e => ?_⟩)
      rcases hc.1 e with h | ⟨⟨rfl, rfl, h1, h2⟩ | ⟨rfl, rfl, h1, h2⟩, _⟩
      · exact h0 h
      · rw [UInt8.zero_xor] at h1 h2
        exact h5 ⟨h1, h2⟩
      · refine h5 ⟨?_, ?_⟩
        · have : (255 : UInt8) ^^^ (255 ^^^ h) = 255 ^^^ 0 := by rw [h1]
          rw [← UInt8.xor_assoc, UInt8.xor_self, UInt8.zero_xor] at this
          rw [this]; decide
        · have : (255 : UInt8) ^^^ (255 ^^^ l) = 255 ^^^ 0 := by rw [h2]
          rw [← UInt8.xor_assoc, UInt8.xor_self, UInt8.zero_xor] at this
          rw [this]; decide
/-- Bytes that are a message are laid again, but that a sum of 65535 may be 0. -/
theorem put_got (z : List UInt8) (x : Ms) (hz : getI z = (x, 0)) (hl : z.length ≤ 300) : ∃ t c u v p q r s body S, z = t :: c :: u :: v :: p :: q :: r :: s :: body ∧ x = ⟨t, c, p, q, r, s, body⟩ ∧ S < 65536 ∧ putI x = (rawM x S, 0) ∧
    ((UInt8.ofNat (S / 256) = u ∧ UInt8.ofNat S = v) ∨ (u = 255 ∧ v = 255 ∧ S = 0)) := by
  by_cases h8 : z.length < 8
  · rw [getI_short z h8] at hz
    injection hz with _ e
    exact absurd e (by decide)
  · obtain ⟨t, c, u, v, p, q, r, s, body, rfl⟩ := eight z (by omega)
    by_cases hs : sumM (t :: c :: u :: v :: p :: q :: r :: s :: body) = 0
    · rw [getI_ok _ _ _ _ _ _ _ _ _ hs] at hz
      injection hz with hx _
      subst hx
      have hS : sumM (rawM ⟨t, c, p, q, r, s, body⟩ 0) < 65536 := by unfold sumM; omega
      refine ⟨t, c, u, v, p, q, r, s, body, sumM (rawM ⟨t, c, p, q, r, s, body⟩ 0), rfl, rfl, hS, ?_, ?_⟩
      · unfold putI
        rw [if_neg (by simp at hl ⊢; omega)]
      · have hz0 : totM (rawM ⟨t, c, p, q, r, s, body⟩ 0) = totM [t, c] + totM (p :: q :: r :: s :: body) := by
          rw [raw_zero, totM_app [t, c] _ (show 2 % 2 = 0 from by decide), totM_cons2 0 0]; simp
        have hz1 : totM (t :: c :: u :: v :: p :: q :: r :: s :: body) = totM [t, c] + totM (p :: q :: r :: s :: body) + (256 * u.toNat + v.toNat) := by
          rw [show t :: c :: u :: v :: p :: q :: r :: s :: body = [t, c] ++ u :: v :: (p :: q :: r :: s :: body) from rfl, totM_app [t, c] _ (show 2 % 2 = 0 from by decide), totM_cons2 u v]; omega
        have hu := u.toNat_lt
        have hv := v.toNat_lt
        have key : sumM (rawM ⟨t, c, p, q, r, s, body⟩ 0) = 256 * u.toNat + v.toNat ∨ (sumM (rawM ⟨t, c, p, q, r, s, body⟩ 0) = 0 ∧ 256 * u.toNat + v.toNat = 65535) := by
          rw [sum_is_zero, accM_eq, hz1] at hs
          unfold sumM
          rw [accM_eq, hz0]
          generalize totM [t, c] + totM (p :: q :: r :: s :: body) = T0 at *
          by_cases h0 : 0 < T0
          · exact sum_again T0 _ h0 (by omega) hs
          · obtain rfl : T0 = 0 := by omega
            left
            have h1 := norm_mod (0 + (256 * u.toNat + v.toNat))
            rw [hs] at h1
            have : normM 0 = 0 := rfl
            rw [this]
            omega
        generalize sumM (rawM ⟨t, c, p, q, r, s, body⟩ 0) = S at *
        rcases key with h | ⟨h1, h2⟩
        · left
          exact ⟨eq_nat _ _ (by rw [UInt8.toNat_ofNat']; omega), eq_nat _ _ (by rw [UInt8.toNat_ofNat']; omega)⟩
        · right
          exact ⟨eq_nat _ _ (show _ = 255 by omega), eq_nat _ _ (show _ = 255 by omega), h1⟩
    · rw [getI_sum _ (by simp) hs] at hz
      injection hz with _ e
      exact absurd e (by decide)
end Go.Proofs.Ytkpelaojjfcpfaa
