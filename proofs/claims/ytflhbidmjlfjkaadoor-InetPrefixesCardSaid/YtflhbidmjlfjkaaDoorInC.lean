/- Heads of IPv4 in plain words: what was read is laid again. Nothing of the program is named here. -/
import Derived.Test.YtflhbidmjlfjkaaDoorInB
namespace Go.Proofs.YtflhbidmjlfjkaaDoor
set_option linter.unusedVariables false

theorem norm_mod (s : Nat) : normM s % 65535 = s % 65535 ∧ (normM s = 0 ↔ s = 0) := by
  unfold normM
  split
  · rename_i h; subst h; simp
  · rename_i h
    constructor
    · have h2 := Nat.mod_lt (s - 1) (show 65535 > 0 by decide)
      have h3 := Nat.div_add_mod (s - 1) 65535
      generalize (s - 1) / 65535 = q at *
      generalize (s - 1) % 65535 = r at *
      obtain rfl : s = 65535 * q + r + 1 := by omega
      omega
    · constructor <;> intro h2 <;> omega
/-- The sum that was there, and the one that is laid. -/
theorem sum_again (T0 w : Nat) (h0 : 0 < T0) (hw : w ≤ 65535) (hz : normM (T0 + w) = 65535) : 65535 - normM T0 = w ∨ (65535 - normM T0 = 0 ∧ w = 65535) := by
  have a1 := (norm_mod (T0 + w)).1
  rw [hz] at a1
  have a2 := (norm_mod T0).1
  have a3 : normM T0 ≠ 0 := fun h => by have := (norm_mod T0).2.1 h; omega
  have a4 := normM_le T0
  generalize normM T0 = N at *
  omega
theorem ten_of (b : List UInt8) (h : 10 ≤ b.length) : ∃ z t a0 a1 i0 i1 b0 b1 l p : UInt8, ∃ r, b = z :: t :: a0 :: a1 :: i0 :: i1 :: b0 :: b1 :: l :: p :: r := by
  match b, h with
  | z :: t :: a0 :: a1 :: i0 :: i1 :: b0 :: b1 :: l :: p :: r, _ => exact ⟨z, t, a0, a1, i0, i1, b0, b1, l, p, r, rfl⟩
/-- The first twenty bytes of what is long enough. -/
theorem twenty_of (b : List UInt8) (h : 20 ≤ b.length) : ∃ z t a0 a1 i0 i1 b0 b1 l p s0 s1 x0 x1 x2 x3 y0 y1 y2 y3 : UInt8, ∃ r, b = z :: t :: a0 :: a1 :: i0 :: i1 :: b0 :: b1 :: l :: p :: s0 :: s1 :: x0 :: x1 :: x2 :: x3 :: y0 :: y1 :: y2 :: y3 :: r := by
  obtain ⟨z, t, a0, a1, i0, i1, b0, b1, l, p, r, rfl⟩ := ten_of b (by omega)
  obtain ⟨s0, s1, x0, x1, x2, x3, y0, y1, y2, y3, r, rfl⟩ := ten_of r (by simp at h; omega)
  exact ⟨z, t, a0, a1, i0, i1, b0, b1, l, p, s0, s1, x0, x1, x2, x3, y0, y1, y2, y3, r, rfl⟩
theorem read_ok {b : List UInt8} {h : Hd} {body : List UInt8} (hr : readHM b true = (h, body, 0)) : 20 ≤ b.length ∧ (b.headD 0).toNat / 16 = 4 ∧ 20 ≤ hlenM b ∧ hlenM b ≤ b.length ∧ hlenM b ≤ allM b ∧ sumM (b.take (hlenM b)) = 0 ∧ optsM ((b.take (hlenM b)).drop 20) = true ∧ allM b ≤ b.length ∧
    fitsM (hdM b) (allM b - hlenM b) = true ∧ h = hdM b ∧ body = (b.take (allM b)).drop (hlenM b) := by
  unfold readHM at hr
  split at hr
  · simp at hr
  · rename_i c1
    split at hr
    · simp at hr
    · rename_i c2
      split at hr
      · simp at hr
      · rename_i c3
        split at hr
        · simp at hr
        · rename_i c4
          split at hr
          · simp at hr
          · rename_i c5
            split at hr
            · simp at hr
            · rename_i c6
              split at hr
              · rename_i c7
                split at hr
                · simp at hr
                · rename_i c8
                  simp only [Prod.mk.injEq, and_true] at hr
                  refine ⟨by omega, by omega, by omega, by omega, by omega, by omega, by simpa using c6, c7, ?_, hr.1.symm, hr.2.symm⟩
                  cases hf : fitsM (hdM b) (allM b - hlenM b) with
                  | true => rfl
                  | false => exact absurd ⟨rfl, hf⟩ c8
              · simp at hr
theorem num_two' (a b : UInt8) : numM [a, b] = a.toNat * 256 + b.toNat := by simp [numM]
theorem num_lt2 (a b : UInt8) : numM [a, b] < 65536 := by rw [num_two']; have := a.toNat_lt; have := b.toNat_lt; omega
theorem num_lt4 (a b c d : UInt8) : numM [a, b, c, d] < 4294967296 := by have := numM_lt [a, b, c, d]; simpa using this
/-- LAID AGAIN: the bytes that were read, but for the sum's two. -/
theorem put_read (b : List UInt8) (h : Hd) (body : List UInt8) (hr : readHM b true = (h, body, 0)) :
    ∃ c, putHM h body = (c, 0) ∧ c.length = allM b ∧ allM b ≤ b.length ∧ 20 ≤ c.length ∧ c.take 10 = b.take 10 ∧ c.drop 12 = (b.take (allM b)).drop 12 ∧
      ((c.drop 10).take 2 = (b.drop 10).take 2 ∨ ((c.drop 10).take 2 = [0, 0] ∧ (b.drop 10).take 2 = [255, 255])) := by
  obtain ⟨c1, c2, c3, c4, c5, c6, c7, c8, c9, rfl, rfl⟩ := read_ok hr
  obtain ⟨hx40, hx4⟩ := opts_len c7
  clear hr
  have hn60 : hlenM b = 4 * ((b.headD 0).toNat % 16) := rfl
  have hall : allM b < 65536 := by
    unfold allM
    have := numM_lt ((b.drop 2).take 2)
    have h2 : ((b.drop 2).take 2).length ≤ 2 := by simp; omega
    exact Nat.lt_of_lt_of_le this (Nat.pow_le_pow_right (by decide) h2)
  have hxl : (hdM b).x.length = hlenM b - 20 := by
    show ((b.take (hlenM b)).drop 20).length = _
    rw [List.length_drop, List.length_take]
    omega
  have hbl : ((b.take (allM b)).drop (hlenM b)).length = allM b - hlenM b := by rw [List.length_drop, List.length_take]; omega
  have hok : (hdM b).ok ∧ 0 ≤ (hdM b).o ∧ (hdM b).o ≤ 8191 := by
    obtain ⟨z, t, a0, a1, i0, i1, b0, b1, l, p, s0, s1, x0, x1, x2, x3, y0, y1, y2, y3, r, rfl⟩ := twenty_of b c1
    have ho : (hdM (z :: t :: a0 :: a1 :: i0 :: i1 :: b0 :: b1 :: l :: p :: s0 :: s1 :: x0 :: x1 :: x2 :: x3 :: y0 :: y1 :: y2 :: y3 :: r)).o = ((numM [b0, b1] % 8192 : Nat) : Int) := rfl
    have hlt := Nat.mod_lt (numM [b0, b1]) (show 8192 > 0 by decide)
    refine ⟨⟨num_lt2 i0 i1, ?_, num_lt4 x0 x1 x2 x3, num_lt4 y0 y1 y2 y3⟩, ?_, ?_⟩ <;> rw [ho] <;> omega
  have hmay : (hdM b).may ((b.take (allM b)).drop (hlenM b)) := ⟨hok.1, hok.2.1, hok.2.2, c7, by rw [hbl]; exact c9, by rw [hxl, hbl]; omega⟩
  have htot : 20 + (hdM b).x.length + ((b.take (allM b)).drop (hlenM b)).length = allM b := by rw [hxl, hbl]; omega
  have hput := put_may _ _ hmay
  rw [htot] at hput
  refine ⟨_, hput, by rw [List.length_append, headB_len, hxl, hbl]; omega, c8, by rw [List.length_append, headB_len]; omega, ?_⟩
  -- the head, byte by byte
  have hsumw : ∀ sum, sum < 65536 → headB (hdM b) (allM b) sum = b.take 10 ++ beM 2 sum ++ (b.take (hlenM b)).drop 12 := by
    intro sum hsum
    obtain ⟨z, t, a0, a1, i0, i1, b0, b1, l, p, s0, s1, x0, x1, x2, x3, y0, y1, y2, y3, r, rfl⟩ := twenty_of b c1
    have hz : UInt8.ofNat (64 + (20 + (hdM (z :: t :: a0 :: a1 :: i0 :: i1 :: b0 :: b1 :: l :: p :: s0 :: s1 :: x0 :: x1 :: x2 :: x3 :: y0 :: y1 :: y2 :: y3 :: r)).x.length) / 4) = z := by
      rw [hxl]
      apply UInt8.toNat_inj.1
      rw [UInt8.toNat_ofNat']
      have e1 : (z :: t :: a0 :: a1 :: i0 :: i1 :: b0 :: b1 :: l :: p :: s0 :: s1 :: x0 :: x1 :: x2 :: x3 :: y0 :: y1 :: y2 :: y3 :: r : List UInt8).headD 0 = z := rfl
      rw [e1] at c2 hn60
      rw [hn60] at c3 ⊢
      have := z.toNat_lt
      omega
    have hbits : bitsM (hdM (z :: t :: a0 :: a1 :: i0 :: i1 :: b0 :: b1 :: l :: p :: s0 :: s1 :: x0 :: x1 :: x2 :: x3 :: y0 :: y1 :: y2 :: y3 :: r)) = numM [b0, b1] := by
      show ((numM [b0, b1] % 8192 : Nat) : Int).toNat + (if decide (32768 ≤ numM [b0, b1]) = true then 32768 else 0) + (if decide (numM [b0, b1] / 16384 % 2 = 1) = true then 16384 else 0) + (if decide (numM [b0, b1] / 8192 % 2 = 1) = true then 8192 else 0) = _
      have hlt := num_lt2 b0 b1
      generalize numM [b0, b1] = B at *
      rw [Int.toNat_natCast]
      simp only [decide_eq_true_eq]
      split <;> split <;> split <;> omega
    have e2 : beM 2 (allM (z :: t :: a0 :: a1 :: i0 :: i1 :: b0 :: b1 :: l :: p :: s0 :: s1 :: x0 :: x1 :: x2 :: x3 :: y0 :: y1 :: y2 :: y3 :: r)) = [a0, a1] := beM_num2 a0 a1
    have htd : ((z :: t :: a0 :: a1 :: i0 :: i1 :: b0 :: b1 :: l :: p :: s0 :: s1 :: x0 :: x1 :: x2 :: x3 :: y0 :: y1 :: y2 :: y3 :: r).take (hlenM (z :: t :: a0 :: a1 :: i0 :: i1 :: b0 :: b1 :: l :: p :: s0 :: s1 :: x0 :: x1 :: x2 :: x3 :: y0 :: y1 :: y2 :: y3 :: r))).drop 12 = [x0, x1, x2, x3, y0, y1, y2, y3] ++ (hdM (z :: t :: a0 :: a1 :: i0 :: i1 :: b0 :: b1 :: l :: p :: s0 :: s1 :: x0 :: x1 :: x2 :: x3 :: y0 :: y1 :: y2 :: y3 :: r)).x := by
      show _ = [x0, x1, x2, x3, y0, y1, y2, y3] ++ ((z :: t :: a0 :: a1 :: i0 :: i1 :: b0 :: b1 :: l :: p :: s0 :: s1 :: x0 :: x1 :: x2 :: x3 :: y0 :: y1 :: y2 :: y3 :: r).take (hlenM (z :: t :: a0 :: a1 :: i0 :: i1 :: b0 :: b1 :: l :: p :: s0 :: s1 :: x0 :: x1 :: x2 :: x3 :: y0 :: y1 :: y2 :: y3 :: r))).drop 20
      obtain ⟨m, hm⟩ : ∃ m, hlenM (z :: t :: a0 :: a1 :: i0 :: i1 :: b0 :: b1 :: l :: p :: s0 :: s1 :: x0 :: x1 :: x2 :: x3 :: y0 :: y1 :: y2 :: y3 :: r) = 20 + m := ⟨_, (Nat.add_sub_cancel' c3).symm⟩
      rw [hm, Nat.add_comm 20 m]
      rfl
    rw [htd]
    unfold headB
    rw [hz, e2, hbits]
    show [z, t] ++ [a0, a1] ++ beM 2 (numM [i0, i1]) ++ beM 2 (numM [b0, b1]) ++ [l, p] ++ beM 2 sum ++ beM 4 (numM [x0, x1, x2, x3]) ++ beM 4 (numM [y0, y1, y2, y3]) ++ _ = _
    rw [beM_num2, beM_num2, beM_num4, beM_num4]
    simp only [List.append_assoc]
    rfl
  have hq : sumM (headB (hdM b) (allM b) 0) < 65536 := by unfold sumM; omega
  have hw := hsumw _ hq
  have hw0 := hsumw 0 (by decide)
  have l10 : (b.take 10).length = 10 := by rw [List.length_take]; omega
  have hd12 : (b.take (hlenM b)).drop 12 ++ (b.take (allM b)).drop (hlenM b) = (b.take (allM b)).drop 12 := by
    have e1 : b.take (allM b) = b.take (hlenM b) ++ (b.take (allM b)).drop (hlenM b) := by
      have := List.take_append_drop (hlenM b) (b.take (allM b))
      rw [List.take_take, Nat.min_eq_left c5] at this
      exact this.symm
    conv => rhs; rw [e1]
    rw [List.drop_append_of_le_length (by rw [List.length_take]; omega)]
  obtain ⟨s0, s1, hs⟩ := twoL (beM 2 (sumM (headB (hdM b) (allM b) 0))) (beM_len _ _)
  rw [hw, hs]
  refine ⟨?_, ?_, ?_⟩
  · rw [List.append_assoc, List.append_assoc, take_eq _ _ _ l10]
  · rw [List.append_assoc, drop_eq _ _ 12 (by rw [List.length_append, l10]; rfl), hd12]
  · rw [List.append_assoc, List.append_assoc, drop_eq _ _ 10 l10]
    show [s0, s1] = _ ∨ ([s0, s1] = [0, 0] ∧ _)
    obtain ⟨z, t, a0, a1, i0, i1, b0, b1, l, p, w0, w1, x0, x1, x2, x3, y0, y1, y2, y3, r, hb⟩ := twenty_of b c1
    have hbd : (b.drop 10).take 2 = [w0, w1] := by rw [hb]; rfl
    rw [hbd]
    have hb12 : b.take (hlenM b) = b.take 10 ++ [w0, w1] ++ (b.take (hlenM b)).drop 12 := by
      have e1 := List.take_append_drop 12 (b.take (hlenM b))
      rw [List.take_take, Nat.min_eq_left (by omega)] at e1
      rw [← e1]
      congr 1
      · rw [hb]; rfl
      · rw [e1]
    have ev : (b.take 10).length % 2 = 0 := by rw [l10]
    have t1 : totM (b.take (hlenM b)) = totM (b.take 10) + (256 * w0.toNat + w1.toNat) + totM ((b.take (hlenM b)).drop 12) := by
      rw [congrArg totM hb12, List.append_assoc, totM_app _ _ ev, List.cons_append, List.cons_append, List.nil_append, totM_cons2]
      omega
    have t0 : totM (headB (hdM b) (allM b) 0) = totM (b.take 10) + totM ((b.take (hlenM b)).drop 12) := by
      rw [hw0, show beM 2 0 = [0, 0] from rfl, List.append_assoc, totM_app _ _ ev, List.cons_append, List.cons_append, List.nil_append, totM_cons2]
      simp
    have hz0 : 0 < z.toNat := by
      have : b.headD 0 = z := by rw [hb]; rfl
      rw [this] at c2
      omega
    have hp : 0 < totM (b.take 10) := by
      rw [hb]
      exact tot_pos z t _ hz0
    have hz1 := (sum_is_zero _).1 c6
    rw [accM_eq, t1] at hz1
    have hwl := w0.toNat_lt
    have hwl1 := w1.toNat_lt
    have key := sum_again (totM (b.take 10) + totM ((b.take (hlenM b)).drop 12)) (256 * w0.toNat + w1.toNat) (by omega) (by omega) (by rw [← hz1]; congr 1; omega)
    have hsv : sumM (headB (hdM b) (allM b) 0) = 65535 - normM (totM (b.take 10) + totM ((b.take (hlenM b)).drop 12)) := by unfold sumM; rw [accM_eq, t0]
    rw [← hsv] at key
    have hn := numB2 _ hq
    rw [hs, num_two'] at hn
    have g0 := s0.toNat_lt
    have g1 := s1.toNat_lt
    rcases key with key | ⟨key, key2⟩
    · left
      have u0 : s0.toNat = w0.toNat := by omega
      have u1 : s1.toNat = w1.toNat := by omega
      rw [UInt8.toNat_inj.1 u0, UInt8.toNat_inj.1 u1]
    · right
      have u0 : s0 = 0 := UInt8.toNat_inj.1 (by show s0.toNat = 0; omega)
      have u1 : s1 = 0 := UInt8.toNat_inj.1 (by show s1.toNat = 0; omega)
      have v0 : w0 = 255 := UInt8.toNat_inj.1 (by show w0.toNat = 255; omega)
      have v1 : w1 = 255 := UInt8.toNat_inj.1 (by show w1.toNat = 255; omega)
      rw [u0, u1, v0, v1]
      exact ⟨rfl, rfl⟩
end Go.Proofs.YtflhbidmjlfjkaaDoor
