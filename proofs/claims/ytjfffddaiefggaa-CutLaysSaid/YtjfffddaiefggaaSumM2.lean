/- Sums of words, as plain numbers, second part: parts exchanged, a sum laid behind. -/
import Derived.Test.YtjfffddaiefggaaSumM
namespace Go.Proofs.Ytjfffddaiefggaa

theorem runS_add (l : List UInt8) (a : Nat) (b : Bool) : (runS (a, b) l).1 = a + (runS (0, b) l).1 ∧ (runS (a, b) l).2 = (runS (0, b) l).2 := by
  induction l generalizing a b with
  | nil => simp [runS]
  | cons x l ih =>
    have h1 := ih (a + (if b then x.toNat * 256 else x.toNat)) (!b)
    have h2 := ih (0 + (if b then x.toNat * 256 else x.toNat)) (!b)
    simp only [runS, List.foldl_cons, stepS] at h1 h2 ⊢
    refine ⟨by rw [h1.1, h2.1]; omega, by rw [h1.2, h2.2]⟩
theorem runS_flag (l : List UInt8) (a : Nat) (b : Bool) : (runS (a, b) l).2 = if l.length % 2 = 0 then b else !b := by
  induction l generalizing a b with
  | nil => simp [runS]
  | cons x l ih =>
    have h1 := ih (a + (if b then x.toNat * 256 else x.toNat)) (!b)
    simp only [runS, List.foldl_cons, stepS] at h1 ⊢
    rw [h1]
    simp only [List.length_cons]
    by_cases h : l.length % 2 = 0
    · rw [if_pos h, if_neg (by omega)]
    · rw [if_neg h, if_pos (by omega)]; simp
theorem runS_even (l m : List UInt8) (h : l.length % 2 = 0) : (runS (0, true) (l ++ m)).1 = (runS (0, true) l).1 + (runS (0, true) m).1 := by
  rw [runS_app]
  have hf := runS_flag l 0 true
  rw [if_pos h] at hf
  have e : runS (0, true) l = ((runS (0, true) l).1, true) := Prod.ext rfl hf
  rw [e, (runS_add m _ true).1]
theorem sumM_zero (l : List UInt8) : sumM (l ++ [0]) = sumM l := by
  unfold sumM
  rw [runS_snoc]
  have : (stepS (runS (0, true) l) 0).1 = (runS (0, true) l).1 := by simp [stepS]
  rw [this]
theorem sumM_turn (l : List UInt8) (j : Nat) (hj : j % 2 = 0) (hl : l.length % 2 = 0) (hjl : j ≤ l.length) : sumM (l.drop j ++ l.take j) = sumM l := by
  unfold sumM
  have h1 := runS_even (l.drop j) (l.take j) (by simp; omega)
  have h2 := runS_even (l.take j) (l.drop j) (by simp; omega)
  rw [List.take_append_drop] at h2
  rw [h1, h2, Nat.add_comm]
theorem sumM_le (l : List UInt8) : sumM l ≤ 65535 := by unfold sumM; omega
theorem fold16_sealed (s : Nat) : fold16 (s + (65535 - fold16 s)) = 65535 := by
  by_cases h : s = 0
  · subst h; decide
  · unfold fold16
    rw [if_neg h, if_neg (by omega)]
    omega
theorem word_of (x : Nat) (hx : x ≤ 65535) : (runS (0, true) [UInt8.ofNat (x / 256), UInt8.ofNat x]).1 = x := by
  simp [runS, stepS]
  omega
theorem sumM_sealed (l : List UInt8) (hl : l.length % 2 = 0) : sumM (l ++ [UInt8.ofNat (sumM l / 256), UInt8.ofNat (sumM l)]) = 0 := by
  have h1 := runS_even l [UInt8.ofNat (sumM l / 256), UInt8.ofNat (sumM l)] hl
  rw [word_of _ (sumM_le l)] at h1
  have h2 : sumM (l ++ [UInt8.ofNat (sumM l / 256), UInt8.ofNat (sumM l)]) = 65535 - fold16 (runS (0, true) (l ++ [UInt8.ofNat (sumM l / 256), UInt8.ofNat (sumM l)])).1 := rfl
  rw [h2, h1]
  have h3 : sumM l = 65535 - fold16 (runS (0, true) l).1 := rfl
  rw [h3, fold16_sealed]
end Go.Proofs.Ytjfffddaiefggaa
