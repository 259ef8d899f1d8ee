/- Sums of words (RFC 1071) in plain numbers. Nothing of the program is named here. -/
import Derived.Test.YtflhbidmjlfjkaaDoorNum
namespace Go.Proofs.YtflhbidmjlfjkaaDoor
set_option linter.unusedVariables false

/-- Words of two bytes; a last odd byte is one's highest. -/
def wordsM : List UInt8 → List Nat
  | [] => []
  | [a] => [256 * a.toNat]
  | a :: b :: r => (256 * a.toNat + b.toNat) :: wordsM r
def addM (n w : Nat) : Nat := if 65535 < n + w then n + w - 65535 else n + w
def accM (l : List UInt8) : Nat := (wordsM l).foldl addM 0
def sumM (l : List UInt8) : Nat := 65535 - accM l
def normM (s : Nat) : Nat := if s = 0 then 0 else (s - 1) % 65535 + 1
def totM (l : List UInt8) : Nat := (wordsM l).foldl (· + ·) 0
theorem normM_le (s : Nat) : normM s ≤ 65535 := by unfold normM; split <;> omega
theorem normM_qr (q r : Nat) (h : r < 65535) : normM (65535 * q + r + 1) = r + 1 := by
  unfold normM
  rw [if_neg (by omega), show 65535 * q + r + 1 - 1 = 65535 * q + r by omega, Nat.mul_add_mod, Nat.mod_eq_of_lt h]
theorem addM_norm (s w : Nat) (hw : w ≤ 65535) : addM (normM s) w = normM (s + w) := by
  by_cases hs : s = 0
  · subst hs
    by_cases hw0 : w = 0
    · subst hw0; rfl
    · have := normM_qr 0 (w - 1) (by omega)
      rw [show 65535 * 0 + (w - 1) + 1 = w by omega, show w - 1 + 1 = w by omega] at this
      unfold addM
      rw [show normM 0 = 0 from rfl, Nat.zero_add, if_neg (by omega), this]
  · have h2 := Nat.mod_lt (s - 1) (show 65535 > 0 by decide)
    obtain ⟨q, r, hq, hr⟩ : ∃ q r, s = 65535 * q + r + 1 ∧ r < 65535 := ⟨(s - 1) / 65535, (s - 1) % 65535, by have := Nat.div_add_mod (s - 1) 65535; omega, h2⟩
    subst hq
    rw [normM_qr q r hr]
    unfold addM
    by_cases h : 65535 < r + 1 + w
    · rw [if_pos h]
      have := normM_qr (q + 1) (r + w - 65535) (by omega)
      rw [show 65535 * q + r + 1 + w = 65535 * (q + 1) + (r + w - 65535) + 1 by omega, this]
      omega
    · rw [if_neg h]
      have := normM_qr q (r + w) (by omega)
      rw [show 65535 * q + r + 1 + w = 65535 * q + (r + w) + 1 by omega, this]
      omega
theorem wordsM_le (l : List UInt8) : ∀ w ∈ wordsM l, w ≤ 65535 := by
  match l with
  | [] => intro w hw; cases hw
  | [a] => intro w hw; simp [wordsM] at hw; have := a.toNat_lt; omega
  | a :: b :: r =>
    intro w hw
    simp only [wordsM, List.mem_cons] at hw
    rcases hw with rfl | hw
    · have := a.toNat_lt; have := b.toNat_lt; omega
    · exact wordsM_le r w hw
theorem foldl_norm (ws : List Nat) (h : ∀ w ∈ ws, w ≤ 65535) (s : Nat) : ws.foldl addM (normM s) = normM (ws.foldl (· + ·) s) := by
  induction ws generalizing s with
  | nil => rfl
  | cons w ws ih =>
    simp only [List.foldl_cons]
    rw [addM_norm s w (h w (by simp)), ih (fun x hx => h x (by simp [hx]))]
theorem accM_eq (l : List UInt8) : accM l = normM (totM l) := foldl_norm _ (wordsM_le l) 0
theorem accM_le (l : List UInt8) : accM l ≤ 65535 := by rw [accM_eq]; exact normM_le _
theorem foldl_plus (ws : List Nat) (s : Nat) : ws.foldl (· + ·) s = s + ws.foldl (· + ·) 0 := by
  induction ws generalizing s with
  | nil => simp
  | cons w ws ih => simp only [List.foldl_cons]; rw [ih, ih (0 + w)]; omega
theorem totM_cons2 (a b : UInt8) (r : List UInt8) : totM (a :: b :: r) = 256 * a.toNat + b.toNat + totM r := by
  unfold totM
  simp only [wordsM, List.foldl_cons]
  rw [foldl_plus]
  omega
theorem totM_nil : totM [] = 0 := rfl
/-- Of an even number of bytes ahead. -/
theorem totM_app (l r : List UInt8) (h : l.length % 2 = 0) : totM (l ++ r) = totM l + totM r := by
  match l, h with
  | [], _ => simp [totM_nil]
  | [a], h => simp at h
  | a :: b :: l, h =>
    rw [List.cons_append, List.cons_append, totM_cons2, totM_cons2, totM_app l r (by simp at h; omega)]
    omega
theorem wordsM_app (l r : List UInt8) (h : l.length % 2 = 0) : wordsM (l ++ r) = wordsM l ++ wordsM r := by
  match l, h with
  | [], _ => rfl
  | [a], h => simp at h
  | a :: b :: l, h =>
    rw [List.cons_append, List.cons_append, wordsM, wordsM, wordsM_app l r (by simp at h; omega), List.cons_append]
/-- A sum laid where two noughts stood makes the whole's sum nothing. -/
theorem sum_zero (s : Nat) (hs : 0 < s) : normM (s + (65535 - normM s)) = 65535 := by
  have h2 := Nat.mod_lt (s - 1) (show 65535 > 0 by decide)
  obtain ⟨q, r, hq, hr⟩ : ∃ q r, s = 65535 * q + r + 1 ∧ r < 65535 := ⟨(s - 1) / 65535, (s - 1) % 65535, by have := Nat.div_add_mod (s - 1) 65535; omega, h2⟩
  subst hq
  rw [normM_qr q r hr]
  have := normM_qr q 65534 (by omega)
  rw [show 65535 * q + r + 1 + (65535 - (r + 1)) = 65535 * q + 65534 + 1 by omega, this]
theorem sum_laid (l r : List UInt8) (a b : UInt8) (hl : l.length % 2 = 0) (hpos : 0 < totM (l ++ 0 :: 0 :: r)) (hab : 256 * a.toNat + b.toNat = sumM (l ++ 0 :: 0 :: r)) : sumM (l ++ a :: b :: r) = 0 := by
  have h0 : totM (l ++ 0 :: 0 :: r) = totM l + totM r := by rw [totM_app _ _ hl, totM_cons2]; simp
  have h1 : totM (l ++ a :: b :: r) = totM l + totM r + sumM (l ++ 0 :: 0 :: r) := by rw [totM_app _ _ hl, totM_cons2, hab]; omega
  unfold sumM at h1 ⊢
  rw [accM_eq, h1, accM_eq, h0]
  rw [h0] at hpos
  rw [sum_zero _ hpos]
/-- When a sum is nothing. -/
theorem sum_is_zero (l : List UInt8) : sumM l = 0 ↔ accM l = 65535 := by have := accM_le l; unfold sumM; omega
end Go.Proofs.YtflhbidmjlfjkaaDoor
