/- Messages of ICMP in plain words: laid, read, there and back. Nothing of the program is named here. -/
import Derived.Test.YtkpelaojjfcpfaaInD
import Derived.Test.YtkpelaojjfcpfaaIcA
namespace Go.Proofs.Ytkpelaojjfcpfaa
set_option linter.unusedVariables false

/-- A message's bytes, with that sum. -/
def rawM (m : Ms) (S : Nat) : List UInt8 := m.t :: m.c :: UInt8.ofNat (S / 256) :: UInt8.ofNat S :: m.p :: m.q :: m.r :: m.s :: m.b
theorem rawM_len (m : Ms) (S : Nat) : (rawM m S).length = 8 + m.b.length := by simp [rawM]; omega
def putI (m : Ms) : List UInt8 × Int := if 65515 < 8 + m.b.length then ([], 3) else (rawM m (sumM (rawM m 0)), 0)
def getI (b : List UInt8) : Ms × Int := match b with
  | t :: c :: _ :: _ :: p :: q :: r :: s :: body => if sumM b = 0 then (⟨t, c, p, q, r, s, body⟩, 0) else (Ms.zero, 21)
  | _ => (Ms.zero, 4)
theorem getI_short (b : List UInt8) (h : b.length < 8) : getI b = (Ms.zero, 4) := by
  match b, h with
  | [], _ => rfl
  | [_], _ => rfl
  | [_, _], _ => rfl
  | [_, _, _], _ => rfl
  | [_, _, _, _], _ => rfl
  | [_, _, _, _, _], _ => rfl
  | [_, _, _, _, _, _], _ => rfl
  | [_, _, _, _, _, _, _], _ => rfl
  | _ :: _ :: _ :: _ :: _ :: _ :: _ :: _ :: _, h => simp at h; omega
theorem eight (b : List UInt8) (h : 8 ≤ b.length) : ∃ t c x y p q r s body, b = t :: c :: x :: y :: p :: q :: r :: s :: body := by
  match b, h with
  | t :: c :: x :: y :: p :: q :: r :: s :: body, _ => exact ⟨t, c, x, y, p, q, r, s, body, rfl⟩
theorem getI_sum (b : List UInt8) (h : 8 ≤ b.length) (hs : sumM b ≠ 0) : getI b = (Ms.zero, 21) := by
  obtain ⟨t, c, x, y, p, q, r, s, body, rfl⟩ := eight b h
  show (if _ then _ else _) = _
  rw [if_neg hs]
theorem getI_ok (t c x y p q r s : UInt8) (body : List UInt8) (hs : sumM (t :: c :: x :: y :: p :: q :: r :: s :: body) = 0) : getI (t :: c :: x :: y :: p :: q :: r :: s :: body) = (⟨t, c, p, q, r, s, body⟩, 0) := by
  show (if _ then _ else _) = _
  rw [if_pos hs]
theorem raw_app (m : Ms) (S : Nat) : rawM m S = [m.t, m.c] ++ UInt8.ofNat (S / 256) :: UInt8.ofNat S :: (m.p :: m.q :: m.r :: m.s :: m.b) := rfl
theorem ofNat_hi (S : Nat) (h : S < 65536) : (UInt8.ofNat (S / 256)).toNat = S / 256 := by simp; omega
theorem ofNat_lo (S : Nat) : (UInt8.ofNat S).toNat = S % 256 := by simp
/-- With its sum the whole's sum is nothing. -/
theorem totM_zero_sum (l : List UInt8) (h : totM l = 0) : sumM l = 65535 := by unfold sumM; rw [accM_eq, h]; rfl
theorem sum_nil_raw (l r : List UInt8) (hl : l.length % 2 = 0) (h0 : totM (l ++ 0 :: 0 :: r) = 0) : sumM (l ++ 255 :: 255 :: r) = 0 := by
  have e0 : totM (l ++ 0 :: 0 :: r) = totM l + totM r := by rw [totM_app _ _ hl, totM_cons2]; simp
  have e1 : totM (l ++ 255 :: 255 :: r) = totM l + (65535 + totM r) := by rw [totM_app _ _ hl, totM_cons2]; rfl
  rw [e0] at h0
  have : totM (l ++ 255 :: 255 :: r) = 65535 := by rw [e1]; omega
  unfold sumM
  rw [accM_eq, this]
  rfl
theorem raw_zero (m : Ms) : rawM m 0 = [m.t, m.c] ++ 0 :: 0 :: (m.p :: m.q :: m.r :: m.s :: m.b) := rfl
theorem raw_sum (m : Ms) : sumM (rawM m (sumM (rawM m 0))) = 0 := by
  by_cases h : 0 < totM (rawM m 0)
  · have hS : sumM (rawM m 0) < 65536 := by unfold sumM; omega
    rw [raw_app m (sumM (rawM m 0))]
    rw [raw_zero] at h hS ⊢
    generalize hq : sumM ([m.t, m.c] ++ 0 :: 0 :: (m.p :: m.q :: m.r :: m.s :: m.b)) = S at *
    refine sum_laid _ _ _ _ (show 2 % 2 = 0 from by decide) h ?_
    rw [ofNat_hi S hS, ofNat_lo, hq]
    omega
  · have h0 : totM (rawM m 0) = 0 := by omega
    have := totM_zero_sum _ h0
    rw [this, raw_app]
    exact sum_nil_raw _ _ (show 2 % 2 = 0 from by decide) (by rw [← raw_zero]; exact h0)
/-- There and back. -/
theorem get_put (m : Ms) (S : Nat) (hS : S = sumM (rawM m 0)) : getI (rawM m S) = (m, 0) := by
  subst hS
  exact getI_ok _ _ _ _ _ _ _ _ _ (raw_sum m)
end Go.Proofs.Ytkpelaojjfcpfaa
