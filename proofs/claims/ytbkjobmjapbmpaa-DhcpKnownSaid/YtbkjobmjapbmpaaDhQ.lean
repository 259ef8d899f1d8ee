/- Parted options: plain data alone. -/
import Derived.Test.YtbkjobmjapbmpaaDhX
namespace Go.Proofs.Ytbkjobmjapbmpaa
set_option linter.unusedVariables false

def partW (c : UInt8) (l : List UInt8) : Dh := { plainH with os := [(c, l), (254, [9, 9])], bh := [] }
def partP (c : UInt8) (l : List UInt8) (k : Nat) : Dh := { plainH with os := [(c, l.take k), (254, [9, 9]), (c, l.drop k)], bh := [] }
theorem partW_ok (c : UInt8) (l : List UInt8) : (partW c l).ok := ⟨⟨rfl, rfl, rfl, rfl⟩, plainH_ok.xi, plainH_ok.se, plainH_ok.fl, plainH_ok.ci, plainH_ok.yo, plainH_ok.ne, plainH_ok.re⟩
theorem partP_ok (c : UInt8) (l : List UInt8) (k : Nat) : (partP c l k).ok := ⟨⟨rfl, rfl, rfl, rfl⟩, plainH_ok.xi, plainH_ok.se, plainH_ok.fl, plainH_ok.ci, plainH_ok.yo, plainH_ok.ne, plainH_ok.re⟩
section
variable {c : UInt8} {l : List UInt8} {k : Nat}
theorem valM_cons (c : UInt8) (o : Opn) (os : List Opn) : valM c (o :: os) = (if o.1 = c then o.2 else []) ++ valM c os := by
  rw [show o :: os = [o] ++ os from rfl, valM_app, valM_one]
theorem isM_cons (c : UInt8) (o : Opn) (os : List Opn) : isM c (o :: os) = (decide (o.1 = c) || isM c os) := by
  rw [show o :: os = [o] ++ os from rfl, isM_app, isM_one]
theorem valW (h : hasD c = true) (h2 : c ≠ 254) : valD c (partW c l).os = (l, true) := by
  unfold valD
  rw [if_pos h]
  show (valM c [(c, l), (254, [9, 9])], isM c [(c, l), (254, [9, 9])]) = _
  have : ¬ (254 : UInt8) = c := fun e => h2 e.symm
  rw [valM_cons, valM_cons, isM_cons]
  simp [this, valM]
theorem valP (h : hasD c = true) (h2 : c ≠ 254) : valD c (partP c l k).os = (l, true) := by
  unfold valD
  rw [if_pos h]
  show (valM c [(c, l.take k), (254, [9, 9]), (c, l.drop k)], isM c [(c, l.take k), (254, [9, 9]), (c, l.drop k)]) = _
  have : ¬ (254 : UInt8) = c := fun e => h2 e.symm
  rw [valM_cons, valM_cons, valM_cons, isM_cons]
  simp [this, valM]
def numL4 (l : List UInt8) : Nat × Bool := if l.length = 4 then (numM l, true) else (0, false)
theorem numW (h : hasD c = true) (h2 : c ≠ 254) : numD c (partW c l).os = numL4 l := by unfold numD; rw [valW h h2]; rfl
theorem numP (h : hasD c = true) (h2 : c ≠ 254) : numD c (partP c l k).os = numL4 l := by unfold numD; rw [valP h h2]; rfl
theorem val0 (os : List Opn) : valD 0 os = ([], false) := rfl
theorem val255 (os : List Opn) : valD 255 os = ([], false) := rfl
def typC (c : UInt8) (l : List UInt8) : Nat := if c = 53 then typL l else 0
theorem typW (h2 : c ≠ 254) : typD (partW c l).os = typC c l := by
  unfold typD typC
  by_cases hc : c = 53
  · subst hc
    rw [valW (by decide) (by decide), if_pos rfl]
  · rw [if_neg hc]
    have : valD 53 (partW c l).os = ([], isM 53 (partW c l).os) := by
      unfold valD
      rw [if_pos (by decide)]
      show (valM 53 [(c, l), (254, [9, 9])], _) = _
      rw [valM_cons, valM_cons]
      simp [hc, valM]
    rw [this]
    rfl
theorem typP (h2 : c ≠ 254) : typD (partP c l k).os = typC c l := by
  unfold typD typC
  by_cases hc : c = 53
  · subst hc
    rw [valP (by decide) (by decide), if_pos rfl]
  · rw [if_neg hc]
    have : valD 53 (partP c l k).os = ([], isM 53 (partP c l k).os) := by
      unfold valD
      rw [if_pos (by decide)]
      show (valM 53 [(c, l.take k), (254, [9, 9]), (c, l.drop k)], _) = _
      rw [valM_cons, valM_cons, valM_cons]
      simp [hc, valM]
    rw [this]
    rfl
theorem totW (h : l.length ≤ 60) : totM (partW c l).os ≤ 1099511627776 := by simp [partW, totM]; omega
theorem totP (h : l.length ≤ 60) : totM (partP c l k).os ≤ 1099511627776 := by simp [partP, totM]; omega
/-- What the type comes to. -/
theorem typC_cases (c : UInt8) (l : List UInt8) : (typC c l = 0 ∧ ¬ (c = 53 ∧ ∃ b : UInt8, l = [b] ∧ 1 ≤ b.toNat ∧ b.toNat ≤ 8)) ∨ (c = 53 ∧ ∃ b : UInt8, l = [b] ∧ 1 ≤ b.toNat ∧ b.toNat ≤ 8 ∧ typC c l = b.toNat) := by
  by_cases h : c = 53 ∧ ∃ b : UInt8, l = [b] ∧ 1 ≤ b.toNat ∧ b.toNat ≤ 8
  · obtain ⟨rfl, b, rfl, h1, h2⟩ := h
    refine .inr ⟨rfl, b, rfl, h1, h2, ?_⟩
    unfold typC typL
    rw [if_pos rfl]
    simp only
    rw [if_pos ⟨h1, h2⟩]
  · refine .inl ⟨?_, h⟩
    unfold typC
    split
    · rename_i hc
      unfold typL
      split
      · split
        · rename_i b h3
          exact absurd ⟨hc, b, rfl, h3⟩ h
        · rfl
      · rfl
    · rfl
end
end Go.Proofs.Ytbkjobmjapbmpaa
