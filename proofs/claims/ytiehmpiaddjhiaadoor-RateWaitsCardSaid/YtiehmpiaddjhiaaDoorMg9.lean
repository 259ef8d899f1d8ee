/- Texts that belong together, one behind the other: RaN, RaO. Conditions: those of each. -/
import Derived.Test.YtiehmpiaddjhiaaDoorMg8
/- Float64: whole numbers. Plain. -/
namespace Go.Proofs.YtiehmpiaddjhiaaDoor
open Go
set_option linter.unusedVariables false

theorem cut_le (n drop : Nat) : Ieee.Toward.even.cut false n drop ≤ n / (1 <<< min drop (n.log2 + 2)) + 1 := by
  unfold Ieee.Toward.cut
  dsimp only
  refine Nat.add_le_add_left ?_ _
  exact Bool.toNat_le _
theorem keptA (n l : Nat) (h : n < 2 ^ (l + 1)) (h1 : l < 52) : (n <<< (52 - l)) / (1 <<< 0) ≤ 2 ^ 53 := by
  rw [Nat.shiftLeft_zero, Nat.div_one, Nat.shiftLeft_eq]
  have h2 : n * 2 ^ (52 - l) ≤ 2 ^ (l + 1) * 2 ^ (52 - l) := Nat.mul_le_mul_right _ (Nat.le_of_lt h)
  rw [← Nat.pow_add, show l + 1 + (52 - l) = 53 by omega] at h2
  exact h2
theorem keptB (n l : Nat) (h : n < 2 ^ (l + 1)) (h1 : 52 ≤ l) : n / (1 <<< (l - 52)) ≤ 2 ^ 53 := by
  rw [Nat.shiftLeft_eq, Nat.one_mul]
  refine Nat.le_of_lt (Nat.div_lt_of_lt_mul ?_)
  rw [← Nat.pow_add, show l - 52 + 53 = l + 1 by omega]
  exact h
theorem kept_le (n : Nat) (h0 : 0 < n) (L : Int) (hL : L = (n.log2 : Int) - 52) : Ieee.Toward.even.cut false (n <<< (0 - L).toNat) (L - 0).toNat ≤ 2 ^ 53 + 1 := by
  have hlt := Nat.lt_log2_self (n := n)
  refine Nat.le_trans (cut_le _ _) (Nat.add_le_add_right ?_ 1)
  rcases Nat.lt_or_ge n.log2 52 with h1 | h1
  · have e1 : (0 - L).toNat = 52 - n.log2 := by omega
    have e2 : (L - 0).toNat = 0 := by omega
    rw [e1, e2, Nat.zero_min]
    exact keptA n _ hlt h1
  · have e1 : (0 - L).toNat = 0 := by omega
    have e2 : (L - 0).toNat = n.log2 - 52 := by omega
    rw [e1, e2, Nat.shiftLeft_zero, Nat.min_eq_left (by omega)]
    exact keptB n _ hlt h1
theorem lp_is : Ieee.double.leastPlace = -1074 := by decide
theorem near_is (n : Nat) (h0 : 0 < n) (L : Int) (hL : L = (n.log2 : Int) - 52) : Ieee.double.nearest false n 0 = min ((n.log2 + 1022) * BIN + Ieee.Toward.even.cut false (n <<< (0 - L).toNat) (L - 0).toNat) INFB := by
  unfold Ieee.Format.nearest
  rw [if_neg (Nat.ne_of_gt h0)]
  dsimp only
  rw [dbl_inf, dbl_bin, lp_is, word_is, show Ieee.double.fractionBits = 52 from rfl]
  have e : max (0 + (n.log2 : Int) - ((52 : Nat) : Int)) (-1074) = L := by omega
  rw [e, show (L - -1074).toNat = n.log2 + 1022 by omega]
/-- A whole number as a float64: above nought, below infinity. -/
theorem of_nat (n : Nat) (h0 : 0 < n) (h : n.log2 < 64) : 0 < Ieee.double.nearest false n 0 ∧ Ieee.double.nearest false n 0 < INFB := by
  have hk := kept_le n h0 _ rfl
  rw [near_is n h0 _ rfl]
  generalize Ieee.Toward.even.cut false _ _ = K at hk ⊢
  have hp : (2 : Nat) ^ 53 = 9007199254740992 := by decide
  rw [hp] at hk
  have hB : BIN = 4503599627370496 := rfl
  have hI : INFB = 9218868437227405312 := rfl
  rw [hB, hI]
  omega
end Go.Proofs.YtiehmpiaddjhiaaDoor
/- Package rate: after. -/
namespace Go.Proofs.YtiehmpiaddjhiaaDoor
open Go.RowKit Go.Sort
set_option linter.unusedVariables false

def tkF (dt : Nat) : Nat := floatOfInt .f64 (dt : Int)
theorem tkF_is (dt : Nat) : tkF dt = Ieee.double.nearest false dt 0 := by
  unfold tkF floatOfInt
  show Ieee.double.nearest (decide ((dt : Int) < 0)) (dt : Int).natAbs 0 = _
  rw [decide_eq_false (by omega), Int.natAbs_natCast]
def prM (r dt : Nat) : Nat := (Ieee.double.mul r (tkF dt)).getD 0
def smM (l p : Nat) : Nat := (Ieee.double.add l p).getD 0
def afM (m : Bk) (dt : Nat) : Nat := if dt = 0 then m.l else min m.b (smM m.l (prM m.r dt))
theorem pr_ok (r dt : Nat) (hr : r ≤ INFB) (h0 : 0 < dt) (h : dt < 18446744073709551616) : Ieee.double.mul r (tkF dt) = some (prM r dt) ∧ prM r dt ≤ INFB := by
  have hl : dt.log2 < 64 := (Nat.log2_lt (by omega)).2 (by
    have : (2 : Nat) ^ 64 = 18446744073709551616 := by decide
    rw [this]; exact h)
  obtain ⟨h1, h2⟩ := of_nat dt h0 hl
  rw [← tkF_is] at h1 h2
  obtain ⟨s, e, hs⟩ := mul_ok r (tkF dt) hr h2 h1
  unfold prM
  rw [e]
  exact ⟨rfl, hs⟩
theorem sm_ok (l p : Nat) (hl : l ≤ INFB) (hp : p ≤ INFB) : Ieee.double.add l p = some (smM l p) ∧ smM l p ≤ INFB := by
  obtain ⟨s, e, hs⟩ := add_ok l p hl hp
  unfold smM
  rw [e]
  exact ⟨rfl, hs⟩
theorem afM_le {m : Bk} (h : m.cl) (dt : Nat) : afM m dt ≤ m.b := by
  unfold afM
  split
  · exact h.l
  · exact Nat.min_le_left _ _
set_option maxRecDepth 100000 in
set_option maxHeartbeats 4000000 in
theorem after_yes (m : Bk) (hm : m.cl) (dt : Nat) (hd : dt < 18446744073709551616) (w : World) : Calls Tryd.prog 30 #[bkv m, .int .u64 (dt : Int)] w fun e w' => e = .returned (.float .f64 (afM m dt)) ∧ Kept Nil w w' := by
  have hP : KB (w.alloc (.cells (bkl m).toArray 26)) w.heap.size m := Blo.new w _ _
  have hk0 := (Kept.refl Nil w).alloc (.cells (bkl m).toArray 26)
  have HM := Lib.hid hm
  have HD := Lib.hid hd
  clear hm hd
  go_enter Tryd.func30, Tryd.ntmps30
  go_upto_region 1 with (fail)
  refine wp_nameE (fun W => KB W w.heap.size m ∧ Kept Nil w W) ⟨hP, hk0⟩ ?_
  clear hP hk0
  rintro W ⟨hP, hk⟩
  obtain ⟨g1, hg1⟩ : ∃ g, w.heap.size = g := ⟨_, rfl⟩
  rw [hg1] at hP ⊢
  have HK := Lib.hid hk
  have c0 := hP.c0
  have c1 := hP.c1
  have c2 := hP.c2
  clear hP hk hg1
  by_cases h0 : dt = 0
  · subst h0
    go_wp2_with (fail)
    go_ret
    exact ⟨rfl, HK.out⟩
  · have hb : ((dt : Int) == 0) = false := by simp; omega
    obtain ⟨p1, p2⟩ := pr_ok m.r dt HM.out.r (by omega) HD.out
    have hlb : m.l ≤ INFB := Nat.le_trans HM.out.l HM.out.b
    obtain ⟨s1, s2⟩ := sm_ok m.l (prM m.r dt) hlb p2
    have hcv : ∀ u, (convert 22 24 (.int .u64 (dt : Int))).run Tryd.prog u = .ok (.float .f64 (tkF dt)) u := fun u => run_convert_int_float (P := Tryd.prog) (w := u) 22 24 .u64 .f64 (dt : Int) (by kernel_rfl) (by kernel_rfl)
    have hml : ∀ t u, (binOp .mul t (.float .f64 m.r) (.float .f64 (tkF dt))).run Tryd.prog u = .ok (.float .f64 (prM m.r dt)) u := fun t u => run_float_arith u .mul t .f64 _ _ _ p1
    have hsm : ∀ t u, (binOp .add t (.float .f64 m.l) (.float .f64 (prM m.r dt))).run Tryd.prog u = .ok (.float .f64 (smM m.l (prM m.r dt))) u := fun t u => run_float_arith u .add t .f64 _ _ _ s1
    have hmin := run_minF m.b (smM m.l (prM m.r dt)) HM.out.b s2
    have HA := Lib.hid (show afM m dt = min m.b (smM m.l (prM m.r dt)) by unfold afM; rw [if_neg h0])
    clear p1 p2 s1 s2 hlb
    go_wp2_with (fail)
    go_ret
    exact ⟨by rw [HA.out]; rfl, HK.out⟩
end Go.Proofs.YtiehmpiaddjhiaaDoor
