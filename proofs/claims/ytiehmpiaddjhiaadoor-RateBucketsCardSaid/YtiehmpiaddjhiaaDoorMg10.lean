/- Texts that belong together, one behind the other: RaO, RaMo. Conditions: those of each. -/
import Derived.Test.YtiehmpiaddjhiaaDoorMg9
import Derived.Test.YtiehmpiaddjhiaaDoorMg2
import Derived.Test.YtiehmpiaddjhiaaDoorMg3
/- Package rate: after. -/
namespace Go.Proofs.YtiehmpiaddjhiaaDoor
open Go.RowKit Go.Sort
set_option linter.unusedVariables false

def tkF (dt : Nat) : Nat := floatOfInt .f64 (dt : Int)
theorem tkF_is (dt : Nat) : tkF dt = Ieee.double.nearest false dt 0 := by
  unfold tkF floatOfInt
  show Ieee.double.nearest (decide ((dt : Int) < 0)) (dt : Int).natAbs 0 = _
  rw [decide_eq_false (by omega), Int.natAbs_natCast]
def prM (r dt : Nat) : Nat := (Ieee.double.mul r (tkF dt)).getD 0
def smM (l p : Nat) : Nat := (Ieee.double.add l p).getD 0
def afM (m : Bk) (dt : Nat) : Nat := if dt = 0 then m.l else min m.b (smM m.l (prM m.r dt))
theorem pr_ok (r dt : Nat) (hr : r ≤ INFB) (h0 : 0 < dt) (h : dt < 18446744073709551616) : Ieee.double.mul r (tkF dt) = some (prM r dt) ∧ prM r dt ≤ INFB := by
  have hl : dt.log2 < 64 := (Nat.log2_lt (by omega)).2 (by
    have : (2 : Nat) ^ 64 = 18446744073709551616 := by decide
    rw [this]; exact h)
  obtain ⟨h1, h2⟩ := of_nat dt h0 hl
  rw [← tkF_is] at h1 h2
  obtain ⟨s, e, hs⟩ := mul_ok r (tkF dt) hr h2 h1
  unfold prM
  rw [e]
  exact ⟨rfl, hs⟩
theorem sm_ok (l p : Nat) (hl : l ≤ INFB) (hp : p ≤ INFB) : Ieee.double.add l p = some (smM l p) ∧ smM l p ≤ INFB := by
  obtain ⟨s, e, hs⟩ := add_ok l p hl hp
  unfold smM
  rw [e]
  exact ⟨rfl, hs⟩
theorem afM_le {m : Bk} (h : m.cl) (dt : Nat) : afM m dt ≤ m.b := by
  unfold afM
  split
  · exact h.l
  · exact Nat.min_le_left _ _
set_option maxRecDepth 100000 in
set_option maxHeartbeats 4000000 in
theorem after_yes (m : Bk) (hm : m.cl) (dt : Nat) (hd : dt < 18446744073709551616) (w : World) : Calls Tryd.prog 30 #[bkv m, .int .u64 (dt : Int)] w fun e w' => e = .returned (.float .f64 (afM m dt)) ∧ Kept Nil w w' := by
  have hP : KB (w.alloc (.cells (bkl m).toArray 26)) w.heap.size m := Blo.new w _ _
  have hk0 := (Kept.refl Nil w).alloc (.cells (bkl m).toArray 26)
  have HM := Lib.hid hm
  have HD := Lib.hid hd
  clear hm hd
  go_enter Tryd.func30, Tryd.ntmps30
  go_upto_region 1 with (fail)
  refine wp_nameE (fun W => KB W w.heap.size m ∧ Kept Nil w W) ⟨hP, hk0⟩ ?_
  clear hP hk0
  rintro W ⟨hP, hk⟩
  obtain ⟨g1, hg1⟩ : ∃ g, w.heap.size = g := ⟨_, rfl⟩
  rw [hg1] at hP ⊢
  have HK := Lib.hid hk
  have c0 := hP.c0
  have c1 := hP.c1
  have c2 := hP.c2
  clear hP hk hg1
  by_cases h0 : dt = 0
  · subst h0
    go_wp2_with (fail)
    go_ret
    exact ⟨rfl, HK.out⟩
  · have hb : ((dt : Int) == 0) = false := by simp; omega
    obtain ⟨p1, p2⟩ := pr_ok m.r dt HM.out.r (by omega) HD.out
    have hlb : m.l ≤ INFB := Nat.le_trans HM.out.l HM.out.b
    obtain ⟨s1, s2⟩ := sm_ok m.l (prM m.r dt) hlb p2
    have hcv : ∀ u, (convert 22 24 (.int .u64 (dt : Int))).run Tryd.prog u = .ok (.float .f64 (tkF dt)) u := fun u => run_convert_int_float (P := Tryd.prog) (w := u) 22 24 .u64 .f64 (dt : Int) (by kernel_rfl) (by kernel_rfl)
    have hml : ∀ t u, (binOp .mul t (.float .f64 m.r) (.float .f64 (tkF dt))).run Tryd.prog u = .ok (.float .f64 (prM m.r dt)) u := fun t u => run_float_arith u .mul t .f64 _ _ _ p1
    have hsm : ∀ t u, (binOp .add t (.float .f64 m.l) (.float .f64 (prM m.r dt))).run Tryd.prog u = .ok (.float .f64 (smM m.l (prM m.r dt))) u := fun t u => run_float_arith u .add t .f64 _ _ _ s1
    have hmin := run_minF m.b (smM m.l (prM m.r dt)) HM.out.b s2
    have HA := Lib.hid (show afM m dt = min m.b (smM m.l (prM m.r dt)) by unfold afM; rw [if_neg h0])
    clear p1 p2 s1 s2 hlb
    go_wp2_with (fail)
    go_ret
    exact ⟨by rw [HA.out]; rfl, HK.out⟩
end Go.Proofs.YtiehmpiaddjhiaaDoor
/- Float64: sums and products of clean ones go up; what a bucket has goes up with the ticks. Plain but for afM. -/
namespace Go.Proofs.YtiehmpiaddjhiaaDoor
open Go
set_option linter.unusedVariables false

theorem valR_le {r s : Nat} (h : r ≤ s) : valR r ≤ valR s := by
  rcases Nat.lt_or_eq_of_le h with h | h
  · exact Nat.le_of_lt (valR_mono h)
  · rw [h]; exact Nat.le_refl _
theorem read_fin (x : Nat) (h : x < INFB) : Ieee.double.read x = .number false (magR x) ((-1074 : Int) + ((plR x : Nat) : Int)) := by
  have hs : INFB < SG := by decide
  have hm : x % SG = x := Nat.mod_eq_of_lt (by omega)
  have hn : negF x = false := by unfold negF; rw [Nat.div_eq_of_lt (by omega)]; rfl
  rw [read_num x (by rw [hm]; exact h), hn, hm, lp_is]
theorem read_infb : Ieee.double.read INFB = .infinity false := by
  have hs : INFB % SG = INFB := Nat.mod_eq_of_lt (by decide)
  rw [read_inf INFB hs]
  rfl
theorem signed_f (m u : Nat) : Ieee.signed false m u = ((m * 2 ^ u : Nat) : Int) := by
  unfold Ieee.signed
  rw [if_neg (by decide), Nat.shiftLeft_eq]
/-- A finite sum, as the word nearest to the values' sum. -/
theorem add_fin (x y : Nat) (hx : x < INFB) (hy : y < INFB) : ∃ T e, (0 : Int) ≤ e + 1074 + ((0 : Nat) : Int) ∧ smM x y = Ieee.double.nearest false T e ∧ T * 2 ^ (e + 1074 + ((0 : Nat) : Int)).toNat = valR x + valR y := by
  obtain ⟨p, hp⟩ : ∃ p, plR x = p := ⟨_, rfl⟩
  obtain ⟨q, hq⟩ : ∃ q, plR y = q := ⟨_, rfl⟩
  refine ⟨magR x * 2 ^ (p - min p q) + magR y * 2 ^ (q - min p q), -1074 + ((min p q : Nat) : Int), by omega, ?_, ?_⟩
  · unfold smM Ieee.Format.add
    rw [read_fin x hx, read_fin y hy, hp, hq]
    have e1 : min ((-1074 : Int) + (p : Int)) (-1074 + (q : Int)) = -1074 + ((min p q : Nat) : Int) := by omega
    have e2 : ((-1074 : Int) + (p : Int) - (-1074 + ((min p q : Nat) : Int))).toNat = p - min p q := by omega
    have e3 : ((-1074 : Int) + (q : Int) - (-1074 + ((min p q : Nat) : Int))).toNat = q - min p q := by omega
    unfold Ieee.Datum.sum
    dsimp only
    rw [e1, e2, e3, signed_f, signed_f]
    obtain ⟨A, hA⟩ : ∃ A : Nat, magR x * 2 ^ (p - min p q) = A := ⟨_, rfl⟩
    obtain ⟨B, hB⟩ : ∃ B : Nat, magR y * 2 ^ (q - min p q) = B := ⟨_, rfl⟩
    rw [hA, hB]
    have e4 : (if (A : Int) + (B : Int) = 0 then false && false else decide ((A : Int) + (B : Int) < 0)) = false := by
      split
      · rfl
      · exact decide_eq_false (by omega)
    rw [e4, show ((A : Int) + (B : Int)).natAbs = A + B by omega]
    rfl
  · rw [show ((-1074 : Int) + ((min p q : Nat) : Int) + 1074 + ((0 : Nat) : Int)).toNat = min p q by omega, Nat.add_mul, Nat.mul_assoc, Nat.mul_assoc, ← Nat.pow_add, ← Nat.pow_add, Nat.sub_add_cancel (Nat.min_le_left _ _), Nat.sub_add_cancel (Nat.min_le_right _ _)]
    unfold valR
    rw [hp, hq]
theorem sm_inf (x y : Nat) (hx : x ≤ INFB) (hy : y ≤ INFB) (h : x = INFB ∨ y = INFB) : smM x y = INFB := by
  unfold smM Ieee.Format.add
  rcases h with h | h <;> subst h <;> rw [read_infb]
  · rcases Nat.lt_or_eq_of_le hy with h2 | h2
    · rw [read_fin y h2, sum_in, wr_inf]; rfl
    · subst h2; rw [read_infb, sum_ii, wr_inf]; rfl
  · rcases Nat.lt_or_eq_of_le hx with h2 | h2
    · rw [read_fin x h2, sum_ni, wr_inf]; rfl
    · subst h2; rw [read_infb, sum_ii, wr_inf]; rfl
theorem sm_mono (x y z : Nat) (hx : x ≤ INFB) (hz : z ≤ INFB) (h : y ≤ z) : smM x y ≤ smM x z := by
  have hle := (sm_ok x y hx (Nat.le_trans h hz)).2
  rcases Nat.lt_or_eq_of_le hx with h1 | h1
  · rcases Nat.lt_or_eq_of_le hz with h2 | h2
    · obtain ⟨T, e, a1, a2, a3⟩ := add_fin x y h1 (Nat.lt_of_le_of_lt h h2)
      obtain ⟨U, f, b1, b2, b3⟩ := add_fin x z h1 h2
      rw [a2, b2]
      exact near_mono T U e f 0 a1 b1 (by rw [a3, b3]; exact Nat.add_le_add_left (valR_le h) _)
    · rw [sm_inf x z hx hz (.inr h2)]; exact hle
  · rw [sm_inf x z hx hz (.inl h1)]; exact hle
theorem mul_fin (x y : Nat) (hx : x < INFB) (hy : y < INFB) : ∃ T e, (0 : Int) ≤ e + 1074 + ((1074 : Nat) : Int) ∧ (Ieee.double.mul x y).getD 0 = Ieee.double.nearest false T e ∧ T * 2 ^ (e + 1074 + ((1074 : Nat) : Int)).toNat = valR x * valR y := by
  obtain ⟨p, hp⟩ : ∃ p, plR x = p := ⟨_, rfl⟩
  obtain ⟨q, hq⟩ : ∃ q, plR y = q := ⟨_, rfl⟩
  refine ⟨magR x * magR y, -1074 + (p : Int) + (-1074 + (q : Int)), by omega, ?_, ?_⟩
  · unfold Ieee.Format.mul
    rw [read_fin x hx, read_fin y hy, hp, hq]
    rfl
  · rw [show ((-1074 : Int) + (p : Int) + (-1074 + (q : Int)) + 1074 + ((1074 : Nat) : Int)).toNat = p + q by omega, Nat.pow_add]
    unfold valR
    rw [hp, hq, Nat.mul_mul_mul_comm]
theorem tk_mono (d e : Nat) (h : d ≤ e) : tkF d ≤ tkF e := by
  rw [tkF_is, tkF_is]
  exact near_mono d e 0 0 0 (by decide) (by decide) (Nat.mul_le_mul_right _ h)
theorem tk_ok (d : Nat) (h0 : 0 < d) (h : d < 18446744073709551616) : 0 < tkF d ∧ tkF d < INFB := by
  have hl : d.log2 < 64 := (Nat.log2_lt (by omega)).2 (by
    have : (2 : Nat) ^ 64 = 18446744073709551616 := by decide
    rw [this]; exact h)
  rw [tkF_is]
  exact of_nat d h0 hl
theorem pr_mono (r d e : Nat) (hr : r ≤ INFB) (h0 : 0 < d) (h : d ≤ e) (he : e < 18446744073709551616) : prM r d ≤ prM r e := by
  have hd := tk_ok d h0 (by omega)
  have hee := tk_ok e (by omega) he
  rcases Nat.lt_or_eq_of_le hr with h1 | h1
  · unfold prM
    obtain ⟨T, f, a1, a2, a3⟩ := mul_fin r (tkF d) h1 hd.2
    obtain ⟨U, g, b1, b2, b3⟩ := mul_fin r (tkF e) h1 hee.2
    rw [a2, b2]
    exact near_mono T U f g 1074 a1 b1 (by rw [a3, b3]; exact Nat.mul_le_mul_left _ (valR_le (tk_mono d e h)))
  · have : prM r e = INFB := by
      unfold prM Ieee.Format.mul
      obtain ⟨n, j, h2, hn⟩ := fin_read (tkF e) hee.2 hee.1
      rw [h1, read_infb, h2]
      unfold Ieee.Datum.product
      simp only
      rw [if_neg (by omega)]
      rw [show (false ^^ false) = false from rfl, wr_inf]
      rfl
    rw [this]
    exact (pr_ok r d hr h0 (by omega)).2
end Go.Proofs.YtiehmpiaddjhiaaDoor
