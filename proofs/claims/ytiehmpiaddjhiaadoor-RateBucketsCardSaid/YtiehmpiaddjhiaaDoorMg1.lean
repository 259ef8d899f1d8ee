/- Texts that belong together, one behind the other: FrameA, RaA. Conditions: those of each. -/
import Derived.Test.YtiehmpiaddjhiaaDoorMg0
import Derived.WalkLawsBesides
/- Arrays of bytes as arguments: from what is read to plain data. Nothing of the program is named here. -/
namespace Go.Proofs.YtiehmpiaddjhiaaDoor
open Go.RowKit Go.ChangeShapes Go.WideShapes

section
variable {H : Type} {enc : TypeId × Value → H} {P : Program} {w : World} {base : Nat} {spare : Nat → Bool} {held : Bool} {fuel : Nat} {t e : TypeId} {x : DataW H × List MemPlace}

theorem rd_arr (n : Nat) (ht : P.underlying t = some (.array n e)) (he : P.underlying e = some (.int .u8)) (hc : P.cellsOf e = 1) (hn : P.cellsOf t = n) {cs : List Value} (h : DataW.trod enc P w base spare held fuel t cs = some x) :
    ∃ l : List UInt8, l.length = n ∧ cs = bys l := by
  obtain ⟨xs, m, _, _, hl, hxs, hel⟩ := DataW.trod_array ht h
  rw [hc] at hel
  have : ∀ i, i < n → ∃ u : UInt8, cs[i]? = some (.int .u8 (u.toNat : Int)) := by
    intro i hi
    have h1 := hel i hi
    rw [List.getElem?_eq_getElem (by omega), Nat.mul_one] at h1
    have hci : i < cs.length := by omega
    have hd : (cs.drop i).take 1 = [cs[i]] := by
      rw [List.drop_eq_getElem_cons hci]
      rfl
    rw [hd] at h1
    obtain ⟨z, hz, _, hw⟩ := DataW.trod_int he h1
    have hb := wfu8 z hw
    refine ⟨UInt8.ofNat z.toNat, ?_⟩
    rw [List.getElem?_eq_getElem hci]
    simp at hz
    rw [hz]
    have : ((UInt8.ofNat z.toNat).toNat : Int) = z := by
      rw [UInt8.toNat_ofNat']
      omega
    rw [this]
  obtain ⟨l, hll, hp⟩ := pick n _ this
  refine ⟨l, hll, ?_⟩
  apply List.ext_getElem?
  intro i
  by_cases hi : i < n
  · rw [hp i (by omega)]
    simp [bys, show i < l.length by omega]
  · rw [List.getElem?_eq_none (by omega), List.getElem?_eq_none (by rw [bys_len]; omega)]

theorem open_arr (n : Nat) (ht : P.underlying t = some (.array n e)) (he : P.underlying e = some (.int .u8)) (hc : P.cellsOf e = 1) (hn : P.cellsOf t = n) {r : Reach} {b : Nat} {v : Value} {d : DataW H} {ps : List MemPlace}
    (hv : Value.okWide P w r b t v) (h : DataW.Trod enc P w base spare held t v d ps) : ∃ l : List UInt8, l.length = n ∧ v = .agg (bys l).toArray := by
  unfold Value.okWide at hv
  rw [ht] at hv
  obtain ⟨cs, rfl, _, _⟩ := hv
  obtain ⟨fuel, hf⟩ := h
  obtain ⟨l, hl, hcs⟩ := rd_arr n ht he hc hn hf
  refine ⟨l, hl, ?_⟩
  have : cs.toList = bys l := hcs
  rw [← this]
end
end Go.Proofs.YtiehmpiaddjhiaaDoor
/- Float64 by its bits: the order of all values. Plain. -/
namespace Go.Proofs.YtiehmpiaddjhiaaDoor
open Go
set_option linter.unusedVariables false

def SG : Nat := 9223372036854775808
def INFB : Nat := 9218868437227405312
def BIN : Nat := 4503599627370496
def nanF (x : Nat) : Bool := decide (INFB < x % SG)
def keyF (x : Nat) : Int := if x < SG then (x : Int) else -((x - SG : Nat) : Int)
def magR (r : Nat) : Nat := if r < BIN then r else BIN + r % BIN
def plR (r : Nat) : Nat := r / BIN - 1
def valR (r : Nat) : Nat := magR r * 2 ^ plR r
theorem valR_mono {r s : Nat} (h : r < s) : valR r < valR s := by
  have hq : r / BIN ≤ s / BIN := Nat.div_le_div_right (Nat.le_of_lt h)
  have hr := Nat.div_add_mod r BIN
  have hs := Nat.div_add_mod s BIN
  have hrm : r % BIN < BIN := Nat.mod_lt _ (by decide)
  have hsm : s % BIN < BIN := Nat.mod_lt _ (by decide)
  unfold valR magR plR
  by_cases h1 : s < BIN
  · have h2 : r < BIN := by omega
    have e1 : r / BIN = 0 := Nat.div_eq_of_lt h2
    have e2 : s / BIN = 0 := Nat.div_eq_of_lt h1
    rw [if_pos h1, if_pos h2, e1, e2]
    simpa using h
  · rw [if_neg h1]
    have hs1 : 1 ≤ s / BIN := (Nat.one_le_div_iff (by decide)).2 (by omega)
    by_cases h2 : r < BIN
    · have e1 : r / BIN = 0 := Nat.div_eq_of_lt h2
      rw [if_pos h2, e1]
      have := Nat.one_le_two_pow (n := s / BIN - 1)
      have h3 : (BIN + s % BIN) * 1 ≤ (BIN + s % BIN) * 2 ^ (s / BIN - 1) := Nat.mul_le_mul_left _ this
      simp only [Nat.zero_sub, Nat.pow_zero, Nat.mul_one] at h3 ⊢
      omega
    · rw [if_neg h2]
      have hr1 : 1 ≤ r / BIN := (Nat.one_le_div_iff (by decide)).2 (by omega)
      by_cases h3 : r / BIN = s / BIN
      · rw [h3] at hr ⊢
        exact Nat.mul_lt_mul_of_pos_right (by omega) (Nat.two_pow_pos _)
      · have h4 : 2 ^ (r / BIN - 1) * 2 ≤ 2 ^ (s / BIN - 1) := by
          rw [← Nat.pow_succ]
          exact Nat.pow_le_pow_right (by decide) (by omega)
        have h5 : (BIN + r % BIN) * 2 ^ (r / BIN - 1) < (BIN + BIN) * 2 ^ (r / BIN - 1) := Nat.mul_lt_mul_of_pos_right (by omega) (Nat.two_pow_pos _)
        have h6 : BIN * 2 ^ (s / BIN - 1) ≤ (BIN + s % BIN) * 2 ^ (s / BIN - 1) := Nat.mul_le_mul_right _ (by omega)
        have h7 : BIN * (2 ^ (r / BIN - 1) * 2) ≤ BIN * 2 ^ (s / BIN - 1) := Nat.mul_le_mul_left _ h4
        have h8 : (BIN + BIN) * 2 ^ (r / BIN - 1) = BIN * (2 ^ (r / BIN - 1) * 2) := by
          rw [show BIN + BIN = BIN * 2 by omega, Nat.mul_assoc, Nat.mul_comm 2]
        omega
def sgn (neg : Bool) (n : Nat) : Int := if neg then -(n : Int) else (n : Int)
theorem signed_is (neg : Bool) (m u : Nat) : Ieee.signed neg m u = sgn neg (m * 2 ^ u) := by
  unfold Ieee.signed sgn
  rw [Nat.shiftLeft_eq]
theorem cmp_scale (a b : Int) (k : Nat) : compare (a * ((2 ^ k : Nat) : Int)) (b * ((2 ^ k : Nat) : Int)) = compare a b := by
  have hp : (0 : Int) < ((2 ^ k : Nat) : Int) := by exact_mod_cast Nat.two_pow_pos k
  rcases Int.lt_trichotomy a b with h | h | h
  · rw [Int.compare_eq_lt.2 h, Int.compare_eq_lt.2 (Int.mul_lt_mul_of_pos_right h hp)]
  · subst h; rw [Int.compare_eq_eq.2 rfl, Int.compare_eq_eq.2 rfl]
  · rw [Int.compare_eq_gt.2 h, Int.compare_eq_gt.2 (Int.mul_lt_mul_of_pos_right h hp)]
theorem sgn_mul (neg : Bool) (n k : Nat) : sgn neg (n * 2 ^ k) = sgn neg n * ((2 ^ k : Nat) : Int) := by
  unfold sgn
  split
  · rw [Int.neg_mul]; norm_cast
  · norm_cast
theorem cmp_num (s t : Bool) (m n i j c : Nat) (hi : c ≤ i) (hj : c ≤ j) : compare (sgn s (m * 2 ^ (i - c))) (sgn t (n * 2 ^ (j - c))) = compare (sgn s (m * 2 ^ i)) (sgn t (n * 2 ^ j)) := by
  rw [← cmp_scale _ _ c, ← sgn_mul, ← sgn_mul, Nat.mul_assoc, Nat.mul_assoc, ← Nat.pow_add, ← Nat.pow_add, Nat.sub_add_cancel hi, Nat.sub_add_cancel hj]
theorem dbl_bin : Ieee.double.binade = BIN := by decide
theorem dbl_inf : Ieee.double.infRung = INFB := by decide
theorem dbl_sg : Ieee.double.signWeight = SG := by decide
def negF (x : Nat) : Bool := x / SG % 2 == 1
theorem read_num (x : Nat) (h : x % SG < INFB) : Ieee.double.read x = .number (negF x) (magR (x % SG)) (Ieee.double.leastPlace + ((plR (x % SG) : Nat) : Int)) := by
  unfold Ieee.Format.read magR plR
  rw [dbl_bin, dbl_inf, dbl_sg]
  dsimp only
  by_cases h1 : x % SG < BIN
  · rw [if_pos h1, if_pos h1, Nat.div_eq_of_lt h1]
    simp [negF]
  · rw [if_neg h1, if_pos h, if_neg h1]
    rfl
theorem read_inf (x : Nat) (h : x % SG = INFB) : Ieee.double.read x = .infinity (negF x) := by
  unfold Ieee.Format.read
  rw [dbl_bin, dbl_inf, dbl_sg]
  dsimp only
  rw [h, if_neg (by decide), if_neg (by decide), if_pos rfl]
  rfl
theorem read_nan (x : Nat) (h : INFB < x % SG) : Ieee.double.read x = .nan (negF x) (x % SG - INFB) := by
  have hb : BIN < INFB := by decide
  unfold Ieee.Format.read
  rw [dbl_bin, dbl_inf, dbl_sg]
  dsimp only
  rw [if_neg (by omega), if_neg (by omega), if_neg (by omega)]
  rfl
theorem neg_cases (x : Nat) (hx : x < 18446744073709551616) : (negF x = false ∧ x < SG ∧ x % SG = x ∧ keyF x = (x : Int)) ∨ (negF x = true ∧ ¬ x < SG ∧ x % SG = x - SG ∧ keyF x = -((x - SG : Nat) : Int)) := by
  unfold negF keyF
  have hs : SG = 9223372036854775808 := rfl
  by_cases h : x < SG
  · refine .inl ⟨?_, h, Nat.mod_eq_of_lt h, if_pos h⟩
    rw [Nat.div_eq_of_lt h]
    rfl
  · refine .inr ⟨?_, h, ?_, if_neg h⟩
    · have : x / SG = 1 := by rw [hs]; omega
      rw [this]
      rfl
    · rw [Nat.mod_eq_sub_mod (by omega), Nat.mod_eq_of_lt (by omega)]
theorem key_sgn (x : Nat) (hx : x < 18446744073709551616) : keyF x = sgn (negF x) (x % SG) := by
  rcases neg_cases x hx with ⟨h1, h2, h3, h4⟩ | ⟨h1, h2, h3, h4⟩ <;> rw [h1, h3, h4] <;> unfold sgn <;> simp only [if_true, if_false, Bool.false_eq_true]
theorem cmp_sgn (s t : Bool) (f : Nat → Nat) (h0 : f 0 = 0) (hf : ∀ {r q}, r < q → f r < f q) (m n : Nat) : compare (sgn s (f m)) (sgn t (f n)) = compare (sgn s m) (sgn t n) := by
  have hz : ∀ r, f r = 0 → r = 0 := fun r h => by
    rcases Nat.eq_zero_or_pos r with h1 | h1
    · exact h1
    · have := hf h1; omega
  have hp : ∀ r, 0 < r → 0 < f r := fun r h => by have := hf h; omega
  rcases Nat.lt_trichotomy m n with h | h | h
  · have h2 := hf h
    cases s <;> cases t <;> simp only [sgn, if_true, if_false, Bool.false_eq_true]
    · rw [Int.compare_eq_lt.2 (by omega), Int.compare_eq_lt.2 (by omega)]
    · have := hp n (by omega)
      rw [Int.compare_eq_gt.2 (by omega), Int.compare_eq_gt.2 (by omega)]
    · have := hp n (by omega)
      rw [Int.compare_eq_lt.2 (by omega), Int.compare_eq_lt.2 (by omega)]
    · rw [Int.compare_eq_gt.2 (by omega), Int.compare_eq_gt.2 (by omega)]
  · subst h
    cases s <;> cases t <;> simp only [sgn, if_true, if_false, Bool.false_eq_true]
    · rw [Int.compare_eq_eq.2 rfl, Int.compare_eq_eq.2 rfl]
    · rcases Nat.eq_zero_or_pos m with h1 | h1
      · subst h1; rw [h0]
      · have := hp m h1
        rw [Int.compare_eq_gt.2 (by omega), Int.compare_eq_gt.2 (by omega)]
    · rcases Nat.eq_zero_or_pos m with h1 | h1
      · subst h1; rw [h0]
      · have := hp m h1
        rw [Int.compare_eq_lt.2 (by omega), Int.compare_eq_lt.2 (by omega)]
    · rw [Int.compare_eq_eq.2 rfl, Int.compare_eq_eq.2 rfl]
  · have h2 := hf h
    cases s <;> cases t <;> simp only [sgn, if_true, if_false, Bool.false_eq_true]
    · rw [Int.compare_eq_gt.2 (by omega), Int.compare_eq_gt.2 (by omega)]
    · have := hp m (by omega)
      rw [Int.compare_eq_gt.2 (by omega), Int.compare_eq_gt.2 (by omega)]
    · have := hp m (by omega)
      rw [Int.compare_eq_lt.2 (by omega), Int.compare_eq_lt.2 (by omega)]
    · rw [Int.compare_eq_lt.2 (by omega), Int.compare_eq_lt.2 (by omega)]
theorem sgn_bound (s : Bool) (n : Nat) (h : n < INFB) : -(INFB : Int) < sgn s n ∧ sgn s n < (INFB : Int) := by
  unfold sgn
  split <;> omega
/-- **The order of two words.** -/
theorem order_key (x y : Nat) (hx : x < 18446744073709551616) (hy : y < 18446744073709551616) : Ieee.double.order x y = if nanF x || nanF y then none else some (compare (keyF x) (keyF y)) := by
  unfold Ieee.Format.order nanF
  rw [key_sgn x hx, key_sgn y hy]
  generalize hr : x % SG = r
  generalize hs : y % SG = s
  rcases Nat.lt_trichotomy r INFB with h1 | h1 | h1
  · rw [read_num x (by rw [hr]; exact h1), hr]
    rcases Nat.lt_trichotomy s INFB with h2 | h2 | h2
    · rw [read_num y (by rw [hs]; exact h2), hs]
      rw [if_neg (by simp; omega)]
      unfold Ieee.Datum.order
      dsimp only
      rw [signed_is, signed_is]
      have e1 : (Ieee.double.leastPlace + (plR r : Int) - min (Ieee.double.leastPlace + (plR r : Int)) (Ieee.double.leastPlace + (plR s : Int))).toNat = plR r - min (plR r) (plR s) := by omega
      have e2 : (Ieee.double.leastPlace + (plR s : Int) - min (Ieee.double.leastPlace + (plR r : Int)) (Ieee.double.leastPlace + (plR s : Int))).toNat = plR s - min (plR r) (plR s) := by omega
      rw [e1, e2, cmp_num _ _ _ _ _ _ _ (Nat.min_le_left ..) (Nat.min_le_right ..)]
      exact congrArg some (cmp_sgn (negF x) (negF y) valR (by decide) (fun h => valR_mono h) r s)
    · rw [read_inf y (by rw [hs]; exact h2)]
      rw [if_neg (by simp; omega)]
      unfold Ieee.Datum.order
      have hb := sgn_bound (negF x) r h1
      subst h2
      cases hn : negF y <;> simp only [sgn, if_true, if_false, Bool.false_eq_true] at hb ⊢
      · rw [Int.compare_eq_lt.2 (by split <;> omega)]
      · rw [Int.compare_eq_gt.2 (by split <;> omega)]
    · rw [read_nan y (by rw [hs]; exact h2)]
      rw [if_pos (by simp; omega)]
      rfl
  · rw [read_inf x (by rw [hr]; exact h1)]
    rcases Nat.lt_trichotomy s INFB with h2 | h2 | h2
    · rw [read_num y (by rw [hs]; exact h2), hs]
      rw [if_neg (by simp; omega)]
      unfold Ieee.Datum.order
      have hb := sgn_bound (negF y) s h2
      subst h1
      cases hn : negF x <;> simp only [sgn, if_true, if_false, Bool.false_eq_true] at hb ⊢
      · rw [Int.compare_eq_gt.2 (by split <;> omega)]
      · rw [Int.compare_eq_lt.2 (by split <;> omega)]
    · rw [read_inf y (by rw [hs]; exact h2)]
      rw [if_neg (by simp; omega)]
      unfold Ieee.Datum.order
      subst h1
      rw [h2]
      cases negF x <;> cases negF y <;> decide
    · rw [read_nan y (by rw [hs]; exact h2)]
      rw [if_pos (by simp; omega)]
      rfl
  · rw [read_nan x (by rw [hr]; exact h1)]
    rw [if_pos (by simp; omega)]
    rfl
/-- The place in the order of all values: what is no number last. -/
def KF (x : Nat) : Int := if nanF x then 18446744073709551616 else keyF x
theorem key_small (x : Nat) (hx : x < 18446744073709551616) : keyF x < 18446744073709551616 ∧ -18446744073709551616 < keyF x := by
  rcases neg_cases x hx with ⟨h1, h2, h3, h4⟩ | ⟨h1, h2, h3, h4⟩ <;> rw [h4] <;> omega
def ltF (x y : Nat) : Bool := !nanF x && !nanF y && decide (keyF x < keyF y)
def eqF (x y : Nat) : Bool := !nanF x && !nanF y && decide (keyF x = keyF y)
theorem cmp_is (a b : Int) (o : Ordering) : (compare a b == o) = match o with | .lt => decide (a < b) | .eq => decide (a = b) | .gt => decide (b < a) := by
  rcases Int.lt_trichotomy a b with h | h | h
  · rw [Int.compare_eq_lt.2 h]
    cases o
    · exact (decide_eq_true h).symm
    · exact (decide_eq_false (show ¬ a = b by omega)).symm
    · exact (decide_eq_false (show ¬ b < a by omega)).symm
  · subst h
    rw [Int.compare_eq_eq.2 rfl]
    cases o
    · exact (decide_eq_false (show ¬ a < a by omega)).symm
    · exact (decide_eq_true rfl).symm
    · exact (decide_eq_false (show ¬ a < a by omega)).symm
  · rw [Int.compare_eq_gt.2 h]
    cases o
    · exact (decide_eq_false (show ¬ a < b by omega)).symm
    · exact (decide_eq_false (show ¬ a = b by omega)).symm
    · exact (decide_eq_true h).symm
theorem some_beq (a b : Ordering) : (some a == some b) = (a == b) := rfl
section
variable {x y : Nat} (hx : x < 18446744073709551616) (hy : y < 18446744073709551616)
include hx hy
theorem lt_is : (Ieee.double.order x y == some .lt) = ltF x y := by
  rw [order_key x y hx hy]
  unfold ltF
  cases nanF x <;> cases nanF y <;> simp only [Bool.or_false, Bool.or_true, Bool.not_false, Bool.not_true, Bool.true_and, Bool.false_and, if_true, if_false, Bool.false_eq_true, some_beq, cmp_is] <;> rfl
theorem gt_is : (Ieee.double.order x y == some .gt) = ltF y x := by
  rw [order_key x y hx hy]
  unfold ltF
  cases nanF x <;> cases nanF y <;> simp only [Bool.or_false, Bool.or_true, Bool.not_false, Bool.not_true, Bool.true_and, Bool.false_and, if_true, if_false, Bool.false_eq_true, some_beq, cmp_is] <;> rfl
theorem eq_is : (Ieee.double.order x y == some .eq) = eqF x y := by
  rw [order_key x y hx hy]
  unfold eqF
  cases nanF x <;> cases nanF y <;> simp only [Bool.or_false, Bool.or_true, Bool.not_false, Bool.not_true, Bool.true_and, Bool.false_and, if_true, if_false, Bool.false_eq_true, some_beq, cmp_is] <;> rfl
theorem less_is : (ltF x y || (!nanF x && nanF y)) = decide (KF x < KF y) := by
  have h1 := key_small x hx
  have h2 := key_small y hy
  unfold ltF KF
  cases nanF x <;> cases nanF y <;> simp <;> omega
theorem alike_is : (eqF x y || (nanF x && nanF y)) = decide (KF x = KF y) := by
  have h1 := key_small x hx
  have h2 := key_small y hy
  unfold eqF KF
  cases nanF x <;> cases nanF y <;> simp <;> omega
end
theorem nan_self {x : Nat} (hx : x < 18446744073709551616) : (Ieee.double.order x x != some .eq) = nanF x := by
  have := eq_is hx hx
  unfold bne
  rw [this]
  unfold eqF
  cases nanF x <;> simp
def clF (x : Nat) : Nat := if ltF 0 x then x else 0
theorem clF_le {x : Nat} (hx : x < 18446744073709551616) : clF x ≤ INFB := by
  unfold clF
  split
  · rename_i h
    unfold ltF at h
    simp only [Bool.and_eq_true, Bool.not_eq_true', decide_eq_true_eq] at h
    obtain ⟨⟨_, h2⟩, h3⟩ := h
    unfold nanF at h2
    have h4 : keyF 0 = 0 := rfl
    rw [h4] at h3
    rcases neg_cases x hx with ⟨h5, h6, h7, h8⟩ | ⟨h5, h6, h7, h8⟩
    · rw [h7] at h2
      simpa using h2
    · rw [h8] at h3
      omega
  · exact Nat.zero_le _
theorem clean_key {x : Nat} (h : x ≤ INFB) : nanF x = false ∧ keyF x = (x : Int) := by
  have h1 : INFB < SG := by decide
  unfold nanF keyF
  rw [Nat.mod_eq_of_lt (by omega), if_pos (by omega)]
  exact ⟨by simp; omega, rfl⟩
/-- Of clean ones the order is that of their bits. -/
theorem lt_clean {x y : Nat} (hx : x ≤ INFB) (hy : y ≤ INFB) : ltF x y = decide (x < y) := by
  obtain ⟨h1, h2⟩ := clean_key hx
  obtain ⟨h3, h4⟩ := clean_key hy
  unfold ltF
  rw [h1, h2, h3, h4]
  simp
theorem eq_clean {x y : Nat} (hx : x ≤ INFB) (hy : y ≤ INFB) : eqF x y = decide (x = y) := by
  obtain ⟨h1, h2⟩ := clean_key hx
  obtain ⟨h3, h4⟩ := clean_key hy
  unfold eqF
  rw [h1, h2, h3, h4]
  simp
  omega
theorem clF_clean {x : Nat} (hx : x ≤ INFB) : clF x = x := by
  unfold clF
  rw [lt_clean (by decide) hx]
  rcases Nat.eq_zero_or_pos x with h | h
  · subst h; rfl
  · rw [decide_eq_true h]; rfl
end Go.Proofs.YtiehmpiaddjhiaaDoor
