/- tollref06: contracts of masked, Has, digits, Text, PrefixText. -/
import Derived.Test.YtflhbidmjlfjkaaDoorRgA
namespace Go.Proofs.YtflhbidmjlfjkaaDoor
open Go.RowKit Go.Sort
set_option linter.unusedVariables false

theorem mask_step (ip j : Nat) : ip / 2 ^ j * 2 ^ j - (if ip / 2 ^ j % 2 = 1 then 2 ^ j else 0) = ip / 2 ^ (j + 1) * 2 ^ (j + 1) := by
  have e : ip / 2 ^ (j + 1) = ip / 2 ^ j / 2 := by rw [Nat.pow_succ, Nat.div_div_eq_div_mul]
  rw [e, Nat.pow_succ]
  generalize ip / 2 ^ j = Q
  generalize 2 ^ j = P
  have h := Nat.div_add_mod Q 2
  rcases Nat.mod_two_eq_zero_or_one Q with h0 | h0
  · rw [if_neg (by omega), Nat.sub_zero, Nat.mul_comm P 2, ← Nat.mul_assoc]
    congr 1
    omega
  · rw [if_pos h0, Nat.mul_comm P 2, ← Nat.mul_assoc]
    have : Q = Q / 2 * 2 + 1 := by omega
    conv => lhs; rw [this]
    rw [Nat.add_mul, Nat.one_mul, Nat.add_sub_cancel]
theorem gmask_yes (ip : Nat) (hip : ip < 4294967296) (bits : Int) (hb : -9223372036854775808 ≤ bits ∧ bits ≤ 9223372036854775807) (w : World) : Calls Tryd.prog 56 #[.int .u32 (ip : Int), .int .i64 bits] w fun e w' => e = .returned (.int .u32 (maskM ip (clipM bits) : Int)) ∧ w = w' := by
  have hcl := clip_le bits
  have hcd : bits = (clipM bits : Int) ∨ (bits < 0 ∧ clipM bits = 0) ∨ (32 < bits ∧ clipM bits = 32) := by
    unfold clipM
    split
    · exact .inr (.inl ⟨by assumption, rfl⟩)
    · split
      · exact .inr (.inr ⟨by assumption, rfl⟩)
      · left; omega
  generalize clipM bits = K at *
  go_enter Tryd.func56, Tryd.ntmps56
  go_wp2
  go_loop [0, 5, 6] (fun x y i => ∃ j : Nat, j ≤ 32 - K ∧ i = .int .i64 (32 - (j : Int)) ∧ x = .int .u32 ((ip / 2 ^ j * 2 ^ j : Nat) : Int) ∧ y = .int .u32 ((2 ^ j % 4294967296 : Nat) : Int)) (fun _ _ i => (intOf i).toNat)
  case atStart => exact ⟨0, by omega, rfl, by simp, rfl⟩
  case round =>
    obtain ⟨j, hj, rfl, rfl, rfl⟩ := hrel
    have HMS := Lib.hid (mask_step ip j)
    have hM : ip / 2 ^ j * 2 ^ j ≤ ip := Nat.div_mul_le_self _ _
    by_cases hlt : j < 32 - K
    · have hP : 2 ^ j % 4294967296 = 2 ^ j := Nat.mod_eq_of_lt (by have : 2 ^ j ≤ 2 ^ 31 := Nat.pow_le_pow_right (by decide) (by omega); omega)
      have hPp : 0 < 2 ^ j := Nat.two_pow_pos j
      have hP31 : 2 ^ j ≤ 2147483648 := by have : 2 ^ j ≤ 2 ^ 31 := Nat.pow_le_pow_right (by decide) (by omega); omega
      have hdv : ip / 2 ^ j * 2 ^ j / 2 ^ j = ip / 2 ^ j := Nat.mul_div_cancel _ hPp
      rw [hP]
      have HP2 := Lib.hid (show 2 ^ (j + 1) % 4294967296 = (2 ^ j * 2) % 4294967296 by rw [Nat.pow_succ])
      have hge : ip / 2 ^ j % 2 = 1 → 2 ^ j ≤ ip / 2 ^ j * 2 ^ j := fun h => by
        have : 0 < ip / 2 ^ j := Nat.pos_of_ne_zero (fun h0 => by rw [h0] at h; cases h)
        exact Nat.le_mul_of_pos_left _ this
      have c1 : bits < 32 - (j : Int) := by omega
      have c2 : (0 : Int) < 32 - (j : Int) := by omega
      generalize ip / 2 ^ j * 2 ^ j = M at *
      generalize ip / 2 ^ j = Q at *
      generalize 2 ^ j = P at *
      have hdi : (M : Int) / (P : Int) = (Q : Int) := by rw [← hdv]; rfl
      have hw2 : IntKind.wrap .u32 ((P : Int) * 2) = ((P * 2 % 4294967296 : Nat) : Int) := by rw [IntKind.wrap_u32]; omega
      clear hP hdv hcd hcl
      by_cases hr : Q % 2 = 1
      · have hr' : ((Q : Int) % 2 == 1) = true := by simp; omega
        have hge' : (P : Int) ≤ (M : Int) := by have := hge hr; omega
        have HM := Lib.hid (show ip / 2 ^ (j + 1) * 2 ^ (j + 1) = M - P by rw [← HMS.out, if_pos hr])
        clear hge hr
        go_wp2
        go_round
        case rel => exact ⟨j + 1, by omega, by go_num, by rw [HM.out]; go_num, by rw [HP2.out]; go_num⟩
        case measure => simp [intOf]; omega
      · have hr' : ((Q : Int) % 2 == 1) = false := by simp; omega
        have HM := Lib.hid (show ip / 2 ^ (j + 1) * 2 ^ (j + 1) = M by rw [← HMS.out, if_neg hr, Nat.sub_zero])
        clear hge hr
        go_wp2
        go_round
        case rel => exact ⟨j + 1, by omega, by go_num, by rw [HM.out], by rw [HP2.out]; go_num⟩
        case measure => simp [intOf]; omega
    · have hjk : j = 32 - K := by omega
      have HR := Lib.hid (show maskM ip K = ip / 2 ^ j * 2 ^ j by unfold maskM; rw [hjk])
      generalize ip / 2 ^ j * 2 ^ j = M at *
      by_cases hbb : bits < 32 - (j : Int)
      · have c2 : ¬ (0 : Int) < 32 - (j : Int) := by omega
        clear hcd
        go_wp2
        go_ret
        exact ⟨by rw [HR.out]; rfl, rfl⟩
      · clear hcd
        go_wp2
        go_ret
        exact ⟨by rw [HR.out]; rfl, rfl⟩
theorem ghas_yes (a b : Nat) (ha : a < 4294967296) (hb : b < 4294967296) (bits : Int) (h : -9223372036854775808 ≤ bits ∧ bits ≤ 9223372036854775807) (w : World) : Calls Tryd.prog 30 #[.int .u32 (a : Int), .int .i64 bits, .int .u32 (b : Int)] w fun e w' => e = .returned (.bool (decide (maskM a (clipM bits) = maskM b (clipM bits)))) ∧ w = w' := by
  have ca : ∀ u, Calls Tryd.prog _ _ u _ := fun u => gmask_yes a ha bits h u
  have cb : ∀ u, Calls Tryd.prog _ _ u _ := fun u => gmask_yes b hb bits h u
  generalize maskM a (clipM bits) = x at *
  generalize maskM b (clipM bits) = y at *
  have he : ((x : Int) == (y : Int)) = decide (x = y) := by rw [Bool.eq_iff_iff]; simp; omega
  have CA := Lib.hid ca
  have CB := Lib.hid cb
  clear ca cb
  go_enter Tryd.func30, Tryd.ntmps30
  go_wp2_with (fail)
  refine (CA.out _).mono ?_
  rintro e w1 ⟨rfl, rfl⟩
  go_wp2_with (fail)
  refine (CB.out _).mono ?_
  rintro e w1 ⟨rfl, rfl⟩
  go_wp2
  go_ret
  exact ⟨by first | rfl | rw [he] | simp, rfl⟩
/-- Digits, from the end. -/
theorem dig_ten (n : Nat) (h : n < 10) : digM n = [UInt8.ofNat (48 + n)] := by unfold digM; rw [if_pos h]
theorem dig_more (n : Nat) (h : 10 ≤ n) (h2 : n < 1000) : digM n = digM (n / 10) ++ [UInt8.ofNat (48 + n % 10)] := by
  unfold digM
  rw [if_neg (by omega)]
  by_cases h3 : n < 100
  · rw [if_pos h3, if_pos (by omega)]
    rfl
  · rw [if_neg h3, if_neg (by omega), if_pos (by omega), show n / 10 / 10 = n / 100 by omega]
    rfl
theorem str_app (a b : List UInt8) : (⟨a.toArray⟩ : ByteArray) ++ ⟨b.toArray⟩ = ⟨(a ++ b).toArray⟩ := by
  apply ByteArray.ext
  simp [ByteArray.data_append]
/-- What stands before the digits that have been told. -/
def tailD : Nat → Nat → List UInt8
  | 0, _ => []
  | j + 1, n => tailD j (n / 10) ++ [UInt8.ofNat (48 + n % 10)]
set_option maxHeartbeats 1000000 in
theorem gdig_yes (n : Nat) (hn : n < 1000) (w : World) : Calls Tryd.prog 58 #[.int .i64 (n : Int)] w fun e w' => e = .returned (.string ⟨(digM n).toArray⟩) ∧ Kept Nil w w' := by
  go_enter Tryd.func58, Tryd.ntmps58
  go_wp2
  go_loopw [0, 3] (fun x s wr => ∃ (m : Nat) (r : List UInt8), x = .int .i64 (m : Int) ∧ s = .string ⟨r.toArray⟩ ∧ m ≤ n ∧ Hid (digM n = digM m ++ r) ∧ Hid (Kept Nil w wr)) (fun x _ _ => (intOf x).toNat)
  case atStart => exact ⟨n, [], rfl, rfl, Nat.le_refl _, Lib.hid (by simp), Lib.hid (Kept.refl _ _)⟩
  case round =>
    obtain ⟨m, r, rfl, rfl, hmn, HD, HK⟩ := hrel
    have hw8 : IntKind.wrap .u8 (48 + (m : Int) % 10) = 48 + (m : Int) % 10 := IntWalk.u8_in _ (by omega)
    obtain ⟨ch, hch⟩ : ∃ ch, UInt8.ofNat (48 + m % 10) = ch := ⟨_, rfl⟩
    have hcv : (48 : Int) + (m : Int) % 10 = (ch.toNat : Int) := by rw [← hch, UInt8.toNat_ofNat']; omega
    have hy := byt_lit wr [ch] 5 #[.int .u8 (48 + (m : Int) % 10)] (by rw [hcv]; rfl) 1 rfl wr.heap.size rfl (by simp)
    have htx := hy.text (P := Tryd.prog) Tryd.underlying25 Tryd.underlying5 Tryd.underlying9
    have hka := (Kept.refl Nil wr).alloc (.cells #[.int .u8 (48 + (m : Int) % 10)] 5)
    have HKA := Lib.hid (HK.out.then hka)
    have HCH := Lib.hid hch
    have hrl : r.length ≤ 3 := by
      have h1 := congrArg List.length HD.out
      have h2 : (digM n).length ≤ 3 := by unfold digM; split; simp; split <;> simp
      rw [List.length_append] at h1
      omega
    have HSA := Lib.hid (str_app [ch] r)
    have hsz : (⟨r.toArray⟩ : ByteArray).size ≤ 3 := hrl
    have hsz1 : (⟨[ch].toArray⟩ : ByteArray).size = 1 := rfl
    clear hy hka HK hch hcv
    by_cases h10 : m < 10
    · have hq : ((m : Int) / 10 == 0) = true := by simp; omega
      have HF := Lib.hid (show (⟨([ch] ++ r).toArray⟩ : ByteArray) = ⟨(digM n).toArray⟩ by rw [HD.out, dig_ten m h10, ← HCH.out, Nat.mod_eq_of_lt h10])
      go_wp2
      go_ret
      exact ⟨by rw [← HF.out, ← HSA.out]; rfl, HKA.out⟩
    · have hq : ((m : Int) / 10 == 0) = false := by simp; omega
      have HF := Lib.hid (show digM n = digM (m / 10) ++ ([ch] ++ r) by rw [HD.out, dig_more m (by omega) (by omega), List.append_assoc, HCH.out])
      go_wp2
      go_roundw
      case rel => exact ⟨m / 10, _, by go_num, by rw [← HSA.out], by omega, HF, HKA⟩
      case measure => simp [intOf]; omega
end Go.Proofs.YtflhbidmjlfjkaaDoor
