/- tollref06: contracts of number, Sum, lay, masked, digits. tollref06: contracts of masked, Has, digits, Text, PrefixText. tollref06: contracts of Text, PrefixText. tollref06: contract of options. -/
import Derived.Test.YtflhbidmjlfjkaaDoorCur
import Derived.Test.YtflhbidmjlfjkaaDoorInD
import Derived.Test.YtflhbidmjlfjkaaDoorInV
import Derived.Test.YtflhbidmjlfjkaaDoorUpto
import Derived.Deep.DeepCutAuto
namespace Go.Proofs.YtflhbidmjlfjkaaDoor
open Go.RowKit Go.Sort
set_option linter.unusedVariables false

theorem gnum_yes (A : Option Addr) (n c : Nat) (l : List UInt8) (w : World) (h : Byt w A n c l) (hn : n ≤ 6) : Calls Tryd.prog 50 #[.slice A n c] w fun e w' => e = .returned (.int .i64 (numM l : Int)) ∧ w = w' := by
  have hnc := h.2.1
  have hcc := h.2.2.1
  have HL := Lib.hid h.1
  have HB := Lib.hid h
  clear h
  go_enter Tryd.func50, Tryd.ntmps50
  go_wp2
  go_loop [3, 4] (fun t i => ∃ k : Nat, k ≤ n ∧ i = .int .i64 (k : Int) ∧ t = .int .i64 (numM (l.take k) : Int)) (fun _ i => n - (intOf i).toNat)
  case atStart => exact ⟨0, Nat.zero_le _, rfl, rfl⟩
  case round =>
    obtain ⟨k, hk, rfl, rfl⟩ := hrel
    have hlt2 : numM (l.take k) < 281474976710656 := by
      have h1 := numM_lt (l.take k)
      have h2 : (256 : Nat) ^ (l.take k).length ≤ 256 ^ 6 := Nat.pow_le_pow_right (by omega) (by simp; omega)
      omega
    by_cases hlt : k < n
    · have hkl : k < l.length := by rw [HL.out]; exact hlt
      obtain ⟨b, o, rfl, hcell⟩ := HB.out.at (i := k) hkl
      have HS := Lib.hid (show numM (l.take (k + 1)) = numM (l.take k) * 256 + l[k].toNat by rw [List.take_succ_eq_append_getElem hkl, numM_snoc])
      obtain ⟨x, hx⟩ : ∃ x, l[k] = x := ⟨_, rfl⟩
      have hxl := x.toNat_lt
      rw [hx] at hcell HS
      obtain ⟨N, hN⟩ : ∃ N, numM (l.take k) = N := ⟨_, rfl⟩
      rw [hN] at HS hlt2 ⊢
      clear hN hx
      go_wp2
      go_round
      case rel => exact ⟨k + 1, by omega, by go_num, by rw [HS.out]; go_num⟩
      case measure => simp [intOf]; omega
    · have hkm : k = n := by omega
      have ht : l.take k = l := by rw [List.take_of_length_le]; rw [HL.out]; omega
      rw [ht]
      clear ht hlt2
      go_wp2
      go_ret
      exact ⟨rfl, rfl⟩
theorem acc_two (l : List UInt8) (i : Nat) (hi : i % 2 = 0) (h : i + 1 < l.length) (a b : UInt8) (ha : l[i]? = some a) (hb : l[i + 1]? = some b) : accM (l.take (i + 2)) = addM (accM (l.take i)) (256 * a.toNat + b.toNat) := by
  have e : l.take (i + 2) = l.take i ++ [a, b] := by
    rw [show i + 2 = i + 1 + 1 from rfl, List.take_succ_eq_append_getElem h, List.take_succ_eq_append_getElem (by omega), List.append_assoc]
    rw [List.getElem?_eq_getElem (by omega)] at ha hb
    simp at ha hb
    rw [ha, hb]
    rfl
  unfold accM
  rw [e, wordsM_app _ _ (by rw [List.length_take]; omega), List.foldl_append]
  rfl
theorem acc_one (l : List UInt8) (i : Nat) (hi : i % 2 = 0) (h : i + 1 = l.length) (a : UInt8) (ha : l[i]? = some a) : accM (l.take (i + 2)) = addM (accM (l.take i)) (256 * a.toNat) := by
  have e : l.take (i + 2) = l.take i ++ [a] := by
    rw [List.take_of_length_le (by omega)]
    have := List.take_succ_eq_append_getElem (l := l) (i := i) (by omega)
    rw [List.take_of_length_le (by omega)] at this
    rw [List.getElem?_eq_getElem (by omega)] at ha
    simp at ha
    rw [ha] at this
    exact this
  unfold accM
  rw [e, wordsM_app _ _ (by rw [List.length_take]; omega), List.foldl_append]
  rfl
set_option maxHeartbeats 1000000 in
theorem gsum_yes (A : Option Addr) (n c : Nat) (l : List UInt8) (w : World) (h : Byt w A n c l) (hn : n ≤ 1099511627776) : Calls Tryd.prog 13 #[.slice A n c] w fun e w' => e = .returned (.int .u16 (sumM l : Int)) ∧ w = w' := by
  have hnc := h.2.1
  have hcc := h.2.2.1
  have HL := Lib.hid h.1
  have HB := Lib.hid h
  clear h
  go_enter Tryd.func13, Tryd.ntmps13
  go_wp2
  go_loop [3, 4] (fun t i => ∃ k : Nat, k ≤ n + 1 ∧ k % 2 = 0 ∧ i = .int .i64 (k : Int) ∧ t = .int .i64 (accM (l.take k) : Int)) (fun _ i => n + 2 - (intOf i).toNat)
  case atStart => exact ⟨0, Nat.zero_le _, rfl, rfl, rfl⟩
  case round =>
    obtain ⟨k, hk, hk2, rfl, rfl⟩ := hrel
    have hle := accM_le (l.take k)
    by_cases hlt : k < n
    · have hkl : k < l.length := by rw [HL.out]; exact hlt
      obtain ⟨b, o, rfl, hcell⟩ := HB.out.at (i := k) hkl
      obtain ⟨x, hx⟩ : ∃ x, l[k] = x := ⟨_, rfl⟩
      have hx? : l[k]? = some x := by rw [List.getElem?_eq_getElem hkl, hx]
      have hxl := x.toNat_lt
      rw [hx] at hcell
      by_cases hlt2 : k + 1 < n
      · obtain ⟨y, hy⟩ : ∃ y, l[k + 1]? = some y := ⟨l[k + 1]'(by rw [HL.out]; exact hlt2), List.getElem?_eq_getElem _⟩
        have hcy := byt_ge HB.out (k + 1) y hy
        have hyl := y.toNat_lt
        have HS := Lib.hid (acc_two l k hk2 (by rw [HL.out]; exact hlt2) x y hx? hy)
        generalize accM (l.take k) = N at *
        have hlt2' : (k : Int) + 1 < (n : Int) := by omega
        clear hx hx? hy
        by_cases hbig : 65535 < N + (256 * x.toNat + y.toNat)
        · have HA := Lib.hid (show addM N (256 * x.toNat + y.toNat) = N + (256 * x.toNat + y.toNat) - 65535 by unfold addM; rw [if_pos hbig])
          have hbig' : (65535 : Int) < (N : Int) + (256 * (x.toNat : Int) + (y.toNat : Int)) := by omega
          go_wp2
          go_round
          case rel => exact ⟨k + 2, by omega, by omega, by go_num, by rw [HS.out, HA.out]; go_num⟩
          case measure => simp [intOf]; omega
        · have HA := Lib.hid (show addM N (256 * x.toNat + y.toNat) = N + (256 * x.toNat + y.toNat) by unfold addM; rw [if_neg hbig])
          have hbig' : ¬ (65535 : Int) < (N : Int) + (256 * (x.toNat : Int) + (y.toNat : Int)) := by omega
          go_wp2
          go_round
          case rel => exact ⟨k + 2, by omega, by omega, by go_num, by rw [HS.out, HA.out]; go_num⟩
          case measure => simp [intOf]; omega
      · have HS := Lib.hid (acc_one l k hk2 (by rw [HL.out]; omega) x hx?)
        generalize accM (l.take k) = N at *
        have hlt2' : ¬ (k : Int) + 1 < (n : Int) := by omega
        clear hx hx?
        by_cases hbig : 65535 < N + 256 * x.toNat
        · have HA := Lib.hid (show addM N (256 * x.toNat) = N + 256 * x.toNat - 65535 by unfold addM; rw [if_pos hbig])
          have hbig' : (65535 : Int) < (N : Int) + 256 * (x.toNat : Int) := by omega
          go_wp2
          go_round
          case rel => exact ⟨k + 2, by omega, by omega, by go_num, by rw [HS.out, HA.out]; go_num⟩
          case measure => simp [intOf]; omega
        · have HA := Lib.hid (show addM N (256 * x.toNat) = N + 256 * x.toNat by unfold addM; rw [if_neg hbig])
          have hbig' : ¬ (65535 : Int) < (N : Int) + 256 * (x.toNat : Int) := by omega
          go_wp2
          go_round
          case rel => exact ⟨k + 2, by omega, by omega, by go_num, by rw [HS.out, HA.out]; go_num⟩
          case measure => simp [intOf]; omega
    · have ht : l.take k = l := by rw [List.take_of_length_le]; rw [HL.out]; omega
      rw [ht] at hle ⊢
      have HSM := Lib.hid (show ((sumM l : Nat) : Int) = 65535 - (accM l : Int) by unfold sumM; omega)
      generalize accM l = f at *
      clear ht
      go_wp2
      go_ret
      exact ⟨by rw [HSM.out]; rfl, rfl⟩
set_option maxHeartbeats 1000000 in
theorem glay2 (x : Nat) (w : World) (hx : x < 4294967296) :
    Calls Tryd.prog 46 #[.int .i64 (x : Int), .int .i64 2] w fun e w' => ∃ v, e = .returned v ∧ Made w w' v (beM 2 x) := by
  have hmk : ∀ w, (Instr.makeSlice 25 (.int .i64 2) (.int .i64 2)).run Tryd.prog w = .ok (.slice (some ⟨w.heap.size, 0, none⟩) 2 2) (w.alloc (.cells #[.int .u8 0, .int .u8 0] 5)) := fun _ => by kernel_rfl
  go_enter Tryd.func46, Tryd.ntmps46
  go_wp2
  clear hmk
  obtain ⟨g, hg⟩ : ∃ g, g = w.heap.size := ⟨_, rfl⟩
  rw [← hg]
  have HG := Lib.hid hg
  clear hg
  go_loopw [0, 6] (fun q i wr => ∃ j : Nat, j ≤ 2 ∧ i = .int .i64 (2 - 1 - (j : Int)) ∧ q = .int .i64 ((x / 256 ^ j : Nat) : Int) ∧ Blo wr g 5 (bys (curB 2 x j)).toArray ∧ Kept Nil w wr) (fun _ i _ => (intOf i + 1).toNat)
  case atStart => exact ⟨0, by omega, rfl, by simp, by rw [HG.out]; exact Blo.new w _ _, (Kept.refl Nil w).alloc _⟩
  case round =>
    obtain ⟨j, hj, rfl, rfl, hb, hk⟩ := hrel
    have hq : x / 256 ^ j < 4294967296 := Nat.lt_of_le_of_lt (Nat.div_le_self _ _) hx
    by_cases hlt : j < 2
    · have hst := cur_step 2 x j hlt hb
      have hc := hb.cell (2 - 1 - j)
      have hf := hb.frozen (2 - 1 - j)
      rw [cur_at 2 x j hlt] at hc
      have hi : (2 - 1 - (j : Int)) = ((2 - 1 - j : Nat) : Int) := by omega
      rw [hi] at *
      have hd : x / 256 ^ j / 256 = x / 256 ^ (j + 1) := by rw [Nat.div_div_eq_div_mul, Nat.pow_succ]
      have HD := Lib.hid hd
      have HST := Lib.hid hst
      have HK := Lib.hid hk
      clear hst hd hk hb hi
      generalize x / 256 ^ j = y at *
      generalize hz : 2 - 1 - j = z at *
      have HZ := Lib.hid hz
      have hz4 : z ≤ 2 - 1 := by omega
      have hwy : IntKind.wrap .u8 ((y : Int) % 256) = (y : Int) % 256 := IntWalk.u8_in _ (by omega)
      clear hz
      go_wp2
      go_roundw
      case rel => exact ⟨j + 1, by omega, by have h7 := HZ.out; go_num, by rw [← HD.out]; go_num, HST.out, HK.out.setCell (fun hl => by have := HG.out; simp at hl; omega) _⟩
      case measure => simp [intOf] <;> omega
    · have : j = 2 := by omega
      subst this
      have HB := Lib.hid hb
      have HK := Lib.hid hk
      clear hb hk
      go_wp2
      go_ret
      refine ⟨_, rfl, ?_⟩
      rw [HG.out] at HB
      have hm := made_of (beM_len 2 x) (by omega) (by have := HB.out; rw [cur_full] at this; exact this) HK.out
      rw [← HG.out] at hm
      exact hm
set_option maxHeartbeats 1000000 in
theorem glay4 (x : Nat) (w : World) (hx : x < 4294967296) :
    Calls Tryd.prog 46 #[.int .i64 (x : Int), .int .i64 4] w fun e w' => ∃ v, e = .returned v ∧ Made w w' v (beM 4 x) := by
  have hmk : ∀ w, (Instr.makeSlice 25 (.int .i64 4) (.int .i64 4)).run Tryd.prog w = .ok (.slice (some ⟨w.heap.size, 0, none⟩) 4 4) (w.alloc (.cells #[.int .u8 0, .int .u8 0, .int .u8 0, .int .u8 0] 5)) := fun _ => by kernel_rfl
  go_enter Tryd.func46, Tryd.ntmps46
  go_wp2
  clear hmk
  obtain ⟨g, hg⟩ : ∃ g, g = w.heap.size := ⟨_, rfl⟩
  rw [← hg]
  have HG := Lib.hid hg
  clear hg
  go_loopw [0, 6] (fun q i wr => ∃ j : Nat, j ≤ 4 ∧ i = .int .i64 (4 - 1 - (j : Int)) ∧ q = .int .i64 ((x / 256 ^ j : Nat) : Int) ∧ Blo wr g 5 (bys (curB 4 x j)).toArray ∧ Kept Nil w wr) (fun _ i _ => (intOf i + 1).toNat)
  case atStart => exact ⟨0, by omega, rfl, by simp, by rw [HG.out]; exact Blo.new w _ _, (Kept.refl Nil w).alloc _⟩
  case round =>
    obtain ⟨j, hj, rfl, rfl, hb, hk⟩ := hrel
    have hq : x / 256 ^ j < 4294967296 := Nat.lt_of_le_of_lt (Nat.div_le_self _ _) hx
    by_cases hlt : j < 4
    · have hst := cur_step 4 x j hlt hb
      have hc := hb.cell (4 - 1 - j)
      have hf := hb.frozen (4 - 1 - j)
      rw [cur_at 4 x j hlt] at hc
      have hi : (4 - 1 - (j : Int)) = ((4 - 1 - j : Nat) : Int) := by omega
      rw [hi] at *
      have hd : x / 256 ^ j / 256 = x / 256 ^ (j + 1) := by rw [Nat.div_div_eq_div_mul, Nat.pow_succ]
      have HD := Lib.hid hd
      have HST := Lib.hid hst
      have HK := Lib.hid hk
      clear hst hd hk hb hi
      generalize x / 256 ^ j = y at *
      generalize hz : 4 - 1 - j = z at *
      have HZ := Lib.hid hz
      have hz4 : z ≤ 4 - 1 := by omega
      have hwy : IntKind.wrap .u8 ((y : Int) % 256) = (y : Int) % 256 := IntWalk.u8_in _ (by omega)
      clear hz
      go_wp2
      go_roundw
      case rel => exact ⟨j + 1, by omega, by have h7 := HZ.out; go_num, by rw [← HD.out]; go_num, HST.out, HK.out.setCell (fun hl => by have := HG.out; simp at hl; omega) _⟩
      case measure => simp [intOf] <;> omega
    · have : j = 4 := by omega
      subst this
      have HB := Lib.hid hb
      have HK := Lib.hid hk
      clear hb hk
      go_wp2
      go_ret
      refine ⟨_, rfl, ?_⟩
      rw [HG.out] at HB
      have hm := made_of (beM_len 4 x) (by omega) (by have := HB.out; rw [cur_full] at this; exact this) HK.out
      rw [← HG.out] at hm
      exact hm
end Go.Proofs.YtflhbidmjlfjkaaDoor
namespace Go.Proofs.YtflhbidmjlfjkaaDoor
open Go.RowKit Go.Sort
set_option linter.unusedVariables false

theorem mask_step (ip j : Nat) : ip / 2 ^ j * 2 ^ j - (if ip / 2 ^ j % 2 = 1 then 2 ^ j else 0) = ip / 2 ^ (j + 1) * 2 ^ (j + 1) := by
  have e : ip / 2 ^ (j + 1) = ip / 2 ^ j / 2 := by rw [Nat.pow_succ, Nat.div_div_eq_div_mul]
  rw [e, Nat.pow_succ]
  generalize ip / 2 ^ j = Q
  generalize 2 ^ j = P
  have h := Nat.div_add_mod Q 2
  rcases Nat.mod_two_eq_zero_or_one Q with h0 | h0
  · rw [if_neg (by omega), Nat.sub_zero, Nat.mul_comm P 2, ← Nat.mul_assoc]
    congr 1
    omega
  · rw [if_pos h0, Nat.mul_comm P 2, ← Nat.mul_assoc]
    have : Q = Q / 2 * 2 + 1 := by omega
    conv => lhs; rw [this]
    rw [Nat.add_mul, Nat.one_mul, Nat.add_sub_cancel]
theorem gmask_yes (ip : Nat) (hip : ip < 4294967296) (bits : Int) (hb : -9223372036854775808 ≤ bits ∧ bits ≤ 9223372036854775807) (w : World) : Calls Tryd.prog 56 #[.int .u32 (ip : Int), .int .i64 bits] w fun e w' => e = .returned (.int .u32 (maskM ip (clipM bits) : Int)) ∧ w = w' := by
  have hcl := clip_le bits
  have hcd : bits = (clipM bits : Int) ∨ (bits < 0 ∧ clipM bits = 0) ∨ (32 < bits ∧ clipM bits = 32) := by
    unfold clipM
    split
    · exact .inr (.inl ⟨by assumption, rfl⟩)
    · split
      · exact .inr (.inr ⟨by assumption, rfl⟩)
      · left; omega
  generalize clipM bits = K at *
  go_enter Tryd.func56, Tryd.ntmps56
  go_wp2
  go_loop [0, 5, 6] (fun x y i => ∃ j : Nat, j ≤ 32 - K ∧ i = .int .i64 (32 - (j : Int)) ∧ x = .int .u32 ((ip / 2 ^ j * 2 ^ j : Nat) : Int) ∧ y = .int .u32 ((2 ^ j % 4294967296 : Nat) : Int)) (fun _ _ i => (intOf i).toNat)
  case atStart => exact ⟨0, by omega, rfl, by simp, rfl⟩
  case round =>
    obtain ⟨j, hj, rfl, rfl, rfl⟩ := hrel
    have HMS := Lib.hid (mask_step ip j)
    have hM : ip / 2 ^ j * 2 ^ j ≤ ip := Nat.div_mul_le_self _ _
    by_cases hlt : j < 32 - K
    · have hP : 2 ^ j % 4294967296 = 2 ^ j := Nat.mod_eq_of_lt (by have : 2 ^ j ≤ 2 ^ 31 := Nat.pow_le_pow_right (by decide) (by omega); omega)
      have hPp : 0 < 2 ^ j := Nat.two_pow_pos j
      have hP31 : 2 ^ j ≤ 2147483648 := by have : 2 ^ j ≤ 2 ^ 31 := Nat.pow_le_pow_right (by decide) (by omega); omega
      have hdv : ip / 2 ^ j * 2 ^ j / 2 ^ j = ip / 2 ^ j := Nat.mul_div_cancel _ hPp
      rw [hP]
      have HP2 := Lib.hid (show 2 ^ (j + 1) % 4294967296 = (2 ^ j * 2) % 4294967296 by rw [Nat.pow_succ])
      have hge : ip / 2 ^ j % 2 = 1 → 2 ^ j ≤ ip / 2 ^ j * 2 ^ j := fun h => by
        have : 0 < ip / 2 ^ j := Nat.pos_of_ne_zero (fun h0 => by rw [h0] at h; cases h)
        exact Nat.le_mul_of_pos_left _ this
      have c1 : bits < 32 - (j : Int) := by omega
      have c2 : (0 : Int) < 32 - (j : Int) := by omega
      generalize ip / 2 ^ j * 2 ^ j = M at *
      generalize ip / 2 ^ j = Q at *
      generalize 2 ^ j = P at *
      have hdi : (M : Int) / (P : Int) = (Q : Int) := by rw [← hdv]; rfl
      have hw2 : IntKind.wrap .u32 ((P : Int) * 2) = ((P * 2 % 4294967296 : Nat) : Int) := by rw [IntKind.wrap_u32]; omega
      clear hP hdv hcd hcl
      by_cases hr : Q % 2 = 1
      · have hr' : ((Q : Int) % 2 == 1) = true := by simp; omega
        have hge' : (P : Int) ≤ (M : Int) := by have := hge hr; omega
        have HM := Lib.hid (show ip / 2 ^ (j + 1) * 2 ^ (j + 1) = M - P by rw [← HMS.out, if_pos hr])
        clear hge hr
        go_wp2
        go_round
        case rel => exact ⟨j + 1, by omega, by go_num, by rw [HM.out]; go_num, by rw [HP2.out]; go_num⟩
        case measure => simp [intOf]; omega
      · have hr' : ((Q : Int) % 2 == 1) = false := by simp; omega
        have HM := Lib.hid (show ip / 2 ^ (j + 1) * 2 ^ (j + 1) = M by rw [← HMS.out, if_neg hr, Nat.sub_zero])
        clear hge hr
        go_wp2
        go_round
        case rel => exact ⟨j + 1, by omega, by go_num, by rw [HM.out], by rw [HP2.out]; go_num⟩
        case measure => simp [intOf]; omega
    · have hjk : j = 32 - K := by omega
      have HR := Lib.hid (show maskM ip K = ip / 2 ^ j * 2 ^ j by unfold maskM; rw [hjk])
      generalize ip / 2 ^ j * 2 ^ j = M at *
      by_cases hbb : bits < 32 - (j : Int)
      · have c2 : ¬ (0 : Int) < 32 - (j : Int) := by omega
        clear hcd
        go_wp2
        go_ret
        exact ⟨by rw [HR.out]; rfl, rfl⟩
      · clear hcd
        go_wp2
        go_ret
        exact ⟨by rw [HR.out]; rfl, rfl⟩
theorem ghas_yes (a b : Nat) (ha : a < 4294967296) (hb : b < 4294967296) (bits : Int) (h : -9223372036854775808 ≤ bits ∧ bits ≤ 9223372036854775807) (w : World) : Calls Tryd.prog 30 #[.int .u32 (a : Int), .int .i64 bits, .int .u32 (b : Int)] w fun e w' => e = .returned (.bool (decide (maskM a (clipM bits) = maskM b (clipM bits)))) ∧ w = w' := by
  have ca : ∀ u, Calls Tryd.prog _ _ u _ := fun u => gmask_yes a ha bits h u
  have cb : ∀ u, Calls Tryd.prog _ _ u _ := fun u => gmask_yes b hb bits h u
  generalize maskM a (clipM bits) = x at *
  generalize maskM b (clipM bits) = y at *
  have he : ((x : Int) == (y : Int)) = decide (x = y) := by rw [Bool.eq_iff_iff]; simp; omega
  have CA := Lib.hid ca
  have CB := Lib.hid cb
  clear ca cb
  go_enter Tryd.func30, Tryd.ntmps30
  go_wp2_with (fail)
  refine (CA.out _).mono ?_
  rintro e w1 ⟨rfl, rfl⟩
  go_wp2_with (fail)
  refine (CB.out _).mono ?_
  rintro e w1 ⟨rfl, rfl⟩
  go_wp2
  go_ret
  exact ⟨by first | rfl | rw [he] | simp, rfl⟩
/-- Digits, from the end. -/
theorem dig_ten (n : Nat) (h : n < 10) : digM n = [UInt8.ofNat (48 + n)] := by unfold digM; rw [if_pos h]
theorem dig_more (n : Nat) (h : 10 ≤ n) (h2 : n < 1000) : digM n = digM (n / 10) ++ [UInt8.ofNat (48 + n % 10)] := by
  unfold digM
  rw [if_neg (by omega)]
  by_cases h3 : n < 100
  · rw [if_pos h3, if_pos (by omega)]
    rfl
  · rw [if_neg h3, if_neg (by omega), if_pos (by omega), show n / 10 / 10 = n / 100 by omega]
    rfl
theorem str_app (a b : List UInt8) : (⟨a.toArray⟩ : ByteArray) ++ ⟨b.toArray⟩ = ⟨(a ++ b).toArray⟩ := by
  apply ByteArray.ext
  simp [ByteArray.data_append]
/-- What stands before the digits that have been told. -/
def tailD : Nat → Nat → List UInt8
  | 0, _ => []
  | j + 1, n => tailD j (n / 10) ++ [UInt8.ofNat (48 + n % 10)]
set_option maxHeartbeats 1000000 in
theorem gdig_yes (n : Nat) (hn : n < 1000) (w : World) : Calls Tryd.prog 58 #[.int .i64 (n : Int)] w fun e w' => e = .returned (.string ⟨(digM n).toArray⟩) ∧ Kept Nil w w' := by
  go_enter Tryd.func58, Tryd.ntmps58
  go_wp2
  go_loopw [0, 3] (fun x s wr => ∃ (m : Nat) (r : List UInt8), x = .int .i64 (m : Int) ∧ s = .string ⟨r.toArray⟩ ∧ m ≤ n ∧ Hid (digM n = digM m ++ r) ∧ Hid (Kept Nil w wr)) (fun x _ _ => (intOf x).toNat)
  case atStart => exact ⟨n, [], rfl, rfl, Nat.le_refl _, Lib.hid (by simp), Lib.hid (Kept.refl _ _)⟩
  case round =>
    obtain ⟨m, r, rfl, rfl, hmn, HD, HK⟩ := hrel
    have hw8 : IntKind.wrap .u8 (48 + (m : Int) % 10) = 48 + (m : Int) % 10 := IntWalk.u8_in _ (by omega)
    obtain ⟨ch, hch⟩ : ∃ ch, UInt8.ofNat (48 + m % 10) = ch := ⟨_, rfl⟩
    have hcv : (48 : Int) + (m : Int) % 10 = (ch.toNat : Int) := by rw [← hch, UInt8.toNat_ofNat']; omega
    have hy := byt_lit wr [ch] 5 #[.int .u8 (48 + (m : Int) % 10)] (by rw [hcv]; rfl) 1 rfl wr.heap.size rfl (by simp)
    have htx := hy.text (P := Tryd.prog) Tryd.underlying25 Tryd.underlying5 Tryd.underlying9
    have hka := (Kept.refl Nil wr).alloc (.cells #[.int .u8 (48 + (m : Int) % 10)] 5)
    have HKA := Lib.hid (HK.out.then hka)
    have HCH := Lib.hid hch
    have hrl : r.length ≤ 3 := by
      have h1 := congrArg List.length HD.out
      have h2 : (digM n).length ≤ 3 := by unfold digM; split; simp; split <;> simp
      rw [List.length_append] at h1
      omega
    have HSA := Lib.hid (str_app [ch] r)
    have hsz : (⟨r.toArray⟩ : ByteArray).size ≤ 3 := hrl
    have hsz1 : (⟨[ch].toArray⟩ : ByteArray).size = 1 := rfl
    clear hy hka HK hch hcv
    by_cases h10 : m < 10
    · have hq : ((m : Int) / 10 == 0) = true := by simp; omega
      have HF := Lib.hid (show (⟨([ch] ++ r).toArray⟩ : ByteArray) = ⟨(digM n).toArray⟩ by rw [HD.out, dig_ten m h10, ← HCH.out, Nat.mod_eq_of_lt h10])
      go_wp2
      go_ret
      exact ⟨by rw [← HF.out, ← HSA.out]; rfl, HKA.out⟩
    · have hq : ((m : Int) / 10 == 0) = false := by simp; omega
      have HF := Lib.hid (show digM n = digM (m / 10) ++ ([ch] ++ r) by rw [HD.out, dig_more m (by omega) (by omega), List.append_assoc, HCH.out])
      go_wp2
      go_roundw
      case rel => exact ⟨m / 10, _, by go_num, by rw [← HSA.out], by omega, HF, HKA⟩
      case measure => simp [intOf]; omega
end Go.Proofs.YtflhbidmjlfjkaaDoor
namespace Go.Proofs.YtflhbidmjlfjkaaDoor
open Go.RowKit Go.Sort
set_option linter.unusedVariables false

theorem dig_len (n : Nat) : (digM n).length ≤ 3 := by unfold digM; split; simp; split <;> simp
theorem bs_size (l : List UInt8) : (⟨l.toArray⟩ : ByteArray).size = l.length := rfl
set_option maxRecDepth 100000 in
set_option maxHeartbeats 2000000 in
theorem gtext_yes (ip : Nat) (hip : ip < 4294967296) (w : World) : Calls Tryd.prog 26 #[.int .u32 (ip : Int)] w fun e w' => e = .returned (.string ⟨(textM ip).toArray⟩) ∧ Kept Nil w w' := by
  have hw : IntKind.wrap .i64 (ip : Int) = (ip : Int) := by rw [IntKind.wrap_i64]; omega
  go_enter Tryd.func26, Tryd.ntmps26
  go_wp2_with (fail)
  refine (glay4 ip _ hip).mono ?_
  rintro e w1 ⟨v, rfl, hm⟩
  obtain ⟨A, c, rfl, hy, -⟩ := byt_own hm
  have hl : (beM 4 ip).length = 4 := beM_len _ _
  rw [hl] at hy ⊢
  have HK := Lib.hid hm.2
  have e4 : beM 4 ip = [UInt8.ofNat (ip / 16777216), UInt8.ofNat (ip / 65536), UInt8.ofNat (ip / 256), UInt8.ofNat ip] := by simp [beM, List.range_succ]
  rw [e4] at hy
  obtain ⟨b, o, rfl, -⟩ := hy.2.2.2 (by omega)
  have HY := Lib.hid hy
  have v0 : (UInt8.ofNat (ip / 16777216)).toNat = ip / 16777216 := by rw [UInt8.toNat_ofNat']; omega
  have v1 : (UInt8.ofNat (ip / 65536)).toNat = ip / 65536 % 256 := by rw [UInt8.toNat_ofNat']
  have v2 : (UInt8.ofNat (ip / 256)).toNat = ip / 256 % 256 := by rw [UInt8.toNat_ofNat']
  have v3 : (UInt8.ofNat ip).toNat = ip % 256 := by rw [UInt8.toNat_ofNat']
  have c0 := fun d os => byt_ge (HY.out.kept (kept_grown' w1 d os) (fun _ _ hf => hf)) 0 _ rfl
  have c1 := fun d os => byt_ge (HY.out.kept (kept_grown' w1 d os) (fun _ _ hf => hf)) 1 _ rfl
  have c2 := fun d os => byt_ge (HY.out.kept (kept_grown' w1 d os) (fun _ _ hf => hf)) 2 _ rfl
  have c3 := fun d os => byt_ge (HY.out.kept (kept_grown' w1 d os) (fun _ _ hf => hf)) 3 _ rfl
  simp only [Nat.add_zero] at c0
  rw [v0] at c0
  rw [v1] at c1
  rw [v2] at c2
  rw [v3] at c3
  have HT := Lib.hid (show textM ip = digM (ip / 16777216) ++ dot :: (digM (ip / 65536 % 256) ++ dot :: (digM (ip / 256 % 256) ++ dot :: digM (ip % 256))) from rfl)
  obtain ⟨n0, h0⟩ : ∃ n, ip / 16777216 = n := ⟨_, rfl⟩
  obtain ⟨n1, h1⟩ : ∃ n, ip / 65536 % 256 = n := ⟨_, rfl⟩
  obtain ⟨n2, h2⟩ : ∃ n, ip / 256 % 256 = n := ⟨_, rfl⟩
  obtain ⟨n3, h3⟩ : ∃ n, ip % 256 = n := ⟨_, rfl⟩
  rw [h0] at c0 HT
  rw [h1] at c1 HT
  rw [h2] at c2 HT
  rw [h3] at c3 HT
  have l0 : n0 < 256 := by omega
  have l1 : n1 < 256 := by omega
  have l2 : n2 < 256 := by omega
  have l3 : n3 < 256 := by omega
  have g0 : ∀ u, Calls Tryd.prog _ _ u _ := fun u => gdig_yes n0 (by omega) u
  have g1 : ∀ u, Calls Tryd.prog _ _ u _ := fun u => gdig_yes n1 (by omega) u
  have g2 : ∀ u, Calls Tryd.prog _ _ u _ := fun u => gdig_yes n2 (by omega) u
  have g3 : ∀ u, Calls Tryd.prog _ _ u _ := fun u => gdig_yes n3 (by omega) u
  obtain ⟨d0, e0⟩ : ∃ d, digM n0 = d := ⟨_, rfl⟩
  obtain ⟨d1, e1⟩ : ∃ d, digM n1 = d := ⟨_, rfl⟩
  obtain ⟨d2, e2⟩ : ∃ d, digM n2 = d := ⟨_, rfl⟩
  obtain ⟨d3, e3⟩ : ∃ d, digM n3 = d := ⟨_, rfl⟩
  have k0 := dig_len n0
  have k1 := dig_len n1
  have k2 := dig_len n2
  have k3 := dig_len n3
  rw [e0] at k0 g0 HT
  rw [e1] at k1 g1 HT
  rw [e2] at k2 g2 HT
  rw [e3] at k3 g3 HT
  have s0 : (⟨d0.toArray⟩ : ByteArray).size ≤ 3 := k0
  have s1 : (⟨d1.toArray⟩ : ByteArray).size ≤ 3 := k1
  have s2 : (⟨d2.toArray⟩ : ByteArray).size ≤ 3 := k2
  have s3 : (⟨d3.toArray⟩ : ByteArray).size ≤ 3 := k3
  have sd : (⟨#[46]⟩ : ByteArray).size = 1 := rfl
  have q0 : ((⟨d0.toArray⟩ : ByteArray) ++ (⟨#[46]⟩ : ByteArray)).size ≤ 4 := by rw [ByteArray.size_append]; omega
  have q1 : (((⟨d0.toArray⟩ : ByteArray) ++ (⟨#[46]⟩ : ByteArray)) ++ ⟨d1.toArray⟩).size ≤ 7 := by rw [ByteArray.size_append]; omega
  have q2 : ((((⟨d0.toArray⟩ : ByteArray) ++ (⟨#[46]⟩ : ByteArray)) ++ ⟨d1.toArray⟩) ++ (⟨#[46]⟩ : ByteArray)).size ≤ 8 := by rw [ByteArray.size_append]; omega
  have q3 : (((((⟨d0.toArray⟩ : ByteArray) ++ (⟨#[46]⟩ : ByteArray)) ++ ⟨d1.toArray⟩) ++ (⟨#[46]⟩ : ByteArray)) ++ ⟨d2.toArray⟩).size ≤ 11 := by rw [ByteArray.size_append]; omega
  have q4 : ((((((⟨d0.toArray⟩ : ByteArray) ++ (⟨#[46]⟩ : ByteArray)) ++ ⟨d1.toArray⟩) ++ (⟨#[46]⟩ : ByteArray)) ++ ⟨d2.toArray⟩) ++ (⟨#[46]⟩ : ByteArray)).size ≤ 12 := by rw [ByteArray.size_append]; omega
  have HF := Lib.hid (show ((((((⟨d0.toArray⟩ : ByteArray) ++ ⟨#[46]⟩) ++ ⟨d1.toArray⟩) ++ ⟨#[46]⟩) ++ ⟨d2.toArray⟩) ++ ⟨#[46]⟩) ++ ⟨d3.toArray⟩ = (⟨(textM ip).toArray⟩ : ByteArray) by
    rw [HT.out]
    have hd : (⟨#[46]⟩ : ByteArray) = ⟨[dot].toArray⟩ := rfl
    rw [hd, str_app, str_app, str_app, str_app, str_app, str_app]
    simp)
  have n4 : (0 : Nat) < 4 := by omega
  clear hy hm e4 v0 v1 v2 v3 h0 h1 h2 h3 e0 e1 e2 e3 k0 k1 k2 k3 HT HY
  go_wp2_with (fail)
  refine wp_region_quiet_below (by kernel_rfl) (by kernel_rfl) ?_
  repeat (go_big_quiet_step (first | with_reducible exact quietK (g0 _) | with_reducible exact quietK (g1 _) | with_reducible exact quietK (g2 _) | with_reducible exact quietK (g3 _)))
  refine wpQuiet_nil ?_
  rintro w2 ⟨nq, hw2⟩
  have HK2 := Lib.hid (HK.out.then (show Kept Nil w1 w2 by rw [hw2]; exact kept_grown _ _))
  clear hw2
  go_wp2
  go_ret
  exact ⟨by rw [← HF.out]; rfl, HK2.out⟩
theorem text_len (ip : Nat) : (textM ip).length ≤ 15 := by
  unfold textM
  have h1 := dig_len (ip / 16777216)
  have h2 := dig_len (ip / 65536 % 256)
  have h3 := dig_len (ip / 256 % 256)
  have h4 := dig_len (ip % 256)
  simp only [List.length_append, List.length_cons]
  omega
set_option maxHeartbeats 2000000 in
theorem gptext_yes (ip : Nat) (hip : ip < 4294967296) (bits : Int) (hb : -9223372036854775808 ≤ bits ∧ bits ≤ 9223372036854775807) (w : World) : Calls Tryd.prog 28 #[.int .u32 (ip : Int), .int .i64 bits] w fun e w' => e = .returned (.string ⟨(ptextM ip bits).toArray⟩) ∧ Kept Nil w w' := by
  by_cases h0 : bits < 0
  · obtain ⟨K, hK, hK0⟩ : ∃ K, clipM bits = K ∧ K = 0 := ⟨_, rfl, by unfold clipM; rw [if_pos h0]⟩
    subst hK0
    clear hb
    go_enter Tryd.func28, Tryd.ntmps28
    go_upto_region 5 with (fail)
    have cm : ∀ u, Calls Tryd.prog _ _ u _ := fun u => gmask_yes ip hip 0 (by omega) u
    rw [show clipM 0 = 0 from rfl] at cm
    have hml : maskM ip 0 < 4294967296 := Nat.lt_of_le_of_lt (mask_le _ _) hip
    have ct : ∀ u, Calls Tryd.prog _ _ u _ := fun u => gtext_yes (maskM ip 0) hml u
    have cd : ∀ u, Calls Tryd.prog 58 #[.int .i64 0] u _ := fun u => gdig_yes 0 (by omega) u
    have HP := Lib.hid (show ptextM ip bits = textM (maskM ip 0) ++ slash :: digM 0 by unfold ptextM; rw [hK, if_neg (by omega)])
    generalize maskM ip 0 = M at *
    have htl := text_len M
    have hdl := dig_len 0
    generalize textM M = T at *
    generalize digM 0 = D at *
    have sT : (⟨T.toArray⟩ : ByteArray).size ≤ 15 := htl
    have sD : (⟨D.toArray⟩ : ByteArray).size ≤ 3 := hdl
    have sd : (⟨#[47]⟩ : ByteArray).size = 1 := rfl
    have q0 : ((⟨T.toArray⟩ : ByteArray) ++ (⟨#[47]⟩ : ByteArray)).size ≤ 16 := by rw [ByteArray.size_append]; omega
    have HF := Lib.hid (show ((⟨T.toArray⟩ : ByteArray) ++ ⟨#[47]⟩) ++ ⟨D.toArray⟩ = (⟨(ptextM ip bits).toArray⟩ : ByteArray) by
      rw [HP.out]
      have hd : (⟨#[47]⟩ : ByteArray) = ⟨[slash].toArray⟩ := rfl
      rw [hd, str_app, str_app]
      simp)
    have CM := Lib.hid cm
    have CT := Lib.hid ct
    have CD := Lib.hid cd
    clear cm ct cd hml htl hdl HP
    go_wp2_with (fail)
    refine (CM.out _).mono ?_
    rintro e w1 ⟨rfl, rfl⟩
    go_wp2_with (fail)
    refine (CT.out _).mono ?_
    rintro e w2 ⟨rfl, hk⟩
    have HK2 := Lib.hid hk
    clear hk
    go_wp2_with (fail)
    refine (CD.out _).mono ?_
    rintro e w3 ⟨rfl, hk⟩
    have HK3 := Lib.hid (HK2.out.then hk)
    clear hk
    go_wp2
    go_ret
    exact ⟨by rw [← HF.out]; rfl, HK3.out⟩
  · by_cases h32 : (32 : Int) ≤ bits
    · have HP := Lib.hid (show ptextM ip bits = textM ip by unfold ptextM; rw [if_pos]; unfold clipM; rw [if_neg h0]; split; rfl; omega)
      go_enter Tryd.func28, Tryd.ntmps28
      go_wp2_with (fail)
      refine (gtext_yes ip hip _).mono ?_
      rintro e w1 ⟨rfl, hk⟩
      have HK := Lib.hid hk
      clear hk
      go_wp2
      go_ret
      exact ⟨by rw [HP.out]; first | done | rfl, HK.out⟩
    · obtain ⟨K, hK, hKb⟩ : ∃ K, clipM bits = K ∧ bits = (K : Int) := ⟨_, rfl, by unfold clipM; rw [if_neg h0, if_neg (by omega)]; omega⟩
      have hK32 : K < 32 := by omega
      subst hKb
      clear hb
      go_enter Tryd.func28, Tryd.ntmps28
      go_upto_region 5 with (fail)
      have cm : ∀ u, Calls Tryd.prog _ _ u _ := fun u => gmask_yes ip hip (K : Int) (by omega) u
      rw [clip_nat K (by omega)] at cm
      have hml : maskM ip K < 4294967296 := Nat.lt_of_le_of_lt (mask_le _ _) hip
      have ct : ∀ u, Calls Tryd.prog _ _ u _ := fun u => gtext_yes (maskM ip K) hml u
      have cd : ∀ u, Calls Tryd.prog _ _ u _ := fun u => gdig_yes K (by omega) u
      have HP := Lib.hid (show ptextM ip (K : Int) = textM (maskM ip K) ++ slash :: digM K by unfold ptextM; rw [hK, if_neg (by omega)])
      generalize maskM ip K = M at *
      have htl := text_len M
      have hdl := dig_len K
      generalize textM M = T at *
      generalize digM K = D at *
      have sT : (⟨T.toArray⟩ : ByteArray).size ≤ 15 := htl
      have sD : (⟨D.toArray⟩ : ByteArray).size ≤ 3 := hdl
      have sd : (⟨#[47]⟩ : ByteArray).size = 1 := rfl
      have q0 : ((⟨T.toArray⟩ : ByteArray) ++ (⟨#[47]⟩ : ByteArray)).size ≤ 16 := by rw [ByteArray.size_append]; omega
      have HF := Lib.hid (show ((⟨T.toArray⟩ : ByteArray) ++ ⟨#[47]⟩) ++ ⟨D.toArray⟩ = (⟨(ptextM ip (K : Int)).toArray⟩ : ByteArray) by
        rw [HP.out]
        have hd : (⟨#[47]⟩ : ByteArray) = ⟨[slash].toArray⟩ := rfl
        rw [hd, str_app, str_app]
        simp)
      have CM := Lib.hid cm
      have CT := Lib.hid ct
      have CD := Lib.hid cd
      clear cm ct cd hml htl hdl HP
      go_wp2_with (fail)
      refine (CM.out _).mono ?_
      rintro e w1 ⟨rfl, rfl⟩
      go_wp2_with (fail)
      refine (CT.out _).mono ?_
      rintro e w2 ⟨rfl, hk⟩
      have HK2 := Lib.hid hk
      clear hk
      go_wp2_with (fail)
      refine (CD.out _).mono ?_
      rintro e w3 ⟨rfl, hk⟩
      have HK3 := Lib.hid (HK2.out.then hk)
      clear hk
      go_wp2
      go_ret
      exact ⟨by rw [← HF.out]; rfl, HK3.out⟩
end Go.Proofs.YtflhbidmjlfjkaaDoor
namespace Go.Proofs.YtflhbidmjlfjkaaDoor
open Go.RowKit Go.Sort
set_option linter.unusedVariables false

theorem opts_fuel (f g : Nat) (l : List UInt8) (hf : l.length ≤ f) (hg : l.length ≤ g) : optsGo f l = optsGo g l := by
  induction f generalizing g l with
  | zero =>
    have : l = [] := List.eq_nil_of_length_eq_zero (by omega)
    subst this
    cases g <;> rfl
  | succ f ih =>
    cases l with
    | nil => cases g <;> rfl
    | cons a r =>
      cases g with
      | zero => simp at hg
      | succ g =>
        simp only [List.length_cons] at hf hg
        unfold optsGo
        split
        · rfl
        · split
          · exact ih g r (by omega) (by omega)
          · split
            · rfl
            · rename_i b r2
              split
              · rfl
              · rename_i hb
                refine ih g _ ?_ ?_ <;> (rw [List.length_drop, List.length_cons]; omega)
/-- What is left of a list, element by element. -/
theorem drop_cons {l : List UInt8} {k : Nat} {x : UInt8} (h : l[k]? = some x) : l.drop k = x :: l.drop (k + 1) := by
  obtain ⟨hk, rfl⟩ := List.getElem?_eq_some_iff.1 h
  exact List.drop_eq_getElem_cons hk
theorem opts_zero (l : List UInt8) (n k : Nat) (hl : l.length = n) (hk : k < n) (h : l[k]? = some 0) : optsGo (n - k) (l.drop k) = true := by
  rw [drop_cons h, show n - k = (n - k - 1) + 1 by omega]
  rfl
theorem opts_one (l : List UInt8) (n k : Nat) (hl : l.length = n) (hk : k < n) (h : l[k]? = some 1) : optsGo (n - k) (l.drop k) = optsGo (n - (k + 1)) (l.drop (k + 1)) := by
  rw [drop_cons h, show n - k = (n - (k + 1)) + 1 by omega]
  rfl
theorem opts_last (l : List UInt8) (n k : Nat) (x : UInt8) (hl : l.length = n) (hk : k + 1 = n) (h : l[k]? = some x) (h0 : x ≠ 0) (h1 : x ≠ 1) : optsGo (n - k) (l.drop k) = false := by
  rw [drop_cons h, List.drop_of_length_le (by omega), show n - k = 0 + 1 by omega]
  unfold optsGo
  rw [if_neg h0, if_neg h1]
theorem opts_step (f : Nat) (a b : UInt8) (r : List UInt8) (h0 : a ≠ 0) (h1 : a ≠ 1) : optsGo (f + 1) (a :: b :: r) = if b.toNat < 2 ∨ (b :: r).length + 1 < b.toNat then false else optsGo f ((a :: b :: r).drop b.toNat) := by
  show (if a = 0 then true else if a = 1 then optsGo f (b :: r) else _) = _
  rw [if_neg h0, if_neg h1]
theorem opts_more (l : List UInt8) (n k : Nat) (x y : UInt8) (hl : l.length = n) (hk : k + 1 < n) (h : l[k]? = some x) (hy : l[k + 1]? = some y) (h0 : x ≠ 0) (h1 : x ≠ 1) : optsGo (n - k) (l.drop k) = if y.toNat < 2 ∨ n < k + y.toNat then false else optsGo (n - (k + y.toNat)) (l.drop (k + y.toNat)) := by
  have hlen : (l.drop (k + 1)).length = n - k - 1 := by rw [List.length_drop]; omega
  have e2 := drop_cons hy
  have e1 := drop_cons h
  rw [show n - k = (n - k - 1) + 1 by omega, e1, e2, opts_step _ _ _ _ h0 h1, ← e2, hlen, ← e1, List.drop_drop]
  by_cases hc : y.toNat < 2 ∨ n < k + y.toNat
  · rw [if_pos hc, if_pos (show y.toNat < 2 ∨ n - k - 1 + 1 < y.toNat by omega)]
  · rw [if_neg hc, if_neg (show ¬ (y.toNat < 2 ∨ n - k - 1 + 1 < y.toNat) by omega)]
    refine opts_fuel _ _ _ ?_ ?_ <;> (rw [List.length_drop]; omega)
set_option maxHeartbeats 2000000 in
theorem gopts_yes (A : Option Addr) (n c : Nat) (l : List UInt8) (w : World) (h : Byt w A n c l) (hn : n ≤ 1099511627776) : Calls Tryd.prog 44 #[.slice A n c] w fun e w' => e = .returned (.bool (optsM l)) ∧ w = w' := by
  have hnc := h.2.1
  have hcc := h.2.2.1
  have hl := h.1
  have HL := Lib.hid hl
  have HB := Lib.hid h
  have HO := Lib.hid (show optsM l = (decide (n ≤ 40 ∧ n % 4 = 0) && optsGo n l) by unfold optsM; rw [hl])
  clear h hl
  by_cases h40 : 40 < n
  · have h40' : (40 : Int) < (n : Int) := by omega
    have HR := Lib.hid (show optsM l = false by rw [HO.out, decide_eq_false (by omega)]; rfl)
    go_enter Tryd.func44, Tryd.ntmps44
    go_wp2
    go_ret
    exact ⟨by rw [HR.out]; rfl, rfl⟩
  · by_cases h4 : n % 4 = 0
    · have h4' : ((n : Int) % 4 != 0) = false := by simp; omega
      have HR := Lib.hid (show optsM l = optsGo n l by rw [HO.out, decide_eq_true ⟨by omega, h4⟩, Bool.true_and])
      clear HO
      go_enter Tryd.func44, Tryd.ntmps44
      go_wp2
      go_loop [3] (fun i => ∃ k : Nat, k ≤ n ∧ i = .int .i64 (k : Int) ∧ Hid (optsGo n l = optsGo (n - k) (l.drop k))) (fun i => n - (intOf i).toNat)
      case atStart => exact ⟨0, Nat.zero_le _, rfl, Lib.hid rfl⟩
      case round =>
        obtain ⟨k, hk, rfl, HG⟩ := hrel
        by_cases hlt : k < n
        · have hkl : k < l.length := by rw [HL.out]; exact hlt
          obtain ⟨b, o, rfl, hcell⟩ := HB.out.at (i := k) hkl
          obtain ⟨x, hx⟩ : ∃ x, l[k] = x := ⟨_, rfl⟩
          have hx? : l[k]? = some x := by rw [List.getElem?_eq_getElem hkl, hx]
          rw [hx] at hcell
          clear hx
          by_cases x0 : x = 0
          · subst x0
            have HZ := Lib.hid (show optsM l = true by rw [HR.out, HG.out, opts_zero l n k HL.out hlt hx?])
            clear hx?
            go_wp2
            go_ret
            exact ⟨by rw [HZ.out]; rfl, rfl⟩
          · have b0 : ((x.toNat : Int) == 0) = false := by
              simp only [beq_eq_false_iff_ne, ne_eq]
              intro he
              exact x0 (UInt8.toNat_inj.1 (by show x.toNat = 0; omega))
            by_cases x1 : x = 1
            · subst x1
              have HS := Lib.hid (show optsGo n l = optsGo (n - (k + 1)) (l.drop (k + 1)) by rw [HG.out, opts_one l n k HL.out hlt hx?])
              clear hx? b0 x0
              go_wp2
              go_round
              case rel => exact ⟨k + 1, by omega, by go_num, HS⟩
              case measure => simp [intOf]; omega
            · have b1 : ((x.toNat : Int) == 1) = false := by
                simp only [beq_eq_false_iff_ne, ne_eq]
                intro he
                exact x1 (UInt8.toNat_inj.1 (by show x.toNat = 1; omega))
              by_cases hlast : k + 1 < n
              · have hl' : ¬ (n : Int) ≤ (k : Int) + 1 := by omega
                obtain ⟨y, hy⟩ : ∃ y, l[k + 1]? = some y := ⟨l[k + 1]'(by rw [HL.out]; exact hlast), List.getElem?_eq_getElem _⟩
                have hcy := byt_ge HB.out (k + 1) y hy
                have hyl := y.toNat_lt
                have HM := Lib.hid (opts_more l n k x y HL.out hlast hx? hy x0 x1)
                clear hx? hy x0 x1
                by_cases y2 : y.toNat < 2
                · have y2' : (y.toNat : Int) < 2 := by omega
                  have HZ := Lib.hid (show optsM l = false by rw [HR.out, HG.out, HM.out, if_pos (.inl y2)])
                  go_wp2
                  go_ret
                  exact ⟨by rw [HZ.out]; rfl, rfl⟩
                · have y2' : ¬ (y.toNat : Int) < 2 := by omega
                  by_cases hb : n < k + y.toNat
                  · have hb' : (n : Int) < (k : Int) + (y.toNat : Int) := by omega
                    have HZ := Lib.hid (show optsM l = false by rw [HR.out, HG.out, HM.out, if_pos (.inr hb)])
                    go_wp2
                    go_ret
                    exact ⟨by rw [HZ.out]; rfl, rfl⟩
                  · have hb' : ¬ (n : Int) < (k : Int) + (y.toNat : Int) := by omega
                    have HS := Lib.hid (show optsGo n l = optsGo (n - (k + y.toNat)) (l.drop (k + y.toNat)) by rw [HG.out, HM.out, if_neg (by omega)])
                    go_wp2
                    go_round
                    case rel => exact ⟨k + y.toNat, by omega, by go_num, HS⟩
                    case measure => simp [intOf]; omega
              · have hl' : (n : Int) ≤ (k : Int) + 1 := by omega
                have HZ := Lib.hid (show optsM l = false by rw [HR.out, HG.out, opts_last l n k x HL.out (by omega) hx? x0 x1])
                clear hx? x0 x1
                go_wp2
                go_ret
                exact ⟨by rw [HZ.out]; rfl, rfl⟩
        · have hkn : k = n := by omega
          have HZ := Lib.hid (show optsM l = true by rw [HR.out, HG.out, hkn, Nat.sub_self]; rfl)
          go_wp2
          go_ret
          exact ⟨by rw [HZ.out]; rfl, rfl⟩
    · have h4' : ((n : Int) % 4 != 0) = true := by simp; omega
      have HR := Lib.hid (show optsM l = false by rw [HO.out, decide_eq_false (by omega)]; rfl)
      go_enter Tryd.func44, Tryd.ntmps44
      go_wp2
      go_ret
      exact ⟨by rw [HR.out]; rfl, rfl⟩
end Go.Proofs.YtflhbidmjlfjkaaDoor
