/- tollref06: contracts of number, Sum, lay, masked, digits. -/
import Derived.Test.YtflhbidmjlfjkaaDoorCur
import Derived.Test.YtflhbidmjlfjkaaDoorInD
import Derived.Test.YtflhbidmjlfjkaaDoorInT
import Derived.Test.YtflhbidmjlfjkaaDoorUpto
namespace Go.Proofs.YtflhbidmjlfjkaaDoor
open Go.RowKit Go.Sort
set_option linter.unusedVariables false

theorem gnum_yes (A : Option Addr) (n c : Nat) (l : List UInt8) (w : World) (h : Byt w A n c l) (hn : n ≤ 6) : Calls Tryd.prog 50 #[.slice A n c] w fun e w' => e = .returned (.int .i64 (numM l : Int)) ∧ w = w' := by
  have hnc := h.2.1
  have hcc := h.2.2.1
  have HL := Lib.hid h.1
  have HB := Lib.hid h
  clear h
  go_enter Tryd.func50, Tryd.ntmps50
  go_wp2
  go_loop [3, 4] (fun t i => ∃ k : Nat, k ≤ n ∧ i = .int .i64 (k : Int) ∧ t = .int .i64 (numM (l.take k) : Int)) (fun _ i => n - (intOf i).toNat)
  case atStart => exact ⟨0, Nat.zero_le _, rfl, rfl⟩
  case round =>
    obtain ⟨k, hk, rfl, rfl⟩ := hrel
    have hlt2 : numM (l.take k) < 281474976710656 := by
      have h1 := numM_lt (l.take k)
      have h2 : (256 : Nat) ^ (l.take k).length ≤ 256 ^ 6 := Nat.pow_le_pow_right (by omega) (by simp; omega)
      omega
    by_cases hlt : k < n
    · have hkl : k < l.length := by rw [HL.out]; exact hlt
      obtain ⟨b, o, rfl, hcell⟩ := HB.out.at (i := k) hkl
      have HS := Lib.hid (show numM (l.take (k + 1)) = numM (l.take k) * 256 + l[k].toNat by rw [List.take_succ_eq_append_getElem hkl, numM_snoc])
      obtain ⟨x, hx⟩ : ∃ x, l[k] = x := ⟨_, rfl⟩
      have hxl := x.toNat_lt
      rw [hx] at hcell HS
      obtain ⟨N, hN⟩ : ∃ N, numM (l.take k) = N := ⟨_, rfl⟩
      rw [hN] at HS hlt2 ⊢
      clear hN hx
      go_wp2
      go_round
      case rel => exact ⟨k + 1, by omega, by go_num, by rw [HS.out]; go_num⟩
      case measure => simp [intOf]; omega
    · have hkm : k = n := by omega
      have ht : l.take k = l := by rw [List.take_of_length_le]; rw [HL.out]; omega
      rw [ht]
      clear ht hlt2
      go_wp2
      go_ret
      exact ⟨rfl, rfl⟩
theorem acc_two (l : List UInt8) (i : Nat) (hi : i % 2 = 0) (h : i + 1 < l.length) (a b : UInt8) (ha : l[i]? = some a) (hb : l[i + 1]? = some b) : accM (l.take (i + 2)) = addM (accM (l.take i)) (256 * a.toNat + b.toNat) := by
  have e : l.take (i + 2) = l.take i ++ [a, b] := by
    rw [show i + 2 = i + 1 + 1 from rfl, List.take_succ_eq_append_getElem h, List.take_succ_eq_append_getElem (by omega), List.append_assoc]
    rw [List.getElem?_eq_getElem (by omega)] at ha hb
    simp at ha hb
    rw [ha, hb]
    rfl
  unfold accM
  rw [e, wordsM_app _ _ (by rw [List.length_take]; omega), List.foldl_append]
  rfl
theorem acc_one (l : List UInt8) (i : Nat) (hi : i % 2 = 0) (h : i + 1 = l.length) (a : UInt8) (ha : l[i]? = some a) : accM (l.take (i + 2)) = addM (accM (l.take i)) (256 * a.toNat) := by
  have e : l.take (i + 2) = l.take i ++ [a] := by
    rw [List.take_of_length_le (by omega)]
    have := List.take_succ_eq_append_getElem (l := l) (i := i) (by omega)
    rw [List.take_of_length_le (by omega)] at this
    rw [List.getElem?_eq_getElem (by omega)] at ha
    simp at ha
    rw [ha] at this
    exact this
  unfold accM
  rw [e, wordsM_app _ _ (by rw [List.length_take]; omega), List.foldl_append]
  rfl
set_option maxHeartbeats 1000000 in
theorem gsum_yes (A : Option Addr) (n c : Nat) (l : List UInt8) (w : World) (h : Byt w A n c l) (hn : n ≤ 1099511627776) : Calls Tryd.prog 13 #[.slice A n c] w fun e w' => e = .returned (.int .u16 (sumM l : Int)) ∧ w = w' := by
  have hnc := h.2.1
  have hcc := h.2.2.1
  have HL := Lib.hid h.1
  have HB := Lib.hid h
  clear h
  go_enter Tryd.func13, Tryd.ntmps13
  go_wp2
  go_loop [3, 4] (fun t i => ∃ k : Nat, k ≤ n + 1 ∧ k % 2 = 0 ∧ i = .int .i64 (k : Int) ∧ t = .int .i64 (accM (l.take k) : Int)) (fun _ i => n + 2 - (intOf i).toNat)
  case atStart => exact ⟨0, Nat.zero_le _, rfl, rfl, rfl⟩
  case round =>
    obtain ⟨k, hk, hk2, rfl, rfl⟩ := hrel
    have hle := accM_le (l.take k)
    by_cases hlt : k < n
    · have hkl : k < l.length := by rw [HL.out]; exact hlt
      obtain ⟨b, o, rfl, hcell⟩ := HB.out.at (i := k) hkl
      obtain ⟨x, hx⟩ : ∃ x, l[k] = x := ⟨_, rfl⟩
      have hx? : l[k]? = some x := by rw [List.getElem?_eq_getElem hkl, hx]
      have hxl := x.toNat_lt
      rw [hx] at hcell
      by_cases hlt2 : k + 1 < n
      · obtain ⟨y, hy⟩ : ∃ y, l[k + 1]? = some y := ⟨l[k + 1]'(by rw [HL.out]; exact hlt2), List.getElem?_eq_getElem _⟩
        have hcy := byt_ge HB.out (k + 1) y hy
        have hyl := y.toNat_lt
        have HS := Lib.hid (acc_two l k hk2 (by rw [HL.out]; exact hlt2) x y hx? hy)
        generalize accM (l.take k) = N at *
        have hlt2' : (k : Int) + 1 < (n : Int) := by omega
        clear hx hx? hy
        by_cases hbig : 65535 < N + (256 * x.toNat + y.toNat)
        · have HA := Lib.hid (show addM N (256 * x.toNat + y.toNat) = N + (256 * x.toNat + y.toNat) - 65535 by unfold addM; rw [if_pos hbig])
          have hbig' : (65535 : Int) < (N : Int) + (256 * (x.toNat : Int) + (y.toNat : Int)) := by omega
          go_wp2
          go_round
          case rel => exact ⟨k + 2, by omega, by omega, by go_num, by rw [HS.out, HA.out]; go_num⟩
          case measure => simp [intOf]; omega
        · have HA := Lib.hid (show addM N (256 * x.toNat + y.toNat) = N + (256 * x.toNat + y.toNat) by unfold addM; rw [if_neg hbig])
          have hbig' : ¬ (65535 : Int) < (N : Int) + (256 * (x.toNat : Int) + (y.toNat : Int)) := by omega
          go_wp2
          go_round
          case rel => exact ⟨k + 2, by omega, by omega, by go_num, by rw [HS.out, HA.out]; go_num⟩
          case measure => simp [intOf]; omega
      · have HS := Lib.hid (acc_one l k hk2 (by rw [HL.out]; omega) x hx?)
        generalize accM (l.take k) = N at *
        have hlt2' : ¬ (k : Int) + 1 < (n : Int) := by omega
        clear hx hx?
        by_cases hbig : 65535 < N + 256 * x.toNat
        · have HA := Lib.hid (show addM N (256 * x.toNat) = N + 256 * x.toNat - 65535 by unfold addM; rw [if_pos hbig])
          have hbig' : (65535 : Int) < (N : Int) + 256 * (x.toNat : Int) := by omega
          go_wp2
          go_round
          case rel => exact ⟨k + 2, by omega, by omega, by go_num, by rw [HS.out, HA.out]; go_num⟩
          case measure => simp [intOf]; omega
        · have HA := Lib.hid (show addM N (256 * x.toNat) = N + 256 * x.toNat by unfold addM; rw [if_neg hbig])
          have hbig' : ¬ (65535 : Int) < (N : Int) + 256 * (x.toNat : Int) := by omega
          go_wp2
          go_round
          case rel => exact ⟨k + 2, by omega, by omega, by go_num, by rw [HS.out, HA.out]; go_num⟩
          case measure => simp [intOf]; omega
    · have ht : l.take k = l := by rw [List.take_of_length_le]; rw [HL.out]; omega
      rw [ht] at hle ⊢
      have HSM := Lib.hid (show ((sumM l : Nat) : Int) = 65535 - (accM l : Int) by unfold sumM; omega)
      generalize accM l = f at *
      clear ht
      go_wp2
      go_ret
      exact ⟨by rw [HSM.out]; rfl, rfl⟩
set_option maxHeartbeats 1000000 in
theorem glay2 (x : Nat) (w : World) (hx : x < 4294967296) :
    Calls Tryd.prog 46 #[.int .i64 (x : Int), .int .i64 2] w fun e w' => ∃ v, e = .returned v ∧ Made w w' v (beM 2 x) := by
  have hmk : ∀ w, (Instr.makeSlice 25 (.int .i64 2) (.int .i64 2)).run Tryd.prog w = .ok (.slice (some ⟨w.heap.size, 0, none⟩) 2 2) (w.alloc (.cells #[.int .u8 0, .int .u8 0] 5)) := fun _ => by kernel_rfl
  go_enter Tryd.func46, Tryd.ntmps46
  go_wp2
  clear hmk
  obtain ⟨g, hg⟩ : ∃ g, g = w.heap.size := ⟨_, rfl⟩
  rw [← hg]
  have HG := Lib.hid hg
  clear hg
  go_loopw [0, 6] (fun q i wr => ∃ j : Nat, j ≤ 2 ∧ i = .int .i64 (2 - 1 - (j : Int)) ∧ q = .int .i64 ((x / 256 ^ j : Nat) : Int) ∧ Blo wr g 5 (bys (curB 2 x j)).toArray ∧ Kept Nil w wr) (fun _ i _ => (intOf i + 1).toNat)
  case atStart => exact ⟨0, by omega, rfl, by simp, by rw [HG.out]; exact Blo.new w _ _, (Kept.refl Nil w).alloc _⟩
  case round =>
    obtain ⟨j, hj, rfl, rfl, hb, hk⟩ := hrel
    have hq : x / 256 ^ j < 4294967296 := Nat.lt_of_le_of_lt (Nat.div_le_self _ _) hx
    by_cases hlt : j < 2
    · have hst := cur_step 2 x j hlt hb
      have hc := hb.cell (2 - 1 - j)
      have hf := hb.frozen (2 - 1 - j)
      rw [cur_at 2 x j hlt] at hc
      have hi : (2 - 1 - (j : Int)) = ((2 - 1 - j : Nat) : Int) := by omega
      rw [hi] at *
      have hd : x / 256 ^ j / 256 = x / 256 ^ (j + 1) := by rw [Nat.div_div_eq_div_mul, Nat.pow_succ]
      have HD := Lib.hid hd
      have HST := Lib.hid hst
      have HK := Lib.hid hk
      clear hst hd hk hb hi
      generalize x / 256 ^ j = y at *
      generalize hz : 2 - 1 - j = z at *
      have HZ := Lib.hid hz
      have hz4 : z ≤ 2 - 1 := by omega
      have hwy : IntKind.wrap .u8 ((y : Int) % 256) = (y : Int) % 256 := IntWalk.u8_in _ (by omega)
      clear hz
      go_wp2
      go_roundw
      case rel => exact ⟨j + 1, by omega, by have h7 := HZ.out; go_num, by rw [← HD.out]; go_num, HST.out, HK.out.setCell (fun hl => by have := HG.out; simp at hl; omega) _⟩
      case measure => simp [intOf] <;> omega
    · have : j = 2 := by omega
      subst this
      have HB := Lib.hid hb
      have HK := Lib.hid hk
      clear hb hk
      go_wp2
      go_ret
      refine ⟨_, rfl, ?_⟩
      rw [HG.out] at HB
      have hm := made_of (beM_len 2 x) (by omega) (by have := HB.out; rw [cur_full] at this; exact this) HK.out
      rw [← HG.out] at hm
      exact hm
set_option maxHeartbeats 1000000 in
theorem glay4 (x : Nat) (w : World) (hx : x < 4294967296) :
    Calls Tryd.prog 46 #[.int .i64 (x : Int), .int .i64 4] w fun e w' => ∃ v, e = .returned v ∧ Made w w' v (beM 4 x) := by
  have hmk : ∀ w, (Instr.makeSlice 25 (.int .i64 4) (.int .i64 4)).run Tryd.prog w = .ok (.slice (some ⟨w.heap.size, 0, none⟩) 4 4) (w.alloc (.cells #[.int .u8 0, .int .u8 0, .int .u8 0, .int .u8 0] 5)) := fun _ => by kernel_rfl
  go_enter Tryd.func46, Tryd.ntmps46
  go_wp2
  clear hmk
  obtain ⟨g, hg⟩ : ∃ g, g = w.heap.size := ⟨_, rfl⟩
  rw [← hg]
  have HG := Lib.hid hg
  clear hg
  go_loopw [0, 6] (fun q i wr => ∃ j : Nat, j ≤ 4 ∧ i = .int .i64 (4 - 1 - (j : Int)) ∧ q = .int .i64 ((x / 256 ^ j : Nat) : Int) ∧ Blo wr g 5 (bys (curB 4 x j)).toArray ∧ Kept Nil w wr) (fun _ i _ => (intOf i + 1).toNat)
  case atStart => exact ⟨0, by omega, rfl, by simp, by rw [HG.out]; exact Blo.new w _ _, (Kept.refl Nil w).alloc _⟩
  case round =>
    obtain ⟨j, hj, rfl, rfl, hb, hk⟩ := hrel
    have hq : x / 256 ^ j < 4294967296 := Nat.lt_of_le_of_lt (Nat.div_le_self _ _) hx
    by_cases hlt : j < 4
    · have hst := cur_step 4 x j hlt hb
      have hc := hb.cell (4 - 1 - j)
      have hf := hb.frozen (4 - 1 - j)
      rw [cur_at 4 x j hlt] at hc
      have hi : (4 - 1 - (j : Int)) = ((4 - 1 - j : Nat) : Int) := by omega
      rw [hi] at *
      have hd : x / 256 ^ j / 256 = x / 256 ^ (j + 1) := by rw [Nat.div_div_eq_div_mul, Nat.pow_succ]
      have HD := Lib.hid hd
      have HST := Lib.hid hst
      have HK := Lib.hid hk
      clear hst hd hk hb hi
      generalize x / 256 ^ j = y at *
      generalize hz : 4 - 1 - j = z at *
      have HZ := Lib.hid hz
      have hz4 : z ≤ 4 - 1 := by omega
      have hwy : IntKind.wrap .u8 ((y : Int) % 256) = (y : Int) % 256 := IntWalk.u8_in _ (by omega)
      clear hz
      go_wp2
      go_roundw
      case rel => exact ⟨j + 1, by omega, by have h7 := HZ.out; go_num, by rw [← HD.out]; go_num, HST.out, HK.out.setCell (fun hl => by have := HG.out; simp at hl; omega) _⟩
      case measure => simp [intOf] <;> omega
    · have : j = 4 := by omega
      subst this
      have HB := Lib.hid hb
      have HK := Lib.hid hk
      clear hb hk
      go_wp2
      go_ret
      refine ⟨_, rfl, ?_⟩
      rw [HG.out] at HB
      have hm := made_of (beM_len 4 x) (by omega) (by have := HB.out; rw [cur_full] at this; exact this) HK.out
      rw [← HG.out] at hm
      exact hm
end Go.Proofs.YtflhbidmjlfjkaaDoor
