/- Contracts of strconv.ParseUint at bases 10 and 16, 8 bits, of texts of one or two bytes. -/
import Derived.Test.YtflhbidmjlfjkaaDoorMacA
import Derived.Lib.Strings
import Derived.Lib.Walk
import Derived.Lib.ConvBytes
import Derived.Lib.AtoiErrMem
import Derived.Laws.Strings3
import Derived.BigCall
import Derived.BigGuard
namespace Go.Proofs.YtflhbidmjlfjkaaDoor
open Go.RowKit
set_option linter.unusedVariables false

/-- A digit's value, as strconv reads it: 0 to 9, letters of either kind from 10 on; 255: it is none. -/
def digv (c : UInt8) : Nat := if 48 ≤ c.toNat ∧ c.toNat ≤ 57 then c.toNat - 48 else if 97 ≤ (c ||| 32).toNat ∧ (c ||| 32).toNat ≤ 122 then (c ||| 32).toNat - 87 else 255
def numB (b : Nat) : Nat → List UInt8 → Option Nat
  | acc, [] => some acc
  | acc, c :: l => if digv c < b then numB b (acc * b + digv c) l else none
def puT : Option Nat → Value
  | some n => .tuple #[.int .u64 (n : Int), .nilIface]
  | none => .tuple #[.int .u64 0, .iface 133 (.int .i64 2)]

theorem lower_yes (c l : UInt8) (h : l = c ||| 32) (w : World) :
    Calls Tryd.prog 91 #[.int .u8 (c.toNat : Int)] w fun e w' => e = .returned (.int .u8 (l.toNat : Int)) ∧ w = w' := by
  have hb : bits .or .u8 (c.toNat : Int) 32 = (l.toNat : Int) := by
    have := u8_or_nat c.toNat 32 c.toNat_lt (by omega)
    rw [show ((32 : Nat) : Int) = 32 from rfl] at this
    rw [this, h, UInt8.toNat_or]
    rfl
  have HB := Lib.hid hb
  clear hb h
  go_enter Tryd.func91, Tryd.ntmps91
  go_wp2
  go_ret
  exact ⟨by rw [← HB.out]; rfl, rfl⟩

set_option maxHeartbeats 8000000 in
set_option maxRecDepth 100000 in
theorem pu16 (t : ByteArray) (hne : t.size ≠ 0) (h2 : t.size ≤ 2) (w : World) :
    Calls Tryd.prog 81 #[.string t, .int .i64 16, .int .i64 8] w fun e w' => e = .returned (puT (numB 16 0 t.data.toList)) ∧ Kept Nil w w' := by
  have hemp : t.toList.isEmpty = false := by
    rw [← decide_eq_emptyBytes]
    exact decide_eq_false (fun h => hne (by rw [h]; rfl))
  have hcv := Lib.run_convert_string_bytes (P := Tryd.prog) w 9 25 5 t (u := .string) Tryd.underlying9 Tryd.underlying25 Tryd.underlying5
  have hB : ∀ j, j < t.size → (Lib.bytesWorld w 5 t).cell? ⟨w.heap.size, j, none⟩ = some (.int .u8 (t.data.toList.getD j 0).toNat) := fun j hj => Lib.bytesWorld_cell w 5 t j hj
  have hK : Kept Nil w (Lib.bytesWorld w 5 t) := Kept.of_below (Lib.bytesWorld_below w 5 t)
  have HK := Lib.hid hK
  obtain ⟨W1, hW1⟩ : ∃ W1, W1 = Lib.bytesWorld w 5 t := ⟨_, rfl⟩
  rw [← hW1] at hcv hB HK
  clear hW1 hK
  obtain ⟨bs, hL⟩ : ∃ bs, bs = t.data.toList := ⟨_, rfl⟩
  have hLn : bs.length = t.size := by rw [hL, Lib.size_eq]
  rw [← hL] at hB ⊢
  clear hL
  have hmv : IntKind.u64.wrap (IntKind.u64.wrap 256 - 1) = 255 := by
    rw [IntKind.wrap_u64, IntKind.wrap_u64]
    decide
  go_enter Tryd.func81, Tryd.ntmps81
  go_wp2
  go_loop [12, 13, 101] (fun vu vn vi => ∃ (k acc : Nat) (a : Int), vu = .bool false ∧ vn = .int .u64 a ∧ vi = .int .i64 k ∧ k ≤ t.size ∧ Hid (a = (acc : Int) ∧ (k ≤ 1 → acc ≤ 15) ∧ (k = 0 → acc = 0) ∧ acc ≤ 255 ∧ numB 16 0 bs = numB 16 acc (bs.drop k)))
    (fun _ _ vi => t.size - (intOf vi).toNat)
  case atStart => exact ⟨0, 0, 0, rfl, rfl, rfl, by omega, rfl, by omega, fun _ => rfl, by omega, rfl⟩
  case round =>
    obtain ⟨k, acc, a, rfl, rfl, rfl, hk, hh⟩ := hrel
    obtain ⟨ha, hacc1, hacc0, hacc, hdec⟩ := hh.out
    clear hh
    by_cases hkn : k < t.size
    · have hc := hB k hkn
      have hdrop : bs.drop k = bs[k]'(by omega) :: bs.drop (k + 1) := List.drop_eq_getElem_cons (by omega)
      have hget : bs.getD k 0 = bs[k]'(by omega) := by simp [List.getD, List.getElem?_eq_getElem (show k < bs.length by omega)]
      rw [hdrop] at hdec
      rw [hget] at hc
      generalize bs[k]'(by omega) = c at hc hdec
      have hc256 : c.toNat < 256 := c.toNat_lt
      clear hB hdrop hget
      have a0 : 0 ≤ a := by omega
      have a1 : a ≤ 15 := by have := hacc1 (by omega); omega
      have HACC : Hid (acc ≤ 15 ∧ (k = 0 → acc = 0)) := ⟨hacc1 (by omega), hacc0⟩
      obtain ⟨l, hl⟩ : ∃ l : UInt8, l = c ||| 32 := ⟨_, rfl⟩
      have hl256 := l.toNat_lt
      have HLO := Lib.hid (lower_yes c l hl)
      have HL := Lib.hid hl
      have HA := Lib.hid ha
      clear hacc1 hacc0 hacc ha hl
      have hdv : digv c = if 48 ≤ c.toNat ∧ c.toNat ≤ 57 then c.toNat - 48 else if 97 ≤ l.toNat ∧ l.toNat ≤ 122 then l.toNat - 87 else 255 := by rw [HL.out]; rfl
      have HDEC := Lib.hid hdec
      have HDV := Lib.hid hdv
      clear hdec hdv
      by_cases hdig : 48 ≤ c.toNat ∧ c.toNat ≤ 57
      · obtain ⟨hd0, hd1⟩ := hdig
        have hF : numB 16 acc (c :: bs.drop (k + 1)) = numB 16 (acc * 16 + (c.toNat - 48)) (bs.drop (k + 1)) := by
          have h := HDV.out
          rw [if_pos ⟨hd0, hd1⟩] at h
          rw [numB, h, if_pos (by omega)]
        have HN : Hid (a * 16 + ((c.toNat : Int) - 48) = ((acc * 16 + (c.toNat - 48) : Nat) : Int) ∧ (k + 1 ≤ 1 → acc * 16 + (c.toNat - 48) ≤ 15) ∧ (k + 1 = 0 → acc * 16 + (c.toNat - 48) = 0) ∧ acc * 16 + (c.toNat - 48) ≤ 255 ∧ numB 16 0 bs = numB 16 (acc * 16 + (c.toNat - 48)) (bs.drop (k + 1))) := by
          obtain ⟨h1, h2⟩ := HACC.out
          have h3 := HA.out
          exact ⟨by omega, fun hk1 => by have := h2 (by omega); omega, by omega, by omega, HDEC.out.trans hF⟩
        clear hF
        have h95 : ((c.toNat : Int) == 95) = false := by rw [beq_eq_false_iff_ne]; omega
        go_wp2
        refine ⟨⟨k + 1, acc * 16 + (c.toNat - 48), a * 16 + ((c.toNat : Int) - 48), rfl, (by first | rfl | (congr 1; omega)), (by first | rfl | (congr 1; omega)), by omega, HN⟩, by simp [intOf]; omega⟩
      · by_cases hlet : 97 ≤ l.toNat ∧ l.toNat ≤ 122
        · obtain ⟨hl0, hl1⟩ := hlet
          have h95 : ((c.toNat : Int) == 95) = false := by
            rw [beq_eq_false_iff_ne]
            intro h
            have hc9 : c = 95 := UInt8.toNat_inj.1 (show c.toNat = 95 by omega)
            have hll := HL.out
            rw [hc9] at hll
            have : l.toNat = 127 := by rw [hll]; rfl
            omega
          by_cases hv : l.toNat - 87 < 16
          · first
            | (exfalso; omega)
            | (skip
               have hF : numB 16 acc (c :: bs.drop (k + 1)) = numB 16 (acc * 16 + (l.toNat - 87)) (bs.drop (k + 1)) := by
                 have h := HDV.out
                 rw [if_neg hdig, if_pos ⟨hl0, hl1⟩] at h
                 rw [numB, h, if_pos (by omega)]
               have HN : Hid (a * 16 + ((l.toNat : Int) - 97 + 10) = ((acc * 16 + (l.toNat - 87) : Nat) : Int) ∧ (k + 1 ≤ 1 → acc * 16 + (l.toNat - 87) ≤ 15) ∧ (k + 1 = 0 → acc * 16 + (l.toNat - 87) = 0) ∧ acc * 16 + (l.toNat - 87) ≤ 255 ∧ numB 16 0 bs = numB 16 (acc * 16 + (l.toNat - 87)) (bs.drop (k + 1))) := by
                 obtain ⟨h1, h2⟩ := HACC.out
                 have h3 := HA.out
                 exact ⟨by omega, fun hk1 => by have := h2 (by omega); omega, by omega, by omega, HDEC.out.trans hF⟩
               clear hF
               go_wp2_with (go_at_call 91; refine (HLO.out _).mono ?_; rintro e w' ⟨rfl, rfl⟩)
               all_goals refine ⟨⟨k + 1, acc * 16 + (l.toNat - 87), a * 16 + ((l.toNat : Int) - 97 + 10), rfl, (by first | rfl | (congr 1; omega)), (by first | rfl | (congr 1; omega)), by omega, HN⟩, by simp [intOf]; omega⟩)
          · have hF : numB 16 acc (c :: bs.drop (k + 1)) = none := by
              have h := HDV.out
              rw [if_neg hdig, if_pos ⟨hl0, hl1⟩] at h
              rw [numB, h, if_neg (by omega)]
            have HF := Lib.hid (HDEC.out.trans hF)
            clear hF
            go_wp2_with (go_at_call 91; refine (HLO.out _).mono ?_; rintro e w' ⟨rfl, rfl⟩)
            all_goals go_ret2
            all_goals exact ⟨by rw [HF.out]; rfl, HK.out⟩
        · have hF : numB 16 acc (c :: bs.drop (k + 1)) = none := by
            have h := HDV.out
            rw [if_neg hdig, if_neg hlet] at h
            rw [numB, h, if_neg (by omega)]
          have HF := Lib.hid (HDEC.out.trans hF)
          clear hF
          by_cases h95 : c = 95
          · subst h95
            have hlo := lower_yes 95 127 (by decide)
            have hlo2 : ∀ w, Calls Tryd.prog 91 #[.int .u8 95] w fun e w' => e = .returned (.int .u8 127) ∧ w = w' := hlo
            have HLO2 := Lib.hid hlo2
            clear hlo hlo2
            have hc2 : W1.cell? ⟨w.heap.size, k, none⟩ = some (.int .u8 95) := hc
            clear hc
            go_wp2_with (go_at_call 91; refine (HLO2.out _).mono ?_; rintro e w' ⟨rfl, rfl⟩)
            all_goals go_ret2
            all_goals exact ⟨by rw [HF.out]; rfl, HK.out⟩
          · have h95' : ((c.toNat : Int) == 95) = false := by
              rw [beq_eq_false_iff_ne]
              intro h
              exact h95 (UInt8.toNat_inj.1 (show c.toNat = 95 by omega))
            clear h95
            go_wp2_with (go_at_call 91; refine (HLO.out _).mono ?_; rintro e w' ⟨rfl, rfl⟩)
            all_goals go_ret2
            all_goals exact ⟨by rw [HF.out]; rfl, HK.out⟩
    · -- the bytes are at an end
      have hkk : k = t.size := by omega
      subst hkk
      have hF : numB 16 acc (bs.drop t.size) = some acc := by rw [List.drop_eq_nil_of_le (by omega)]; rfl
      rw [hF] at hdec
      subst ha
      have HF := Lib.hid hdec
      clear hacc hF hacc1 hacc0 hdec hB
      go_wp2
      go_ret2
      exact ⟨by rw [HF.out]; rfl, HK.out⟩
set_option maxHeartbeats 8000000 in
set_option maxRecDepth 100000 in
theorem pu10 (t : ByteArray) (hne : t.size ≠ 0) (h2 : t.size ≤ 2) (w : World) :
    Calls Tryd.prog 81 #[.string t, .int .i64 10, .int .i64 8] w fun e w' => e = .returned (puT (numB 10 0 t.data.toList)) ∧ Kept Nil w w' := by
  have hemp : t.toList.isEmpty = false := by
    rw [← decide_eq_emptyBytes]
    exact decide_eq_false (fun h => hne (by rw [h]; rfl))
  have hcv := Lib.run_convert_string_bytes (P := Tryd.prog) w 9 25 5 t (u := .string) Tryd.underlying9 Tryd.underlying25 Tryd.underlying5
  have hB : ∀ j, j < t.size → (Lib.bytesWorld w 5 t).cell? ⟨w.heap.size, j, none⟩ = some (.int .u8 (t.data.toList.getD j 0).toNat) := fun j hj => Lib.bytesWorld_cell w 5 t j hj
  have hK : Kept Nil w (Lib.bytesWorld w 5 t) := Kept.of_below (Lib.bytesWorld_below w 5 t)
  have HK := Lib.hid hK
  obtain ⟨W1, hW1⟩ : ∃ W1, W1 = Lib.bytesWorld w 5 t := ⟨_, rfl⟩
  rw [← hW1] at hcv hB HK
  clear hW1 hK
  obtain ⟨bs, hL⟩ : ∃ bs, bs = t.data.toList := ⟨_, rfl⟩
  have hLn : bs.length = t.size := by rw [hL, Lib.size_eq]
  rw [← hL] at hB ⊢
  clear hL
  have hmv : IntKind.u64.wrap (IntKind.u64.wrap 256 - 1) = 255 := by
    rw [IntKind.wrap_u64, IntKind.wrap_u64]
    decide
  go_enter Tryd.func81, Tryd.ntmps81
  go_wp2
  go_loop [12, 13, 101] (fun vu vn vi => ∃ (k acc : Nat) (a : Int), vu = .bool false ∧ vn = .int .u64 a ∧ vi = .int .i64 k ∧ k ≤ t.size ∧ Hid (a = (acc : Int) ∧ (k ≤ 1 → acc ≤ 9) ∧ (k = 0 → acc = 0) ∧ acc ≤ 255 ∧ numB 10 0 bs = numB 10 acc (bs.drop k)))
    (fun _ _ vi => t.size - (intOf vi).toNat)
  case atStart => exact ⟨0, 0, 0, rfl, rfl, rfl, by omega, rfl, by omega, fun _ => rfl, by omega, rfl⟩
  case round =>
    obtain ⟨k, acc, a, rfl, rfl, rfl, hk, hh⟩ := hrel
    obtain ⟨ha, hacc1, hacc0, hacc, hdec⟩ := hh.out
    clear hh
    by_cases hkn : k < t.size
    · have hc := hB k hkn
      have hdrop : bs.drop k = bs[k]'(by omega) :: bs.drop (k + 1) := List.drop_eq_getElem_cons (by omega)
      have hget : bs.getD k 0 = bs[k]'(by omega) := by simp [List.getD, List.getElem?_eq_getElem (show k < bs.length by omega)]
      rw [hdrop] at hdec
      rw [hget] at hc
      generalize bs[k]'(by omega) = c at hc hdec
      have hc256 : c.toNat < 256 := c.toNat_lt
      clear hB hdrop hget
      have a0 : 0 ≤ a := by omega
      have a1 : a ≤ 9 := by have := hacc1 (by omega); omega
      have HACC : Hid (acc ≤ 9 ∧ (k = 0 → acc = 0)) := ⟨hacc1 (by omega), hacc0⟩
      obtain ⟨l, hl⟩ : ∃ l : UInt8, l = c ||| 32 := ⟨_, rfl⟩
      have hl256 := l.toNat_lt
      have HLO := Lib.hid (lower_yes c l hl)
      have HL := Lib.hid hl
      have HA := Lib.hid ha
      clear hacc1 hacc0 hacc ha hl
      have hdv : digv c = if 48 ≤ c.toNat ∧ c.toNat ≤ 57 then c.toNat - 48 else if 97 ≤ l.toNat ∧ l.toNat ≤ 122 then l.toNat - 87 else 255 := by rw [HL.out]; rfl
      have HDEC := Lib.hid hdec
      have HDV := Lib.hid hdv
      clear hdec hdv
      by_cases hdig : 48 ≤ c.toNat ∧ c.toNat ≤ 57
      · obtain ⟨hd0, hd1⟩ := hdig
        have hF : numB 10 acc (c :: bs.drop (k + 1)) = numB 10 (acc * 10 + (c.toNat - 48)) (bs.drop (k + 1)) := by
          have h := HDV.out
          rw [if_pos ⟨hd0, hd1⟩] at h
          rw [numB, h, if_pos (by omega)]
        have HN : Hid (a * 10 + ((c.toNat : Int) - 48) = ((acc * 10 + (c.toNat - 48) : Nat) : Int) ∧ (k + 1 ≤ 1 → acc * 10 + (c.toNat - 48) ≤ 9) ∧ (k + 1 = 0 → acc * 10 + (c.toNat - 48) = 0) ∧ acc * 10 + (c.toNat - 48) ≤ 255 ∧ numB 10 0 bs = numB 10 (acc * 10 + (c.toNat - 48)) (bs.drop (k + 1))) := by
          obtain ⟨h1, h2⟩ := HACC.out
          have h3 := HA.out
          exact ⟨by omega, fun hk1 => by have := h2 (by omega); omega, by omega, by omega, HDEC.out.trans hF⟩
        clear hF
        have h95 : ((c.toNat : Int) == 95) = false := by rw [beq_eq_false_iff_ne]; omega
        go_wp2
        refine ⟨⟨k + 1, acc * 10 + (c.toNat - 48), a * 10 + ((c.toNat : Int) - 48), rfl, (by first | rfl | (congr 1; omega)), (by first | rfl | (congr 1; omega)), by omega, HN⟩, by simp [intOf]; omega⟩
      · by_cases hlet : 97 ≤ l.toNat ∧ l.toNat ≤ 122
        · obtain ⟨hl0, hl1⟩ := hlet
          have h95 : ((c.toNat : Int) == 95) = false := by
            rw [beq_eq_false_iff_ne]
            intro h
            have hc9 : c = 95 := UInt8.toNat_inj.1 (show c.toNat = 95 by omega)
            have hll := HL.out
            rw [hc9] at hll
            have : l.toNat = 127 := by rw [hll]; rfl
            omega
          by_cases hv : l.toNat - 87 < 10
          · first
            | (exfalso; omega)
            | (skip
               have hF : numB 10 acc (c :: bs.drop (k + 1)) = numB 10 (acc * 10 + (l.toNat - 87)) (bs.drop (k + 1)) := by
                 have h := HDV.out
                 rw [if_neg hdig, if_pos ⟨hl0, hl1⟩] at h
                 rw [numB, h, if_pos (by omega)]
               have HN : Hid (a * 10 + ((l.toNat : Int) - 97 + 10) = ((acc * 10 + (l.toNat - 87) : Nat) : Int) ∧ (k + 1 ≤ 1 → acc * 10 + (l.toNat - 87) ≤ 9) ∧ (k + 1 = 0 → acc * 10 + (l.toNat - 87) = 0) ∧ acc * 10 + (l.toNat - 87) ≤ 255 ∧ numB 10 0 bs = numB 10 (acc * 10 + (l.toNat - 87)) (bs.drop (k + 1))) := by
                 obtain ⟨h1, h2⟩ := HACC.out
                 have h3 := HA.out
                 exact ⟨by omega, fun hk1 => by have := h2 (by omega); omega, by omega, by omega, HDEC.out.trans hF⟩
               clear hF
               go_wp2_with (go_at_call 91; refine (HLO.out _).mono ?_; rintro e w' ⟨rfl, rfl⟩)
               all_goals refine ⟨⟨k + 1, acc * 10 + (l.toNat - 87), a * 10 + ((l.toNat : Int) - 97 + 10), rfl, (by first | rfl | (congr 1; omega)), (by first | rfl | (congr 1; omega)), by omega, HN⟩, by simp [intOf]; omega⟩)
          · have hF : numB 10 acc (c :: bs.drop (k + 1)) = none := by
              have h := HDV.out
              rw [if_neg hdig, if_pos ⟨hl0, hl1⟩] at h
              rw [numB, h, if_neg (by omega)]
            have HF := Lib.hid (HDEC.out.trans hF)
            clear hF
            go_wp2_with (go_at_call 91; refine (HLO.out _).mono ?_; rintro e w' ⟨rfl, rfl⟩)
            all_goals go_ret2
            all_goals exact ⟨by rw [HF.out]; rfl, HK.out⟩
        · have hF : numB 10 acc (c :: bs.drop (k + 1)) = none := by
            have h := HDV.out
            rw [if_neg hdig, if_neg hlet] at h
            rw [numB, h, if_neg (by omega)]
          have HF := Lib.hid (HDEC.out.trans hF)
          clear hF
          by_cases h95 : c = 95
          · subst h95
            have hlo := lower_yes 95 127 (by decide)
            have hlo2 : ∀ w, Calls Tryd.prog 91 #[.int .u8 95] w fun e w' => e = .returned (.int .u8 127) ∧ w = w' := hlo
            have HLO2 := Lib.hid hlo2
            clear hlo hlo2
            have hc2 : W1.cell? ⟨w.heap.size, k, none⟩ = some (.int .u8 95) := hc
            clear hc
            go_wp2_with (go_at_call 91; refine (HLO2.out _).mono ?_; rintro e w' ⟨rfl, rfl⟩)
            all_goals go_ret2
            all_goals exact ⟨by rw [HF.out]; rfl, HK.out⟩
          · have h95' : ((c.toNat : Int) == 95) = false := by
              rw [beq_eq_false_iff_ne]
              intro h
              exact h95 (UInt8.toNat_inj.1 (show c.toNat = 95 by omega))
            clear h95
            go_wp2_with (go_at_call 91; refine (HLO.out _).mono ?_; rintro e w' ⟨rfl, rfl⟩)
            all_goals go_ret2
            all_goals exact ⟨by rw [HF.out]; rfl, HK.out⟩
    · -- the bytes are at an end
      have hkk : k = t.size := by omega
      subst hkk
      have hF : numB 10 acc (bs.drop t.size) = some acc := by rw [List.drop_eq_nil_of_le (by omega)]; rfl
      rw [hF] at hdec
      subst ha
      have HF := Lib.hid hdec
      clear hacc hF hacc1 hacc0 hdec hB
      go_wp2
      go_ret2
      exact ⟨by rw [HF.out]; rfl, HK.out⟩
end Go.Proofs.YtflhbidmjlfjkaaDoor
