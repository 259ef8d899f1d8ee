/- tollref07: contracts of Right, Seal. -/
import Derived.Test.YthjbabkmjmfmjaaDoorMg28
namespace Go.Proofs.YthjbabkmjmfmjaaDoor
open Go.RowKit Go.Sort
set_option linter.unusedVariables false

theorem two_zero (l : List UInt8) (h : 8 ≤ l.length) : (l.getD 6 0 == 0 && l.getD 7 0 == 0) = decide (numM ((l.drop 6).take 2) = 0) := by
  rw [two_at l 6 (by omega), List.getD_eq_getElem?_getD, List.getD_eq_getElem?_getD, List.getElem?_eq_getElem (by omega), List.getElem?_eq_getElem (by omega)]
  simp only [Option.getD_some]
  generalize l[6] = a
  generalize l[6 + 1] = b
  have ha : (a = 0) ↔ a.toNat = 0 := ⟨fun h => by rw [h]; rfl, fun h => UInt8.toNat_inj.1 h⟩
  have hb : (b = 0) ↔ b.toNat = 0 := ⟨fun h => by rw [h]; rfl, fun h => UInt8.toNat_inj.1 h⟩
  have hn : numM [a, b] = a.toNat * 256 + b.toNat := by simp [numM]
  rw [Bool.eq_iff_iff]
  simp only [Bool.and_eq_true, beq_iff_eq, decide_eq_true_eq, hn, ha, hb]
  omega
set_option maxRecDepth 100000 in
set_option maxHeartbeats 4000000 in
theorem qright_yes (s d p : Nat) (hs : s < 4294967296) (hd : d < 4294967296) (hp : p < 256) (A : Option Addr) (n c : Nat) (l : List UInt8) (w : World) (h : Byt w A n c l) (hn : n ≤ 1099511627776) :
    Calls Tryd.prog 24 #[.int .u32 (s : Int), .int .u32 (d : Int), .int .i64 (p : Int), .slice A n c] w fun e w' => e = .returned (.bool (rightM s d p l)) ∧ Kept Nil w w' := by
  have hl := h.1
  have HB := Lib.hid h
  have HL := Lib.hid hl
  by_cases hb : n ≤ 65535
  · have hb' : ¬ (65535 : Int) < (n : Int) := by omega
    have HR := Lib.hid (show rightM s d p l = (nosM p l || (accM (allB s d p l) == 65535)) by unfold rightM; rw [decide_eq_true (by omega), Bool.true_and])
    have HA := Lib.hid (fun u hu => qall_yes s d p hs hd hp A n c l u hu hb)
    have hal : (allB s d p l).length = 12 + n := by unfold allB; rw [List.length_append, pseu_len, hl]
    have HAL := Lib.hid hal
    have key : (nosM p l = true ∧ p = 17 ∧ 8 ≤ n ∧ numM ((l.drop 6).take 2) = 0) ∨ (nosM p l = false ∧ (p ≠ 17 ∨ (p = 17 ∧ n < 8) ∨ (p = 17 ∧ 8 ≤ n ∧ numM ((l.drop 6).take 2) ≠ 0))) := by
      by_cases h17 : p = 17
      · by_cases h8 : 8 ≤ n
        · by_cases h0 : numM ((l.drop 6).take 2) = 0
          · exact .inl ⟨by unfold nosM; rw [two_zero l (by omega), decide_eq_true h17, decide_eq_true (by omega), decide_eq_true h0]; rfl, h17, h8, h0⟩
          · exact .inr ⟨by unfold nosM; rw [two_zero l (by omega), decide_eq_false h0]; simp, .inr (.inr ⟨h17, h8, h0⟩)⟩
        · exact .inr ⟨by unfold nosM; rw [decide_eq_false (show ¬ 8 ≤ l.length by omega)]; simp, .inr (.inl ⟨h17, by omega⟩)⟩
      · exact .inr ⟨by unfold nosM; rw [decide_eq_false h17]; rfl, .inl h17⟩
    have CT := Lib.hid (fun (h8 : 8 ≤ n) u hu => qtwo_yes A n c l 6 u hu (by omega) (by omega))
    obtain ⟨x, hx⟩ : ∃ x, numM ((l.drop 6).take 2) = x := ⟨_, rfl⟩
    rw [hx] at key CT
    obtain ⟨AB, hAB⟩ : ∃ B, allB s d p l = B := ⟨_, rfl⟩
    rw [hAB] at HA HAL HR
    clear h hl hx hb hal hAB
    rcases key with ⟨hnos, h17, h8, h0⟩ | ⟨hnos, key⟩
    · subst h17 h0
      have HRR := Lib.hid (show rightM s d 17 l = true by rw [HR.out, hnos]; rfl)
      have b1 : (((17 : Nat) : Int) == 17) = true := rfl
      have b2 : (8 : Int) ≤ (n : Int) := by omega
      have b3 : (((0 : Nat) : Int) == 0) = true := rfl
      clear hnos HR
      go_enter Tryd.func24, Tryd.ntmps24
      go_wp2_with (fail)
      refine (CT.out h8 _ HB.out).mono ?_
      rintro e w1 ⟨rfl, hk1⟩
      have HK1 := Lib.hid hk1
      clear hk1
      go_wp2_with (fail)
      go_ret
      exact ⟨by rw [HRR.out]; rfl, HK1.out⟩
    · have HRR := Lib.hid (show rightM s d p l = (accM AB == 65535) by rw [HR.out, hnos]; rfl)
      have HE := Lib.hid (show ((accM AB : Int) == 65535) = (accM AB == 65535) by rw [Bool.eq_iff_iff]; simp only [beq_iff_eq]; omega)
      obtain ⟨M, hM⟩ : ∃ M, accM AB = M := ⟨_, rfl⟩
      rw [hM] at HRR HE
      have HW := Lib.hid (fun A n c u hu hn => qwords_yes A n c AB u hu hn)
      rw [hM] at HW
      clear hnos HR hM
      rcases key with h17 | ⟨h17, h8⟩ | ⟨h17, h8, h0⟩
      · have b1 : ((p : Int) == 17) = false := by simp; omega
        go_enter Tryd.func24, Tryd.ntmps24
        go_wp2_with (fail)
        refine (HA.out _ HB.out).mono ?_
        rintro e w1 ⟨v, rfl, hm⟩
        obtain ⟨A1, c1, rfl, hb1, -⟩ := Byt.of_own hm.1
        have HB1 := Lib.hid hb1
        have HK1 := Lib.hid hm.2
        clear hm hb1
        go_wp2_with (fail)
        refine (HW.out A1 _ c1 _ HB1.out (by rw [HAL.out]; omega)).mono ?_
        rintro e w2 ⟨rfl, rfl⟩
        go_wp2_with (fail)
        go_ret
        exact ⟨by rw [HRR.out, ← HE.out]; rfl, HK1.out⟩
      · subst h17
        have b1 : (((17 : Nat) : Int) == 17) = true := rfl
        have b2 : ¬ (8 : Int) ≤ (n : Int) := by omega
        go_enter Tryd.func24, Tryd.ntmps24
        go_wp2_with (fail)
        refine (HA.out _ HB.out).mono ?_
        rintro e w1 ⟨v, rfl, hm⟩
        obtain ⟨A1, c1, rfl, hb1, -⟩ := Byt.of_own hm.1
        have HB1 := Lib.hid hb1
        have HK1 := Lib.hid hm.2
        clear hm hb1
        go_wp2_with (fail)
        refine (HW.out A1 _ c1 _ HB1.out (by rw [HAL.out]; omega)).mono ?_
        rintro e w2 ⟨rfl, rfl⟩
        go_wp2_with (fail)
        go_ret
        exact ⟨by rw [HRR.out, ← HE.out]; rfl, HK1.out⟩
      · subst h17
        have b1 : (((17 : Nat) : Int) == 17) = true := rfl
        have b2 : (8 : Int) ≤ (n : Int) := by omega
        have b3 : ((x : Int) == 0) = false := by simp; omega
        go_enter Tryd.func24, Tryd.ntmps24
        go_wp2_with (fail)
        refine (CT.out h8 _ HB.out).mono ?_
        rintro e w0 ⟨rfl, hk0⟩
        have HK0 := Lib.hid hk0
        have HB0 := Lib.hid (HB.out.kept hk0 (fun _ _ hf => hf))
        clear hk0
        go_wp2_with (fail)
        refine (HA.out _ HB0.out).mono ?_
        rintro e w1 ⟨v, rfl, hm⟩
        obtain ⟨A1, c1, rfl, hb1, -⟩ := Byt.of_own hm.1
        have HB1 := Lib.hid hb1
        have HK1 := Lib.hid (HK0.out.then hm.2)
        clear hm hb1
        go_wp2_with (fail)
        refine (HW.out A1 _ c1 _ HB1.out (by rw [HAL.out]; omega)).mono ?_
        rintro e w2 ⟨rfl, rfl⟩
        go_wp2_with (fail)
        go_ret
        exact ⟨by rw [HRR.out, ← HE.out]; rfl, HK1.out⟩
  · have hb' : (65535 : Int) < (n : Int) := by omega
    have HR := Lib.hid (show rightM s d p l = false by unfold rightM; rw [decide_eq_false (by omega), Bool.false_and])
    clear h hl hb
    go_enter Tryd.func24, Tryd.ntmps24
    go_wp2_with (fail)
    go_ret
    exact ⟨by rw [HR.out]; rfl, Kept.refl _ _⟩
end Go.Proofs.YthjbabkmjmfmjaaDoor
