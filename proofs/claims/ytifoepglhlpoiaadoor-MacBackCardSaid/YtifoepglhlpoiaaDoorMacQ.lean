/- Contract of mac.Parse, of any text. -/
import Derived.Test.YtifoepglhlpoiaaDoorMacQM
namespace Go.Proofs.YtifoepglhlpoiaaDoor
open Go.RowKit
set_option linter.unusedVariables false

set_option maxHeartbeats 8000000 in
set_option maxRecDepth 100000 in
theorem Parse_any (s : ByteArray) (hm : s.size ≤ 1000) (w : World) (hS : Syn w) :
    Calls Tryd.prog 27 #[.string s] w fun e w' => e = .returned (puP (prs s.data.toList)) ∧ Kept Nil w w' := by
  by_cases hs : s.size = 17
  · have hL : s.data.toList.length = 17 := by rw [← hs, Lib.size_eq]
    have HL := Lib.hid hL
    have E0 := Lib.hid (show (s.extract 0 2).size ≠ 0 ∧ (s.extract 0 2).size ≤ 2 ∧ (s.extract 0 2).data.toList = (s.data.toList.drop (3 * 0)).take 2 from ⟨(ext_ok s 0 hs (by omega)).1, (ext_ok s 0 hs (by omega)).2, by first | (rw [Lib.extract_data]; rfl) | rw [Lib.extract_data]⟩)
    have E1 := Lib.hid (show (s.extract 3 5).size ≠ 0 ∧ (s.extract 3 5).size ≤ 2 ∧ (s.extract 3 5).data.toList = (s.data.toList.drop (3 * 1)).take 2 from ⟨(ext_ok s 3 hs (by omega)).1, (ext_ok s 3 hs (by omega)).2, by first | (rw [Lib.extract_data]; rfl) | rw [Lib.extract_data]⟩)
    have J1 := Lib.hid (fun w => idxS s 2 _ (getD_some s.data.toList 2 (by omega)) w)
    have E2 := Lib.hid (show (s.extract 6 8).size ≠ 0 ∧ (s.extract 6 8).size ≤ 2 ∧ (s.extract 6 8).data.toList = (s.data.toList.drop (3 * 2)).take 2 from ⟨(ext_ok s 6 hs (by omega)).1, (ext_ok s 6 hs (by omega)).2, by first | (rw [Lib.extract_data]; rfl) | rw [Lib.extract_data]⟩)
    have J2 := Lib.hid (fun w => idxS s 5 _ (getD_some s.data.toList 5 (by omega)) w)
    have E3 := Lib.hid (show (s.extract 9 11).size ≠ 0 ∧ (s.extract 9 11).size ≤ 2 ∧ (s.extract 9 11).data.toList = (s.data.toList.drop (3 * 3)).take 2 from ⟨(ext_ok s 9 hs (by omega)).1, (ext_ok s 9 hs (by omega)).2, by first | (rw [Lib.extract_data]; rfl) | rw [Lib.extract_data]⟩)
    have J3 := Lib.hid (fun w => idxS s 8 _ (getD_some s.data.toList 8 (by omega)) w)
    have E4 := Lib.hid (show (s.extract 12 14).size ≠ 0 ∧ (s.extract 12 14).size ≤ 2 ∧ (s.extract 12 14).data.toList = (s.data.toList.drop (3 * 4)).take 2 from ⟨(ext_ok s 12 hs (by omega)).1, (ext_ok s 12 hs (by omega)).2, by first | (rw [Lib.extract_data]; rfl) | rw [Lib.extract_data]⟩)
    have J4 := Lib.hid (fun w => idxS s 11 _ (getD_some s.data.toList 11 (by omega)) w)
    have E5 := Lib.hid (show (s.extract 15 17).size ≠ 0 ∧ (s.extract 15 17).size ≤ 2 ∧ (s.extract 15 17).data.toList = (s.data.toList.drop (3 * 5)).take 2 from ⟨(ext_ok s 15 hs (by omega)).1, (ext_ok s 15 hs (by omega)).2, by first | (rw [Lib.extract_data]; rfl) | rw [Lib.extract_data]⟩)
    have J5 := Lib.hid (fun w => idxS s 14 _ (getD_some s.data.toList 14 (by omega)) w)
    have hz0 := (Blo.new w 24 #[.int .u8 0, .int .u8 0, .int .u8 0, .int .u8 0, .int .u8 0, .int .u8 0]).alloc (.cells #[.int .u8 0, .int .u8 0, .int .u8 0, .int .u8 0, .int .u8 0, .int .u8 0] 24)
    have hz1 := Blo.new (w.alloc (.cells #[.int .u8 0, .int .u8 0, .int .u8 0, .int .u8 0, .int .u8 0, .int .u8 0] 24)) 24 #[.int .u8 0, .int .u8 0, .int .u8 0, .int .u8 0, .int .u8 0, .int .u8 0]
    rw [World.size_alloc] at hz1
    have HZ0 := Lib.hid hz0
    have HZ1 := Lib.hid hz1
    have HS := Lib.hid hS
    clear hz0 hz1 hL hS
    obtain ⟨l, hl⟩ : ∃ l, l = s.data.toList := ⟨_, rfl⟩
    have HLL := Lib.hid hl
    rw [← hl]
    clear hl
    go_enter Tryd.func27, Tryd.ntmps27
    go_wp2
    go_loopw [13] (fun i wr => ∃ (k : Nat) (bs : List UInt8), k ≤ 6 ∧ i = .int .i64 k ∧ Hid (pfx s.data.toList k = some bs) ∧ Hid (Blo wr w.heap.size 24 #[.int .u8 0, .int .u8 0, .int .u8 0, .int .u8 0, .int .u8 0, .int .u8 0]) ∧ Hid (Blo wr (w.heap.size + 1) 24 (bys (bs ++ List.replicate (6 - k) 0)).toArray) ∧ Hid (Kept Nil w wr)) (fun i _ => 6 - (intOf i).toNat)
    case atStart => exact ⟨0, [], Nat.zero_le _, rfl, rfl, HZ0.out, HZ1.out, ((Kept.refl Nil w).alloc _).alloc _⟩
    case round =>
      obtain ⟨k, bs, hk, rfl, HPF, HB0, HB1, HK⟩ := hrel
      by_cases hlt : k < 6
      · rcases (show k = 0 ∨ k = 1 ∨ k = 2 ∨ k = 3 ∨ k = 4 ∨ k = 5 by omega) with rfl | rfl | rfl | rfl | rfl | rfl
        · rcases hnum : numB 16 0 ((s.data.toList.drop (3 * 0)).take 2) with _ | n
          · have hpu := fun w hS => puf16 (s.extract 0 2) E0.out.1 E0.out.2.1 (by rw [E0.out.2.2]; exact hnum) w hS
            have HPU := Lib.hid hpu
            have hdead := prs_dead s.data.toList 0 (by omega) (by unfold pst; rw [if_neg (by omega), hnum]; rfl)
            have HDEAD := Lib.hid (show prs l = none by rw [HLL.out]; exact hdead)
            clear hdead hpu hnum
            go_wp2_with fail
            refine (HPU.out _ (HS.out.kept HK.out)).mono ?_
            rintro e w1 ⟨N, rfl, hk1⟩
            have HB0' := Lib.hid (HB0.out.kept hk1 (fun hf => hf))
            have HK' := Lib.hid (HK.out.then hk1)
            clear hk1
            have y0 := HB0'.out.cell 0
            have z0 := HB0'.out.frozen 0
            have y1 := HB0'.out.cell 1
            have z1 := HB0'.out.frozen 1
            have y2 := HB0'.out.cell 2
            have z2 := HB0'.out.frozen 2
            have y3 := HB0'.out.cell 3
            have z3 := HB0'.out.frozen 3
            have y4 := HB0'.out.cell 4
            have z4 := HB0'.out.frozen 4
            have y5 := HB0'.out.cell 5
            have z5 := HB0'.out.frozen 5
            simp at y0 y1 y2 y3 y4 y5
            go_wp2
            refine bodyPost_ret (v := .tuple #[.agg #[.int .u8 0, .int .u8 0, .int .u8 0, .int .u8 0, .int .u8 0, .int .u8 0], .int .i64 5]) (by simp [results, Tryd.results27, go_sem, y0, y1, y2, y3, y4, y5]) rfl ⟨by rw [HDEAD.out]; rfl, ?_⟩
            exact HK'.out.fresh (((((((Kept.refl (fun i => w.heap.size ≤ i) w1).put (Nat.le_refl _) _).put (Nat.le_refl _) _).put (Nat.le_refl _) _).put (Nat.le_refl _) _).put (Nat.le_refl _) _).put (Nat.le_refl _) _) (fun i hi => hi)
          · have hn := num16_byte _ (by rw [List.length_take]; omega) n hnum
            obtain ⟨b, hb⟩ : ∃ b : UInt8, n = b.toNat := ⟨_, byte_of n hn⟩
            subst hb
            have hpst : pst s.data.toList 0 = some b := by unfold pst; rw [if_neg (by omega), hnum]; simp
            have HPF' := Lib.hid (pfx_more _ _ _ _ HPF.out hpst)
            have hpu := fun w => pub16 (s.extract 0 2) E0.out.1 E0.out.2.1 b.toNat (by rw [E0.out.2.2]; exact hnum) w
            have HPU := Lib.hid hpu
            have hlen := pfx_len _ _ _ HPF.out
            have hat := bys_at bs 0 hlen (by omega)
            have hput := bys_put bs b 0 hlen (by omega)
            have HPT := Lib.hid hput
            have HAT := Lib.hid hat
            clear hpu hnum hpst hn hlen hat hput
            go_wp2_with fail
            refine (HPU.out _).mono ?_
            rintro e w1 ⟨rfl, hk1⟩
            have hb0 := HB0.out.kept hk1 (fun hf => hf)
            have hb1 := HB1.out.kept hk1 (fun hf => hf)
            have ck := hb1.cell 0
            rw [HAT.out] at ck
            have fk := hb1.frozen 0
            have HB0' := Lib.hid (hb0.far (p := ⟨w.heap.size + 1, 0, none⟩) (by simp) (.int .u8 (b.toNat : Int)))
            have hset := hb1.set 0 (.int .u8 (b.toNat : Int))
            rw [HPT.out] at hset
            have HB1' := Lib.hid hset
            have HK' := Lib.hid ((HK.out.then hk1).setCell (p := ⟨w.heap.size + 1, 0, none⟩) (fun hl => absurd hl (by simp)) (.int .u8 (b.toNat : Int)))
            have hbd := b.toNat_lt
            clear hb0 hb1 hk1 hset
            go_wp2
            go_roundw
            case rel => exact ⟨1, bs ++ [b], by omega, rfl, HPF'.out, HB0'.out, HB1'.out, HK'.out⟩
            case measure => simp [intOf]
        · rw [show ((1 : Nat) : Int) = 1 from rfl]
          have hj := J1.out
          by_cases hc : s.data.toList.getD 2 0 = 58
          · rw [hc] at hj
            have hj2 : ∀ w, (Instr.index 9 (.string s) (.int .i64 2)).run Tryd.prog w = .ok (.int .u8 58) w := hj
            clear hj
            rcases hnum : numB 16 0 ((s.data.toList.drop (3 * 1)).take 2) with _ | n
            · have hpu := fun w hS => puf16 (s.extract 3 5) E1.out.1 E1.out.2.1 (by rw [E1.out.2.2]; exact hnum) w hS
              have HPU := Lib.hid hpu
              have hdead := prs_dead s.data.toList 1 (by omega) (by unfold pst; rw [if_neg (by intro h; exact h.2 hc), hnum]; rfl)
              have HDEAD := Lib.hid (show prs l = none by rw [HLL.out]; exact hdead)
              clear hdead hpu hnum
              go_wp2_with fail
              refine (HPU.out _ (HS.out.kept HK.out)).mono ?_
              rintro e w1 ⟨N, rfl, hk1⟩
              have HB0' := Lib.hid (HB0.out.kept hk1 (fun hf => hf))
              have HK' := Lib.hid (HK.out.then hk1)
              clear hk1
              have y0 := HB0'.out.cell 0
              have z0 := HB0'.out.frozen 0
              have y1 := HB0'.out.cell 1
              have z1 := HB0'.out.frozen 1
              have y2 := HB0'.out.cell 2
              have z2 := HB0'.out.frozen 2
              have y3 := HB0'.out.cell 3
              have z3 := HB0'.out.frozen 3
              have y4 := HB0'.out.cell 4
              have z4 := HB0'.out.frozen 4
              have y5 := HB0'.out.cell 5
              have z5 := HB0'.out.frozen 5
              simp at y0 y1 y2 y3 y4 y5
              go_wp2
              refine bodyPost_ret (v := .tuple #[.agg #[.int .u8 0, .int .u8 0, .int .u8 0, .int .u8 0, .int .u8 0, .int .u8 0], .int .i64 5]) (by simp [results, Tryd.results27, go_sem, y0, y1, y2, y3, y4, y5]) rfl ⟨by rw [HDEAD.out]; rfl, ?_⟩
              exact HK'.out.fresh (((((((Kept.refl (fun i => w.heap.size ≤ i) w1).put (Nat.le_refl _) _).put (Nat.le_refl _) _).put (Nat.le_refl _) _).put (Nat.le_refl _) _).put (Nat.le_refl _) _).put (Nat.le_refl _) _) (fun i hi => hi)
            · have hn := num16_byte _ (by rw [List.length_take]; omega) n hnum
              obtain ⟨b, hb⟩ : ∃ b : UInt8, n = b.toNat := ⟨_, byte_of n hn⟩
              subst hb
              have hpst : pst s.data.toList 1 = some b := by unfold pst; rw [if_neg (by intro h; exact h.2 hc), hnum]; simp
              have HPF' := Lib.hid (pfx_more _ _ _ _ HPF.out hpst)
              have hpu := fun w => pub16 (s.extract 3 5) E1.out.1 E1.out.2.1 b.toNat (by rw [E1.out.2.2]; exact hnum) w
              have HPU := Lib.hid hpu
              have hlen := pfx_len _ _ _ HPF.out
              have hat := bys_at bs 1 hlen (by omega)
              have hput := bys_put bs b 1 hlen (by omega)
              have HPT := Lib.hid hput
              have HAT := Lib.hid hat
              clear hpu hnum hpst hn hlen hat hput
              go_wp2_with fail
              refine (HPU.out _).mono ?_
              rintro e w1 ⟨rfl, hk1⟩
              have hb0 := HB0.out.kept hk1 (fun hf => hf)
              have hb1 := HB1.out.kept hk1 (fun hf => hf)
              have ck := hb1.cell 1
              rw [HAT.out] at ck
              have fk := hb1.frozen 1
              have HB0' := Lib.hid (hb0.far (p := ⟨w.heap.size + 1, 1, none⟩) (by simp) (.int .u8 (b.toNat : Int)))
              have hset := hb1.set 1 (.int .u8 (b.toNat : Int))
              rw [HPT.out] at hset
              have HB1' := Lib.hid hset
              have HK' := Lib.hid ((HK.out.then hk1).setCell (p := ⟨w.heap.size + 1, 1, none⟩) (fun hl => absurd hl (by simp)) (.int .u8 (b.toNat : Int)))
              have hbd := b.toNat_lt
              clear hb0 hb1 hk1 hset
              go_wp2
              go_roundw
              case rel => exact ⟨2, bs ++ [b], by omega, rfl, HPF'.out, HB0'.out, HB1'.out, HK'.out⟩
              case measure => simp [intOf]
          · generalize hcc : s.data.toList.getD 2 0 = c at hj
            have hj2 : ∀ w, (Instr.index 9 (.string s) (.int .i64 2)).run Tryd.prog w = .ok (.int .u8 (c.toNat : Int)) w := hj
            have hne : ((c.toNat : Int) == 58) = false := by rw [beq_eq_false_iff_ne]; intro h; exact hc (by rw [hcc]; exact UInt8.toNat_inj.1 (by show c.toNat = 58; omega))
            have hdead := prs_dead s.data.toList 1 (by omega) (by unfold pst; rw [if_pos ⟨by omega, hc⟩])
            have HDEAD := Lib.hid (show prs l = none by rw [HLL.out]; exact hdead)
            clear hdead hcc hc hj
            have y0 := HB0.out.cell 0
            have z0 := HB0.out.frozen 0
            have y1 := HB0.out.cell 1
            have z1 := HB0.out.frozen 1
            have y2 := HB0.out.cell 2
            have z2 := HB0.out.frozen 2
            have y3 := HB0.out.cell 3
            have z3 := HB0.out.frozen 3
            have y4 := HB0.out.cell 4
            have z4 := HB0.out.frozen 4
            have y5 := HB0.out.cell 5
            have z5 := HB0.out.frozen 5
            simp at y0 y1 y2 y3 y4 y5
            go_wp2
            refine bodyPost_ret (v := .tuple #[.agg #[.int .u8 0, .int .u8 0, .int .u8 0, .int .u8 0, .int .u8 0, .int .u8 0], .int .i64 5]) (by simp [results, Tryd.results27, go_sem, y0, y1, y2, y3, y4, y5]) rfl ⟨by rw [HDEAD.out]; rfl, ?_⟩
            exact HK.out.fresh (((((((Kept.refl (fun i => w.heap.size ≤ i) wr).put (Nat.le_refl _) _).put (Nat.le_refl _) _).put (Nat.le_refl _) _).put (Nat.le_refl _) _).put (Nat.le_refl _) _).put (Nat.le_refl _) _) (fun i hi => hi)
        · rw [show ((2 : Nat) : Int) = 2 from rfl]
          have hj := J2.out
          by_cases hc : s.data.toList.getD 5 0 = 58
          · rw [hc] at hj
            have hj2 : ∀ w, (Instr.index 9 (.string s) (.int .i64 5)).run Tryd.prog w = .ok (.int .u8 58) w := hj
            clear hj
            rcases hnum : numB 16 0 ((s.data.toList.drop (3 * 2)).take 2) with _ | n
            · have hpu := fun w hS => puf16 (s.extract 6 8) E2.out.1 E2.out.2.1 (by rw [E2.out.2.2]; exact hnum) w hS
              have HPU := Lib.hid hpu
              have hdead := prs_dead s.data.toList 2 (by omega) (by unfold pst; rw [if_neg (by intro h; exact h.2 hc), hnum]; rfl)
              have HDEAD := Lib.hid (show prs l = none by rw [HLL.out]; exact hdead)
              clear hdead hpu hnum
              go_wp2_with fail
              refine (HPU.out _ (HS.out.kept HK.out)).mono ?_
              rintro e w1 ⟨N, rfl, hk1⟩
              have HB0' := Lib.hid (HB0.out.kept hk1 (fun hf => hf))
              have HK' := Lib.hid (HK.out.then hk1)
              clear hk1
              have y0 := HB0'.out.cell 0
              have z0 := HB0'.out.frozen 0
              have y1 := HB0'.out.cell 1
              have z1 := HB0'.out.frozen 1
              have y2 := HB0'.out.cell 2
              have z2 := HB0'.out.frozen 2
              have y3 := HB0'.out.cell 3
              have z3 := HB0'.out.frozen 3
              have y4 := HB0'.out.cell 4
              have z4 := HB0'.out.frozen 4
              have y5 := HB0'.out.cell 5
              have z5 := HB0'.out.frozen 5
              simp at y0 y1 y2 y3 y4 y5
              go_wp2
              refine bodyPost_ret (v := .tuple #[.agg #[.int .u8 0, .int .u8 0, .int .u8 0, .int .u8 0, .int .u8 0, .int .u8 0], .int .i64 5]) (by simp [results, Tryd.results27, go_sem, y0, y1, y2, y3, y4, y5]) rfl ⟨by rw [HDEAD.out]; rfl, ?_⟩
              exact HK'.out.fresh (((((((Kept.refl (fun i => w.heap.size ≤ i) w1).put (Nat.le_refl _) _).put (Nat.le_refl _) _).put (Nat.le_refl _) _).put (Nat.le_refl _) _).put (Nat.le_refl _) _).put (Nat.le_refl _) _) (fun i hi => hi)
            · have hn := num16_byte _ (by rw [List.length_take]; omega) n hnum
              obtain ⟨b, hb⟩ : ∃ b : UInt8, n = b.toNat := ⟨_, byte_of n hn⟩
              subst hb
              have hpst : pst s.data.toList 2 = some b := by unfold pst; rw [if_neg (by intro h; exact h.2 hc), hnum]; simp
              have HPF' := Lib.hid (pfx_more _ _ _ _ HPF.out hpst)
              have hpu := fun w => pub16 (s.extract 6 8) E2.out.1 E2.out.2.1 b.toNat (by rw [E2.out.2.2]; exact hnum) w
              have HPU := Lib.hid hpu
              have hlen := pfx_len _ _ _ HPF.out
              have hat := bys_at bs 2 hlen (by omega)
              have hput := bys_put bs b 2 hlen (by omega)
              have HPT := Lib.hid hput
              have HAT := Lib.hid hat
              clear hpu hnum hpst hn hlen hat hput
              go_wp2_with fail
              refine (HPU.out _).mono ?_
              rintro e w1 ⟨rfl, hk1⟩
              have hb0 := HB0.out.kept hk1 (fun hf => hf)
              have hb1 := HB1.out.kept hk1 (fun hf => hf)
              have ck := hb1.cell 2
              rw [HAT.out] at ck
              have fk := hb1.frozen 2
              have HB0' := Lib.hid (hb0.far (p := ⟨w.heap.size + 1, 2, none⟩) (by simp) (.int .u8 (b.toNat : Int)))
              have hset := hb1.set 2 (.int .u8 (b.toNat : Int))
              rw [HPT.out] at hset
              have HB1' := Lib.hid hset
              have HK' := Lib.hid ((HK.out.then hk1).setCell (p := ⟨w.heap.size + 1, 2, none⟩) (fun hl => absurd hl (by simp)) (.int .u8 (b.toNat : Int)))
              have hbd := b.toNat_lt
              clear hb0 hb1 hk1 hset
              go_wp2
              go_roundw
              case rel => exact ⟨3, bs ++ [b], by omega, rfl, HPF'.out, HB0'.out, HB1'.out, HK'.out⟩
              case measure => simp [intOf]
          · generalize hcc : s.data.toList.getD 5 0 = c at hj
            have hj2 : ∀ w, (Instr.index 9 (.string s) (.int .i64 5)).run Tryd.prog w = .ok (.int .u8 (c.toNat : Int)) w := hj
            have hne : ((c.toNat : Int) == 58) = false := by rw [beq_eq_false_iff_ne]; intro h; exact hc (by rw [hcc]; exact UInt8.toNat_inj.1 (by show c.toNat = 58; omega))
            have hdead := prs_dead s.data.toList 2 (by omega) (by unfold pst; rw [if_pos ⟨by omega, hc⟩])
            have HDEAD := Lib.hid (show prs l = none by rw [HLL.out]; exact hdead)
            clear hdead hcc hc hj
            have y0 := HB0.out.cell 0
            have z0 := HB0.out.frozen 0
            have y1 := HB0.out.cell 1
            have z1 := HB0.out.frozen 1
            have y2 := HB0.out.cell 2
            have z2 := HB0.out.frozen 2
            have y3 := HB0.out.cell 3
            have z3 := HB0.out.frozen 3
            have y4 := HB0.out.cell 4
            have z4 := HB0.out.frozen 4
            have y5 := HB0.out.cell 5
            have z5 := HB0.out.frozen 5
            simp at y0 y1 y2 y3 y4 y5
            go_wp2
            refine bodyPost_ret (v := .tuple #[.agg #[.int .u8 0, .int .u8 0, .int .u8 0, .int .u8 0, .int .u8 0, .int .u8 0], .int .i64 5]) (by simp [results, Tryd.results27, go_sem, y0, y1, y2, y3, y4, y5]) rfl ⟨by rw [HDEAD.out]; rfl, ?_⟩
            exact HK.out.fresh (((((((Kept.refl (fun i => w.heap.size ≤ i) wr).put (Nat.le_refl _) _).put (Nat.le_refl _) _).put (Nat.le_refl _) _).put (Nat.le_refl _) _).put (Nat.le_refl _) _).put (Nat.le_refl _) _) (fun i hi => hi)
        · rw [show ((3 : Nat) : Int) = 3 from rfl]
          have hj := J3.out
          by_cases hc : s.data.toList.getD 8 0 = 58
          · rw [hc] at hj
            have hj2 : ∀ w, (Instr.index 9 (.string s) (.int .i64 8)).run Tryd.prog w = .ok (.int .u8 58) w := hj
            clear hj
            rcases hnum : numB 16 0 ((s.data.toList.drop (3 * 3)).take 2) with _ | n
            · have hpu := fun w hS => puf16 (s.extract 9 11) E3.out.1 E3.out.2.1 (by rw [E3.out.2.2]; exact hnum) w hS
              have HPU := Lib.hid hpu
              have hdead := prs_dead s.data.toList 3 (by omega) (by unfold pst; rw [if_neg (by intro h; exact h.2 hc), hnum]; rfl)
              have HDEAD := Lib.hid (show prs l = none by rw [HLL.out]; exact hdead)
              clear hdead hpu hnum
              go_wp2_with fail
              refine (HPU.out _ (HS.out.kept HK.out)).mono ?_
              rintro e w1 ⟨N, rfl, hk1⟩
              have HB0' := Lib.hid (HB0.out.kept hk1 (fun hf => hf))
              have HK' := Lib.hid (HK.out.then hk1)
              clear hk1
              have y0 := HB0'.out.cell 0
              have z0 := HB0'.out.frozen 0
              have y1 := HB0'.out.cell 1
              have z1 := HB0'.out.frozen 1
              have y2 := HB0'.out.cell 2
              have z2 := HB0'.out.frozen 2
              have y3 := HB0'.out.cell 3
              have z3 := HB0'.out.frozen 3
              have y4 := HB0'.out.cell 4
              have z4 := HB0'.out.frozen 4
              have y5 := HB0'.out.cell 5
              have z5 := HB0'.out.frozen 5
              simp at y0 y1 y2 y3 y4 y5
              go_wp2
              refine bodyPost_ret (v := .tuple #[.agg #[.int .u8 0, .int .u8 0, .int .u8 0, .int .u8 0, .int .u8 0, .int .u8 0], .int .i64 5]) (by simp [results, Tryd.results27, go_sem, y0, y1, y2, y3, y4, y5]) rfl ⟨by rw [HDEAD.out]; rfl, ?_⟩
              exact HK'.out.fresh (((((((Kept.refl (fun i => w.heap.size ≤ i) w1).put (Nat.le_refl _) _).put (Nat.le_refl _) _).put (Nat.le_refl _) _).put (Nat.le_refl _) _).put (Nat.le_refl _) _).put (Nat.le_refl _) _) (fun i hi => hi)
            · have hn := num16_byte _ (by rw [List.length_take]; omega) n hnum
              obtain ⟨b, hb⟩ : ∃ b : UInt8, n = b.toNat := ⟨_, byte_of n hn⟩
              subst hb
              have hpst : pst s.data.toList 3 = some b := by unfold pst; rw [if_neg (by intro h; exact h.2 hc), hnum]; simp
              have HPF' := Lib.hid (pfx_more _ _ _ _ HPF.out hpst)
              have hpu := fun w => pub16 (s.extract 9 11) E3.out.1 E3.out.2.1 b.toNat (by rw [E3.out.2.2]; exact hnum) w
              have HPU := Lib.hid hpu
              have hlen := pfx_len _ _ _ HPF.out
              have hat := bys_at bs 3 hlen (by omega)
              have hput := bys_put bs b 3 hlen (by omega)
              have HPT := Lib.hid hput
              have HAT := Lib.hid hat
              clear hpu hnum hpst hn hlen hat hput
              go_wp2_with fail
              refine (HPU.out _).mono ?_
              rintro e w1 ⟨rfl, hk1⟩
              have hb0 := HB0.out.kept hk1 (fun hf => hf)
              have hb1 := HB1.out.kept hk1 (fun hf => hf)
              have ck := hb1.cell 3
              rw [HAT.out] at ck
              have fk := hb1.frozen 3
              have HB0' := Lib.hid (hb0.far (p := ⟨w.heap.size + 1, 3, none⟩) (by simp) (.int .u8 (b.toNat : Int)))
              have hset := hb1.set 3 (.int .u8 (b.toNat : Int))
              rw [HPT.out] at hset
              have HB1' := Lib.hid hset
              have HK' := Lib.hid ((HK.out.then hk1).setCell (p := ⟨w.heap.size + 1, 3, none⟩) (fun hl => absurd hl (by simp)) (.int .u8 (b.toNat : Int)))
              have hbd := b.toNat_lt
              clear hb0 hb1 hk1 hset
              go_wp2
              go_roundw
              case rel => exact ⟨4, bs ++ [b], by omega, rfl, HPF'.out, HB0'.out, HB1'.out, HK'.out⟩
              case measure => simp [intOf]
          · generalize hcc : s.data.toList.getD 8 0 = c at hj
            have hj2 : ∀ w, (Instr.index 9 (.string s) (.int .i64 8)).run Tryd.prog w = .ok (.int .u8 (c.toNat : Int)) w := hj
            have hne : ((c.toNat : Int) == 58) = false := by rw [beq_eq_false_iff_ne]; intro h; exact hc (by rw [hcc]; exact UInt8.toNat_inj.1 (by show c.toNat = 58; omega))
            have hdead := prs_dead s.data.toList 3 (by omega) (by unfold pst; rw [if_pos ⟨by omega, hc⟩])
            have HDEAD := Lib.hid (show prs l = none by rw [HLL.out]; exact hdead)
            clear hdead hcc hc hj
            have y0 := HB0.out.cell 0
            have z0 := HB0.out.frozen 0
            have y1 := HB0.out.cell 1
            have z1 := HB0.out.frozen 1
            have y2 := HB0.out.cell 2
            have z2 := HB0.out.frozen 2
            have y3 := HB0.out.cell 3
            have z3 := HB0.out.frozen 3
            have y4 := HB0.out.cell 4
            have z4 := HB0.out.frozen 4
            have y5 := HB0.out.cell 5
            have z5 := HB0.out.frozen 5
            simp at y0 y1 y2 y3 y4 y5
            go_wp2
            refine bodyPost_ret (v := .tuple #[.agg #[.int .u8 0, .int .u8 0, .int .u8 0, .int .u8 0, .int .u8 0, .int .u8 0], .int .i64 5]) (by simp [results, Tryd.results27, go_sem, y0, y1, y2, y3, y4, y5]) rfl ⟨by rw [HDEAD.out]; rfl, ?_⟩
            exact HK.out.fresh (((((((Kept.refl (fun i => w.heap.size ≤ i) wr).put (Nat.le_refl _) _).put (Nat.le_refl _) _).put (Nat.le_refl _) _).put (Nat.le_refl _) _).put (Nat.le_refl _) _).put (Nat.le_refl _) _) (fun i hi => hi)
        · rw [show ((4 : Nat) : Int) = 4 from rfl]
          have hj := J4.out
          by_cases hc : s.data.toList.getD 11 0 = 58
          · rw [hc] at hj
            have hj2 : ∀ w, (Instr.index 9 (.string s) (.int .i64 11)).run Tryd.prog w = .ok (.int .u8 58) w := hj
            clear hj
            rcases hnum : numB 16 0 ((s.data.toList.drop (3 * 4)).take 2) with _ | n
            · have hpu := fun w hS => puf16 (s.extract 12 14) E4.out.1 E4.out.2.1 (by rw [E4.out.2.2]; exact hnum) w hS
              have HPU := Lib.hid hpu
              have hdead := prs_dead s.data.toList 4 (by omega) (by unfold pst; rw [if_neg (by intro h; exact h.2 hc), hnum]; rfl)
              have HDEAD := Lib.hid (show prs l = none by rw [HLL.out]; exact hdead)
              clear hdead hpu hnum
              go_wp2_with fail
              refine (HPU.out _ (HS.out.kept HK.out)).mono ?_
              rintro e w1 ⟨N, rfl, hk1⟩
              have HB0' := Lib.hid (HB0.out.kept hk1 (fun hf => hf))
              have HK' := Lib.hid (HK.out.then hk1)
              clear hk1
              have y0 := HB0'.out.cell 0
              have z0 := HB0'.out.frozen 0
              have y1 := HB0'.out.cell 1
              have z1 := HB0'.out.frozen 1
              have y2 := HB0'.out.cell 2
              have z2 := HB0'.out.frozen 2
              have y3 := HB0'.out.cell 3
              have z3 := HB0'.out.frozen 3
              have y4 := HB0'.out.cell 4
              have z4 := HB0'.out.frozen 4
              have y5 := HB0'.out.cell 5
              have z5 := HB0'.out.frozen 5
              simp at y0 y1 y2 y3 y4 y5
              go_wp2
              refine bodyPost_ret (v := .tuple #[.agg #[.int .u8 0, .int .u8 0, .int .u8 0, .int .u8 0, .int .u8 0, .int .u8 0], .int .i64 5]) (by simp [results, Tryd.results27, go_sem, y0, y1, y2, y3, y4, y5]) rfl ⟨by rw [HDEAD.out]; rfl, ?_⟩
              exact HK'.out.fresh (((((((Kept.refl (fun i => w.heap.size ≤ i) w1).put (Nat.le_refl _) _).put (Nat.le_refl _) _).put (Nat.le_refl _) _).put (Nat.le_refl _) _).put (Nat.le_refl _) _).put (Nat.le_refl _) _) (fun i hi => hi)
            · have hn := num16_byte _ (by rw [List.length_take]; omega) n hnum
              obtain ⟨b, hb⟩ : ∃ b : UInt8, n = b.toNat := ⟨_, byte_of n hn⟩
              subst hb
              have hpst : pst s.data.toList 4 = some b := by unfold pst; rw [if_neg (by intro h; exact h.2 hc), hnum]; simp
              have HPF' := Lib.hid (pfx_more _ _ _ _ HPF.out hpst)
              have hpu := fun w => pub16 (s.extract 12 14) E4.out.1 E4.out.2.1 b.toNat (by rw [E4.out.2.2]; exact hnum) w
              have HPU := Lib.hid hpu
              have hlen := pfx_len _ _ _ HPF.out
              have hat := bys_at bs 4 hlen (by omega)
              have hput := bys_put bs b 4 hlen (by omega)
              have HPT := Lib.hid hput
              have HAT := Lib.hid hat
              clear hpu hnum hpst hn hlen hat hput
              go_wp2_with fail
              refine (HPU.out _).mono ?_
              rintro e w1 ⟨rfl, hk1⟩
              have hb0 := HB0.out.kept hk1 (fun hf => hf)
              have hb1 := HB1.out.kept hk1 (fun hf => hf)
              have ck := hb1.cell 4
              rw [HAT.out] at ck
              have fk := hb1.frozen 4
              have HB0' := Lib.hid (hb0.far (p := ⟨w.heap.size + 1, 4, none⟩) (by simp) (.int .u8 (b.toNat : Int)))
              have hset := hb1.set 4 (.int .u8 (b.toNat : Int))
              rw [HPT.out] at hset
              have HB1' := Lib.hid hset
              have HK' := Lib.hid ((HK.out.then hk1).setCell (p := ⟨w.heap.size + 1, 4, none⟩) (fun hl => absurd hl (by simp)) (.int .u8 (b.toNat : Int)))
              have hbd := b.toNat_lt
              clear hb0 hb1 hk1 hset
              go_wp2
              go_roundw
              case rel => exact ⟨5, bs ++ [b], by omega, rfl, HPF'.out, HB0'.out, HB1'.out, HK'.out⟩
              case measure => simp [intOf]
          · generalize hcc : s.data.toList.getD 11 0 = c at hj
            have hj2 : ∀ w, (Instr.index 9 (.string s) (.int .i64 11)).run Tryd.prog w = .ok (.int .u8 (c.toNat : Int)) w := hj
            have hne : ((c.toNat : Int) == 58) = false := by rw [beq_eq_false_iff_ne]; intro h; exact hc (by rw [hcc]; exact UInt8.toNat_inj.1 (by show c.toNat = 58; omega))
            have hdead := prs_dead s.data.toList 4 (by omega) (by unfold pst; rw [if_pos ⟨by omega, hc⟩])
            have HDEAD := Lib.hid (show prs l = none by rw [HLL.out]; exact hdead)
            clear hdead hcc hc hj
            have y0 := HB0.out.cell 0
            have z0 := HB0.out.frozen 0
            have y1 := HB0.out.cell 1
            have z1 := HB0.out.frozen 1
            have y2 := HB0.out.cell 2
            have z2 := HB0.out.frozen 2
            have y3 := HB0.out.cell 3
            have z3 := HB0.out.frozen 3
            have y4 := HB0.out.cell 4
            have z4 := HB0.out.frozen 4
            have y5 := HB0.out.cell 5
            have z5 := HB0.out.frozen 5
            simp at y0 y1 y2 y3 y4 y5
            go_wp2
            refine bodyPost_ret (v := .tuple #[.agg #[.int .u8 0, .int .u8 0, .int .u8 0, .int .u8 0, .int .u8 0, .int .u8 0], .int .i64 5]) (by simp [results, Tryd.results27, go_sem, y0, y1, y2, y3, y4, y5]) rfl ⟨by rw [HDEAD.out]; rfl, ?_⟩
            exact HK.out.fresh (((((((Kept.refl (fun i => w.heap.size ≤ i) wr).put (Nat.le_refl _) _).put (Nat.le_refl _) _).put (Nat.le_refl _) _).put (Nat.le_refl _) _).put (Nat.le_refl _) _).put (Nat.le_refl _) _) (fun i hi => hi)
        · rw [show ((5 : Nat) : Int) = 5 from rfl]
          have hj := J5.out
          by_cases hc : s.data.toList.getD 14 0 = 58
          · rw [hc] at hj
            have hj2 : ∀ w, (Instr.index 9 (.string s) (.int .i64 14)).run Tryd.prog w = .ok (.int .u8 58) w := hj
            clear hj
            rcases hnum : numB 16 0 ((s.data.toList.drop (3 * 5)).take 2) with _ | n
            · have hpu := fun w hS => puf16 (s.extract 15 17) E5.out.1 E5.out.2.1 (by rw [E5.out.2.2]; exact hnum) w hS
              have HPU := Lib.hid hpu
              have hdead := prs_dead s.data.toList 5 (by omega) (by unfold pst; rw [if_neg (by intro h; exact h.2 hc), hnum]; rfl)
              have HDEAD := Lib.hid (show prs l = none by rw [HLL.out]; exact hdead)
              clear hdead hpu hnum
              go_wp2_with fail
              refine (HPU.out _ (HS.out.kept HK.out)).mono ?_
              rintro e w1 ⟨N, rfl, hk1⟩
              have HB0' := Lib.hid (HB0.out.kept hk1 (fun hf => hf))
              have HK' := Lib.hid (HK.out.then hk1)
              clear hk1
              have y0 := HB0'.out.cell 0
              have z0 := HB0'.out.frozen 0
              have y1 := HB0'.out.cell 1
              have z1 := HB0'.out.frozen 1
              have y2 := HB0'.out.cell 2
              have z2 := HB0'.out.frozen 2
              have y3 := HB0'.out.cell 3
              have z3 := HB0'.out.frozen 3
              have y4 := HB0'.out.cell 4
              have z4 := HB0'.out.frozen 4
              have y5 := HB0'.out.cell 5
              have z5 := HB0'.out.frozen 5
              simp at y0 y1 y2 y3 y4 y5
              go_wp2
              refine bodyPost_ret (v := .tuple #[.agg #[.int .u8 0, .int .u8 0, .int .u8 0, .int .u8 0, .int .u8 0, .int .u8 0], .int .i64 5]) (by simp [results, Tryd.results27, go_sem, y0, y1, y2, y3, y4, y5]) rfl ⟨by rw [HDEAD.out]; rfl, ?_⟩
              exact HK'.out.fresh (((((((Kept.refl (fun i => w.heap.size ≤ i) w1).put (Nat.le_refl _) _).put (Nat.le_refl _) _).put (Nat.le_refl _) _).put (Nat.le_refl _) _).put (Nat.le_refl _) _).put (Nat.le_refl _) _) (fun i hi => hi)
            · have hn := num16_byte _ (by rw [List.length_take]; omega) n hnum
              obtain ⟨b, hb⟩ : ∃ b : UInt8, n = b.toNat := ⟨_, byte_of n hn⟩
              subst hb
              have hpst : pst s.data.toList 5 = some b := by unfold pst; rw [if_neg (by intro h; exact h.2 hc), hnum]; simp
              have HPF' := Lib.hid (pfx_more _ _ _ _ HPF.out hpst)
              have hpu := fun w => pub16 (s.extract 15 17) E5.out.1 E5.out.2.1 b.toNat (by rw [E5.out.2.2]; exact hnum) w
              have HPU := Lib.hid hpu
              have hlen := pfx_len _ _ _ HPF.out
              have hat := bys_at bs 5 hlen (by omega)
              have hput := bys_put bs b 5 hlen (by omega)
              have HPT := Lib.hid hput
              have HAT := Lib.hid hat
              clear hpu hnum hpst hn hlen hat hput
              go_wp2_with fail
              refine (HPU.out _).mono ?_
              rintro e w1 ⟨rfl, hk1⟩
              have hb0 := HB0.out.kept hk1 (fun hf => hf)
              have hb1 := HB1.out.kept hk1 (fun hf => hf)
              have ck := hb1.cell 5
              rw [HAT.out] at ck
              have fk := hb1.frozen 5
              have HB0' := Lib.hid (hb0.far (p := ⟨w.heap.size + 1, 5, none⟩) (by simp) (.int .u8 (b.toNat : Int)))
              have hset := hb1.set 5 (.int .u8 (b.toNat : Int))
              rw [HPT.out] at hset
              have HB1' := Lib.hid hset
              have HK' := Lib.hid ((HK.out.then hk1).setCell (p := ⟨w.heap.size + 1, 5, none⟩) (fun hl => absurd hl (by simp)) (.int .u8 (b.toNat : Int)))
              have hbd := b.toNat_lt
              clear hb0 hb1 hk1 hset
              go_wp2
              go_roundw
              case rel => exact ⟨6, bs ++ [b], by omega, rfl, HPF'.out, HB0'.out, HB1'.out, HK'.out⟩
              case measure => simp [intOf]
          · generalize hcc : s.data.toList.getD 14 0 = c at hj
            have hj2 : ∀ w, (Instr.index 9 (.string s) (.int .i64 14)).run Tryd.prog w = .ok (.int .u8 (c.toNat : Int)) w := hj
            have hne : ((c.toNat : Int) == 58) = false := by rw [beq_eq_false_iff_ne]; intro h; exact hc (by rw [hcc]; exact UInt8.toNat_inj.1 (by show c.toNat = 58; omega))
            have hdead := prs_dead s.data.toList 5 (by omega) (by unfold pst; rw [if_pos ⟨by omega, hc⟩])
            have HDEAD := Lib.hid (show prs l = none by rw [HLL.out]; exact hdead)
            clear hdead hcc hc hj
            have y0 := HB0.out.cell 0
            have z0 := HB0.out.frozen 0
            have y1 := HB0.out.cell 1
            have z1 := HB0.out.frozen 1
            have y2 := HB0.out.cell 2
            have z2 := HB0.out.frozen 2
            have y3 := HB0.out.cell 3
            have z3 := HB0.out.frozen 3
            have y4 := HB0.out.cell 4
            have z4 := HB0.out.frozen 4
            have y5 := HB0.out.cell 5
            have z5 := HB0.out.frozen 5
            simp at y0 y1 y2 y3 y4 y5
            go_wp2
            refine bodyPost_ret (v := .tuple #[.agg #[.int .u8 0, .int .u8 0, .int .u8 0, .int .u8 0, .int .u8 0, .int .u8 0], .int .i64 5]) (by simp [results, Tryd.results27, go_sem, y0, y1, y2, y3, y4, y5]) rfl ⟨by rw [HDEAD.out]; rfl, ?_⟩
            exact HK.out.fresh (((((((Kept.refl (fun i => w.heap.size ≤ i) wr).put (Nat.le_refl _) _).put (Nat.le_refl _) _).put (Nat.le_refl _) _).put (Nat.le_refl _) _).put (Nat.le_refl _) _).put (Nat.le_refl _) _) (fun i hi => hi)
      · obtain rfl : k = 6 := by omega
        obtain ⟨b0, b1, b2, b3, b4, b5, rfl⟩ := six bs (pfx_len _ _ _ HPF.out)
        have hb1 : Blo wr (w.heap.size + 1) 24 #[.int .u8 (b0.toNat : Int), .int .u8 (b1.toNat : Int), .int .u8 (b2.toNat : Int), .int .u8 (b3.toNat : Int), .int .u8 (b4.toNat : Int), .int .u8 (b5.toNat : Int)] := HB1.out
        have x0 := hb1.cell 0
        have x1 := hb1.cell 1
        have x2 := hb1.cell 2
        have x3 := hb1.cell 3
        have x4 := hb1.cell 4
        have x5 := hb1.cell 5
        have y0 := HB0.out.cell 0
        have z0 := HB0.out.frozen 0
        have y1 := HB0.out.cell 1
        have z1 := HB0.out.frozen 1
        have y2 := HB0.out.cell 2
        have z2 := HB0.out.frozen 2
        have y3 := HB0.out.cell 3
        have z3 := HB0.out.frozen 3
        have y4 := HB0.out.cell 4
        have z4 := HB0.out.frozen 4
        have y5 := HB0.out.cell 5
        have z5 := HB0.out.frozen 5
        simp at y0 y1 y2 y3 y4 y5
        simp at x0 x1 x2 x3 x4 x5
        clear hb1
        have hfin : prs l = some [b0, b1, b2, b3, b4, b5] := by rw [HLL.out]; unfold prs; rw [if_pos HL.out]; exact HPF.out
        have HFIN := Lib.hid hfin
        clear hfin
        go_wp2
        refine bodyPost_ret (v := .tuple #[.agg #[.int .u8 (b0.toNat : Int), .int .u8 (b1.toNat : Int), .int .u8 (b2.toNat : Int), .int .u8 (b3.toNat : Int), .int .u8 (b4.toNat : Int), .int .u8 (b5.toNat : Int)], .int .i64 0]) (by simp [results, Tryd.results27, go_sem, y0, y1, y2, y3, y4, y5]) rfl ⟨by rw [HFIN.out]; rfl, ?_⟩
        exact HK.out.fresh (((((((Kept.refl (fun i => w.heap.size ≤ i) wr).put (Nat.le_refl _) _).put (Nat.le_refl _) _).put (Nat.le_refl _) _).put (Nat.le_refl _) _).put (Nat.le_refl _) _).put (Nat.le_refl _) _) (fun i hi => hi)
  · have hn : prs s.data.toList = none := by
      unfold prs
      rw [if_neg (by have h9 : s.data.toList.length = s.size := by rw [Lib.size_eq]
                     omega)]
    have HN := Lib.hid hn
    have hne : ((s.size : Int) == 17) = false := by rw [beq_eq_false_iff_ne]; omega
    have HB0 := Lib.hid (Blo.new w 24 #[.int .u8 0, .int .u8 0, .int .u8 0, .int .u8 0, .int .u8 0, .int .u8 0])
    generalize hpp : puP (prs s.data.toList) = pp
    have HPP := Lib.hid hpp
    clear hn hpp hS
    go_enter Tryd.func27, Tryd.ntmps27
    go_wp2
    refine bodyPost_ret (v := .tuple #[.agg #[.int .u8 0, .int .u8 0, .int .u8 0, .int .u8 0, .int .u8 0, .int .u8 0], .int .i64 5]) (by simp [results, Tryd.results27, go_sem]) rfl ⟨by rw [← HPP.out, HN.out]; rfl, (Kept.refl Nil w).alloc _⟩
end Go.Proofs.YtifoepglhlpoiaaDoor
