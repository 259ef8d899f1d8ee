/- Contract of tollref02.Parse, of any text. -/
import Derived.Test.YtjfffddaiefggabDoorRefM1
namespace Go.Proofs.YtjfffddaiefggabDoor
open Go.RowKit
set_option linter.unusedVariables false

theorem mst_col (l : List UInt8) (i : Nat) (h : i % 3 = 2) : mst l (i + 1) = mst l i := by
  rw [mst, if_pos h]
theorem mst_dig (l : List UInt8) (i : Nat) (h : ¬ i % 3 = 2) : mst l (i + 1) = (mst l i).set (i / 3) (UInt8.ofNat (((mst l i).getD (i / 3) 0).toNat * 16 + dg (l.getD i 0))) := by
  rw [mst, if_neg h]
theorem bys_set (l : List UInt8) (k : Nat) (b : UInt8) : (bys l).toArray.setIfInBounds k (.int .u8 (b.toNat : Int)) = (bys (l.set k b)).toArray := by
  simp [bys, List.map_set]
theorem hexput (m : UInt8) (d : Nat) (hd : d < 16) : (m.toNat : Int) * 16 % 256 + (d : Int) = ((UInt8.ofNat (m.toNat * 16 + d)).toNat : Int) := by
  rw [UInt8.toNat_ofNat']
  have := m.toNat_lt
  omega
set_option maxHeartbeats 16000000 in
set_option maxRecDepth 100000 in
theorem RParse_any (s : ByteArray) (hm : s.size ≤ 1000) (w : World) :
    Calls Tryd.prog 28 #[.string s] w fun e w' => e = .returned (puP (prs s.data.toList)) ∧ Kept Nil w w' := by
  have hsz : s.data.toList.length = s.size := by rw [Lib.size_eq]
  have hz0 := (Blo.new w 22 #[.int .u8 0, .int .u8 0, .int .u8 0, .int .u8 0, .int .u8 0, .int .u8 0]).alloc (.cells #[.int .u8 0, .int .u8 0, .int .u8 0, .int .u8 0, .int .u8 0, .int .u8 0] 22)
  have hz1 := Blo.new (w.alloc (.cells #[.int .u8 0, .int .u8 0, .int .u8 0, .int .u8 0, .int .u8 0, .int .u8 0] 22)) 22 #[.int .u8 0, .int .u8 0, .int .u8 0, .int .u8 0, .int .u8 0, .int .u8 0]
  rw [World.size_alloc] at hz1
  have HZ0 := Lib.hid hz0
  have HZ1 := Lib.hid hz1
  clear hz0 hz1
  by_cases hs : s.size = 17
  · have hL : s.data.toList.length = 17 := by omega
    have HL := Lib.hid hL
    obtain ⟨l, hl⟩ : ∃ l, l = s.data.toList := ⟨_, rfl⟩
    have HIX := Lib.hid (fun (i : Nat) (hi : i < 17) (w : World) => idxS s i _ (getD_some s.data.toList i (by omega)) w)
    rw [← hl] at HIX HL ⊢
    clear hl hsz hL
    go_enter Tryd.func28, Tryd.ntmps28
    go_wp2
    go_loopw [5] (fun i wr => ∃ (k : Nat), k ≤ 17 ∧ i = .int .i64 k ∧ Hid (∀ j, j < k → ¬ bad l j) ∧ Hid (Blo wr w.heap.size 22 #[.int .u8 0, .int .u8 0, .int .u8 0, .int .u8 0, .int .u8 0, .int .u8 0]) ∧ Hid (Blo wr (w.heap.size + 1) 22 (bys (mst l k)).toArray) ∧ Hid (Kept Nil w wr)) (fun i _ => 17 - (intOf i).toNat)
    case atStart => exact ⟨0, Nat.zero_le _, rfl, fun j hj => absurd hj (by omega), HZ0.out, HZ1.out, ((Kept.refl Nil w).alloc _).alloc _⟩
    case round =>
      obtain ⟨k, hk, rfl, HOK, HB0, HB1, HK⟩ := hrel
      by_cases hlt : k < 17
      · rcases (show k = 0 ∨ k = 1 ∨ k = 2 ∨ k = 3 ∨ k = 4 ∨ k = 5 ∨ k = 6 ∨ k = 7 ∨ k = 8 ∨ k = 9 ∨ k = 10 ∨ k = 11 ∨ k = 12 ∨ k = 13 ∨ k = 14 ∨ k = 15 ∨ k = 16 by omega) with rfl | rfl | rfl | rfl | rfl | rfl | rfl | rfl | rfl | rfl | rfl | rfl | rfl | rfl | rfl | rfl | rfl
        · have hix := HIX.out 0 (by omega)
          by_cases hc : dg (l.getD 0 0) = 16
          · have hd := ref_bad l HL.out 0 (by omega) (by unfold bad; rw [if_neg (by decide)]; exact hc)
            have HD := Lib.hid hd
            generalize hcc : l.getD 0 0 = c at hix hc
            have hi2 : ∀ w, (Instr.index 9 (.string s) (.int .i64 0)).run Tryd.prog w = .ok (.int .u8 (c.toNat : Int)) w := hix
            have hdg := digit_any c
            rw [hc] at hdg
            have HDG : Hid (∀ w, Calls Tryd.prog 38 #[.int .u8 (c.toNat : Int)] w fun r w' => r = .returned (.int .i64 16) ∧ w = w') := hdg
            clear hix hc hd hcc hdg
            have y0 := HB0.out.cell 0
            have z0 := HB0.out.frozen 0
            have y1 := HB0.out.cell 1
            have z1 := HB0.out.frozen 1
            have y2 := HB0.out.cell 2
            have z2 := HB0.out.frozen 2
            have y3 := HB0.out.cell 3
            have z3 := HB0.out.frozen 3
            have y4 := HB0.out.cell 4
            have z4 := HB0.out.frozen 4
            have y5 := HB0.out.cell 5
            have z5 := HB0.out.frozen 5
            simp at y0 y1 y2 y3 y4 y5
            go_wp2_with fail
            refine (HDG.out _).mono ?_
            rintro e w1 ⟨rfl, rfl⟩
            go_wp2
            refine bodyPost_ret (v := .tuple #[.agg #[.int .u8 0, .int .u8 0, .int .u8 0, .int .u8 0, .int .u8 0, .int .u8 0], .int .i64 5]) (by simp [results, Tryd.results28, go_sem, y0, y1, y2, y3, y4, y5]) rfl ⟨by rw [HD.out]; rfl, ?_⟩
            exact HK.out.fresh (((((((Kept.refl (fun i => w.heap.size ≤ i) wr).put (Nat.le_refl _) _).put (Nat.le_refl _) _).put (Nat.le_refl _) _).put (Nat.le_refl _) _).put (Nat.le_refl _) _).put (Nat.le_refl _) _) (fun i hi => hi)
          · have HOK' := Lib.hid (show ∀ j, j < 1 → ¬ bad l j from fun j hj => by
              by_cases hjj : j = 0
              · subst hjj; unfold bad; rw [if_neg (by decide)]; exact hc
              · exact HOK.out j (by omega))
            have hnext := mst_dig l 0 (by decide)
            have hlen := mst_len l 0
            obtain ⟨m0, m1, m2, m3, m4, m5, hmm⟩ := six (mst l 0) hlen
            have hb1 := HB1.out
            rw [hmm] at hnext hb1
            have hdl := dg_le (l.getD 0 0)
            generalize hcc : l.getD 0 0 = c at hix hc hnext hdl
            have hi2 : ∀ w, (Instr.index 9 (.string s) (.int .i64 0)).run Tryd.prog w = .ok (.int .u8 (c.toNat : Int)) w := hix
            have hd16 : dg c < 16 := by omega
            have HDG := Lib.hid (digit_any c)
            generalize hdd : dg c = d at hnext HDG hc hdl hd16
            have hbd : (d : Int) < 16 := by omega
            have hne : ((d : Int) == 16) = false := by rw [beq_eq_false_iff_ne]; omega
            have hput := hexput m0 d hd16
            have hst := hb1.set 0 (.int .u8 ((UInt8.ofNat (m0.toNat * 16 + d)).toNat : Int))
            rw [bys_set] at hst
            have HST := Lib.hid (show Blo (wr.setCell ⟨w.heap.size + 1, 0, none⟩ (.int .u8 ((m0.toNat : Int) * 16 % 256 + (d : Int)))) (w.heap.size + 1) 22 (bys (mst l 1)).toArray by rw [hput, hnext]; exact hst)
            have HB0' := Lib.hid (HB0.out.far (p := ⟨w.heap.size + 1, 0, none⟩) (by simp) (.int .u8 ((m0.toNat : Int) * 16 % 256 + (d : Int))))
            have HK' := Lib.hid (HK.out.setCell (p := ⟨w.heap.size + 1, 0, none⟩) (fun hl => absurd hl (by simp)) (.int .u8 ((m0.toNat : Int) * 16 % 256 + (d : Int))))
            have x0 := hb1.cell 0
            simp [bys] at x0
            have x1 := hb1.frozen 0
            clear hix hc hcc hdl hd16 hdd hnext hlen hmm hb1 hst hput
            go_wp2_with fail
            refine (HDG.out _).mono ?_
            rintro e w1 ⟨rfl, rfl⟩
            go_wp2
            go_roundw
            case rel => exact ⟨1, by omega, rfl, HOK'.out, HB0'.out, HST.out, HK'.out⟩
            case measure => simp [intOf]
        · have hix := HIX.out 1 (by omega)
          by_cases hc : dg (l.getD 1 0) = 16
          · have hd := ref_bad l HL.out 1 (by omega) (by unfold bad; rw [if_neg (by decide)]; exact hc)
            have HD := Lib.hid hd
            generalize hcc : l.getD 1 0 = c at hix hc
            have hi2 : ∀ w, (Instr.index 9 (.string s) (.int .i64 1)).run Tryd.prog w = .ok (.int .u8 (c.toNat : Int)) w := hix
            have hdg := digit_any c
            rw [hc] at hdg
            have HDG : Hid (∀ w, Calls Tryd.prog 38 #[.int .u8 (c.toNat : Int)] w fun r w' => r = .returned (.int .i64 16) ∧ w = w') := hdg
            clear hix hc hd hcc hdg
            have y0 := HB0.out.cell 0
            have z0 := HB0.out.frozen 0
            have y1 := HB0.out.cell 1
            have z1 := HB0.out.frozen 1
            have y2 := HB0.out.cell 2
            have z2 := HB0.out.frozen 2
            have y3 := HB0.out.cell 3
            have z3 := HB0.out.frozen 3
            have y4 := HB0.out.cell 4
            have z4 := HB0.out.frozen 4
            have y5 := HB0.out.cell 5
            have z5 := HB0.out.frozen 5
            simp at y0 y1 y2 y3 y4 y5
            go_wp2_with fail
            refine (HDG.out _).mono ?_
            rintro e w1 ⟨rfl, rfl⟩
            go_wp2
            refine bodyPost_ret (v := .tuple #[.agg #[.int .u8 0, .int .u8 0, .int .u8 0, .int .u8 0, .int .u8 0, .int .u8 0], .int .i64 5]) (by simp [results, Tryd.results28, go_sem, y0, y1, y2, y3, y4, y5]) rfl ⟨by rw [HD.out]; rfl, ?_⟩
            exact HK.out.fresh (((((((Kept.refl (fun i => w.heap.size ≤ i) wr).put (Nat.le_refl _) _).put (Nat.le_refl _) _).put (Nat.le_refl _) _).put (Nat.le_refl _) _).put (Nat.le_refl _) _).put (Nat.le_refl _) _) (fun i hi => hi)
          · have HOK' := Lib.hid (show ∀ j, j < 2 → ¬ bad l j from fun j hj => by
              by_cases hjj : j = 1
              · subst hjj; unfold bad; rw [if_neg (by decide)]; exact hc
              · exact HOK.out j (by omega))
            have hnext := mst_dig l 1 (by decide)
            have hlen := mst_len l 1
            obtain ⟨m0, m1, m2, m3, m4, m5, hmm⟩ := six (mst l 1) hlen
            have hb1 := HB1.out
            rw [hmm] at hnext hb1
            have hdl := dg_le (l.getD 1 0)
            generalize hcc : l.getD 1 0 = c at hix hc hnext hdl
            have hi2 : ∀ w, (Instr.index 9 (.string s) (.int .i64 1)).run Tryd.prog w = .ok (.int .u8 (c.toNat : Int)) w := hix
            have hd16 : dg c < 16 := by omega
            have HDG := Lib.hid (digit_any c)
            generalize hdd : dg c = d at hnext HDG hc hdl hd16
            have hbd : (d : Int) < 16 := by omega
            have hne : ((d : Int) == 16) = false := by rw [beq_eq_false_iff_ne]; omega
            have hput := hexput m0 d hd16
            have hst := hb1.set 0 (.int .u8 ((UInt8.ofNat (m0.toNat * 16 + d)).toNat : Int))
            rw [bys_set] at hst
            have HST := Lib.hid (show Blo (wr.setCell ⟨w.heap.size + 1, 0, none⟩ (.int .u8 ((m0.toNat : Int) * 16 % 256 + (d : Int)))) (w.heap.size + 1) 22 (bys (mst l 2)).toArray by rw [hput, hnext]; exact hst)
            have HB0' := Lib.hid (HB0.out.far (p := ⟨w.heap.size + 1, 0, none⟩) (by simp) (.int .u8 ((m0.toNat : Int) * 16 % 256 + (d : Int))))
            have HK' := Lib.hid (HK.out.setCell (p := ⟨w.heap.size + 1, 0, none⟩) (fun hl => absurd hl (by simp)) (.int .u8 ((m0.toNat : Int) * 16 % 256 + (d : Int))))
            have x0 := hb1.cell 0
            simp [bys] at x0
            have x1 := hb1.frozen 0
            clear hix hc hcc hdl hd16 hdd hnext hlen hmm hb1 hst hput
            go_wp2_with fail
            refine (HDG.out _).mono ?_
            rintro e w1 ⟨rfl, rfl⟩
            go_wp2
            go_roundw
            case rel => exact ⟨2, by omega, rfl, HOK'.out, HB0'.out, HST.out, HK'.out⟩
            case measure => simp [intOf]
        · rw [show ((2 : Nat) : Int) = 2 from rfl]
          have hix := HIX.out 2 (by omega)
          by_cases hc : l.getD 2 0 = 58
          · rw [hc] at hix
            have hi2 : ∀ w, (Instr.index 9 (.string s) (.int .i64 2)).run Tryd.prog w = .ok (.int .u8 58) w := hix
            have HOK' := Lib.hid (show ∀ j, j < 3 → ¬ bad l j from fun j hj => by
              by_cases hjj : j = 2
              · subst hjj; unfold bad; rw [if_pos rfl]; exact fun h => h hc
              · exact HOK.out j (by omega))
            have HB1' : Hid (Blo wr (w.heap.size + 1) 22 (bys (mst l 3)).toArray) := by unfold Hid; rw [mst_col l 2 rfl]; exact HB1.out
            clear hix hc
            go_wp2
            go_roundw
            case rel => exact ⟨3, by omega, rfl, HOK'.out, HB0.out, HB1'.out, HK.out⟩
            case measure => simp [intOf]
          · have hd := ref_bad l HL.out 2 (by omega) (by unfold bad; rw [if_pos rfl]; exact hc)
            have HD := Lib.hid hd
            generalize hcc : l.getD 2 0 = c at hix hc
            have hi2 : ∀ w, (Instr.index 9 (.string s) (.int .i64 2)).run Tryd.prog w = .ok (.int .u8 (c.toNat : Int)) w := hix
            have hne : ((c.toNat : Int) == 58) = false := by rw [beq_eq_false_iff_ne]; intro h; exact hc (UInt8.toNat_inj.1 (by show c.toNat = 58; omega))
            clear hix hc hd hcc
            have y0 := HB0.out.cell 0
            have z0 := HB0.out.frozen 0
            have y1 := HB0.out.cell 1
            have z1 := HB0.out.frozen 1
            have y2 := HB0.out.cell 2
            have z2 := HB0.out.frozen 2
            have y3 := HB0.out.cell 3
            have z3 := HB0.out.frozen 3
            have y4 := HB0.out.cell 4
            have z4 := HB0.out.frozen 4
            have y5 := HB0.out.cell 5
            have z5 := HB0.out.frozen 5
            simp at y0 y1 y2 y3 y4 y5
            go_wp2
            refine bodyPost_ret (v := .tuple #[.agg #[.int .u8 0, .int .u8 0, .int .u8 0, .int .u8 0, .int .u8 0, .int .u8 0], .int .i64 5]) (by simp [results, Tryd.results28, go_sem, y0, y1, y2, y3, y4, y5]) rfl ⟨by rw [HD.out]; rfl, ?_⟩
            exact HK.out.fresh (((((((Kept.refl (fun i => w.heap.size ≤ i) wr).put (Nat.le_refl _) _).put (Nat.le_refl _) _).put (Nat.le_refl _) _).put (Nat.le_refl _) _).put (Nat.le_refl _) _).put (Nat.le_refl _) _) (fun i hi => hi)
        · rw [show ((3 : Nat) : Int) = 3 from rfl]
          have hix := HIX.out 3 (by omega)
          by_cases hc : dg (l.getD 3 0) = 16
          · have hd := ref_bad l HL.out 3 (by omega) (by unfold bad; rw [if_neg (by decide)]; exact hc)
            have HD := Lib.hid hd
            generalize hcc : l.getD 3 0 = c at hix hc
            have hi2 : ∀ w, (Instr.index 9 (.string s) (.int .i64 3)).run Tryd.prog w = .ok (.int .u8 (c.toNat : Int)) w := hix
            have hdg := digit_any c
            rw [hc] at hdg
            have HDG : Hid (∀ w, Calls Tryd.prog 38 #[.int .u8 (c.toNat : Int)] w fun r w' => r = .returned (.int .i64 16) ∧ w = w') := hdg
            clear hix hc hd hcc hdg
            have y0 := HB0.out.cell 0
            have z0 := HB0.out.frozen 0
            have y1 := HB0.out.cell 1
            have z1 := HB0.out.frozen 1
            have y2 := HB0.out.cell 2
            have z2 := HB0.out.frozen 2
            have y3 := HB0.out.cell 3
            have z3 := HB0.out.frozen 3
            have y4 := HB0.out.cell 4
            have z4 := HB0.out.frozen 4
            have y5 := HB0.out.cell 5
            have z5 := HB0.out.frozen 5
            simp at y0 y1 y2 y3 y4 y5
            go_wp2_with fail
            refine (HDG.out _).mono ?_
            rintro e w1 ⟨rfl, rfl⟩
            go_wp2
            refine bodyPost_ret (v := .tuple #[.agg #[.int .u8 0, .int .u8 0, .int .u8 0, .int .u8 0, .int .u8 0, .int .u8 0], .int .i64 5]) (by simp [results, Tryd.results28, go_sem, y0, y1, y2, y3, y4, y5]) rfl ⟨by rw [HD.out]; rfl, ?_⟩
            exact HK.out.fresh (((((((Kept.refl (fun i => w.heap.size ≤ i) wr).put (Nat.le_refl _) _).put (Nat.le_refl _) _).put (Nat.le_refl _) _).put (Nat.le_refl _) _).put (Nat.le_refl _) _).put (Nat.le_refl _) _) (fun i hi => hi)
          · have HOK' := Lib.hid (show ∀ j, j < 4 → ¬ bad l j from fun j hj => by
              by_cases hjj : j = 3
              · subst hjj; unfold bad; rw [if_neg (by decide)]; exact hc
              · exact HOK.out j (by omega))
            have hnext := mst_dig l 3 (by decide)
            have hlen := mst_len l 3
            obtain ⟨m0, m1, m2, m3, m4, m5, hmm⟩ := six (mst l 3) hlen
            have hb1 := HB1.out
            rw [hmm] at hnext hb1
            have hdl := dg_le (l.getD 3 0)
            generalize hcc : l.getD 3 0 = c at hix hc hnext hdl
            have hi2 : ∀ w, (Instr.index 9 (.string s) (.int .i64 3)).run Tryd.prog w = .ok (.int .u8 (c.toNat : Int)) w := hix
            have hd16 : dg c < 16 := by omega
            have HDG := Lib.hid (digit_any c)
            generalize hdd : dg c = d at hnext HDG hc hdl hd16
            have hbd : (d : Int) < 16 := by omega
            have hne : ((d : Int) == 16) = false := by rw [beq_eq_false_iff_ne]; omega
            have hput := hexput m1 d hd16
            have hst := hb1.set 1 (.int .u8 ((UInt8.ofNat (m1.toNat * 16 + d)).toNat : Int))
            rw [bys_set] at hst
            have HST := Lib.hid (show Blo (wr.setCell ⟨w.heap.size + 1, 1, none⟩ (.int .u8 ((m1.toNat : Int) * 16 % 256 + (d : Int)))) (w.heap.size + 1) 22 (bys (mst l 4)).toArray by rw [hput, hnext]; exact hst)
            have HB0' := Lib.hid (HB0.out.far (p := ⟨w.heap.size + 1, 1, none⟩) (by simp) (.int .u8 ((m1.toNat : Int) * 16 % 256 + (d : Int))))
            have HK' := Lib.hid (HK.out.setCell (p := ⟨w.heap.size + 1, 1, none⟩) (fun hl => absurd hl (by simp)) (.int .u8 ((m1.toNat : Int) * 16 % 256 + (d : Int))))
            have x0 := hb1.cell 1
            simp [bys] at x0
            have x1 := hb1.frozen 1
            clear hix hc hcc hdl hd16 hdd hnext hlen hmm hb1 hst hput
            go_wp2_with fail
            refine (HDG.out _).mono ?_
            rintro e w1 ⟨rfl, rfl⟩
            go_wp2
            go_roundw
            case rel => exact ⟨4, by omega, rfl, HOK'.out, HB0'.out, HST.out, HK'.out⟩
            case measure => simp [intOf]
        · rw [show ((4 : Nat) : Int) = 4 from rfl]
          have hix := HIX.out 4 (by omega)
          by_cases hc : dg (l.getD 4 0) = 16
          · have hd := ref_bad l HL.out 4 (by omega) (by unfold bad; rw [if_neg (by decide)]; exact hc)
            have HD := Lib.hid hd
            generalize hcc : l.getD 4 0 = c at hix hc
            have hi2 : ∀ w, (Instr.index 9 (.string s) (.int .i64 4)).run Tryd.prog w = .ok (.int .u8 (c.toNat : Int)) w := hix
            have hdg := digit_any c
            rw [hc] at hdg
            have HDG : Hid (∀ w, Calls Tryd.prog 38 #[.int .u8 (c.toNat : Int)] w fun r w' => r = .returned (.int .i64 16) ∧ w = w') := hdg
            clear hix hc hd hcc hdg
            have y0 := HB0.out.cell 0
            have z0 := HB0.out.frozen 0
            have y1 := HB0.out.cell 1
            have z1 := HB0.out.frozen 1
            have y2 := HB0.out.cell 2
            have z2 := HB0.out.frozen 2
            have y3 := HB0.out.cell 3
            have z3 := HB0.out.frozen 3
            have y4 := HB0.out.cell 4
            have z4 := HB0.out.frozen 4
            have y5 := HB0.out.cell 5
            have z5 := HB0.out.frozen 5
            simp at y0 y1 y2 y3 y4 y5
            go_wp2_with fail
            refine (HDG.out _).mono ?_
            rintro e w1 ⟨rfl, rfl⟩
            go_wp2
            refine bodyPost_ret (v := .tuple #[.agg #[.int .u8 0, .int .u8 0, .int .u8 0, .int .u8 0, .int .u8 0, .int .u8 0], .int .i64 5]) (by simp [results, Tryd.results28, go_sem, y0, y1, y2, y3, y4, y5]) rfl ⟨by rw [HD.out]; rfl, ?_⟩
            exact HK.out.fresh (((((((Kept.refl (fun i => w.heap.size ≤ i) wr).put (Nat.le_refl _) _).put (Nat.le_refl _) _).put (Nat.le_refl _) _).put (Nat.le_refl _) _).put (Nat.le_refl _) _).put (Nat.le_refl _) _) (fun i hi => hi)
          · have HOK' := Lib.hid (show ∀ j, j < 5 → ¬ bad l j from fun j hj => by
              by_cases hjj : j = 4
              · subst hjj; unfold bad; rw [if_neg (by decide)]; exact hc
              · exact HOK.out j (by omega))
            have hnext := mst_dig l 4 (by decide)
            have hlen := mst_len l 4
            obtain ⟨m0, m1, m2, m3, m4, m5, hmm⟩ := six (mst l 4) hlen
            have hb1 := HB1.out
            rw [hmm] at hnext hb1
            have hdl := dg_le (l.getD 4 0)
            generalize hcc : l.getD 4 0 = c at hix hc hnext hdl
            have hi2 : ∀ w, (Instr.index 9 (.string s) (.int .i64 4)).run Tryd.prog w = .ok (.int .u8 (c.toNat : Int)) w := hix
            have hd16 : dg c < 16 := by omega
            have HDG := Lib.hid (digit_any c)
            generalize hdd : dg c = d at hnext HDG hc hdl hd16
            have hbd : (d : Int) < 16 := by omega
            have hne : ((d : Int) == 16) = false := by rw [beq_eq_false_iff_ne]; omega
            have hput := hexput m1 d hd16
            have hst := hb1.set 1 (.int .u8 ((UInt8.ofNat (m1.toNat * 16 + d)).toNat : Int))
            rw [bys_set] at hst
            have HST := Lib.hid (show Blo (wr.setCell ⟨w.heap.size + 1, 1, none⟩ (.int .u8 ((m1.toNat : Int) * 16 % 256 + (d : Int)))) (w.heap.size + 1) 22 (bys (mst l 5)).toArray by rw [hput, hnext]; exact hst)
            have HB0' := Lib.hid (HB0.out.far (p := ⟨w.heap.size + 1, 1, none⟩) (by simp) (.int .u8 ((m1.toNat : Int) * 16 % 256 + (d : Int))))
            have HK' := Lib.hid (HK.out.setCell (p := ⟨w.heap.size + 1, 1, none⟩) (fun hl => absurd hl (by simp)) (.int .u8 ((m1.toNat : Int) * 16 % 256 + (d : Int))))
            have x0 := hb1.cell 1
            simp [bys] at x0
            have x1 := hb1.frozen 1
            clear hix hc hcc hdl hd16 hdd hnext hlen hmm hb1 hst hput
            go_wp2_with fail
            refine (HDG.out _).mono ?_
            rintro e w1 ⟨rfl, rfl⟩
            go_wp2
            go_roundw
            case rel => exact ⟨5, by omega, rfl, HOK'.out, HB0'.out, HST.out, HK'.out⟩
            case measure => simp [intOf]
        · rw [show ((5 : Nat) : Int) = 5 from rfl]
          have hix := HIX.out 5 (by omega)
          by_cases hc : l.getD 5 0 = 58
          · rw [hc] at hix
            have hi2 : ∀ w, (Instr.index 9 (.string s) (.int .i64 5)).run Tryd.prog w = .ok (.int .u8 58) w := hix
            have HOK' := Lib.hid (show ∀ j, j < 6 → ¬ bad l j from fun j hj => by
              by_cases hjj : j = 5
              · subst hjj; unfold bad; rw [if_pos rfl]; exact fun h => h hc
              · exact HOK.out j (by omega))
            have HB1' : Hid (Blo wr (w.heap.size + 1) 22 (bys (mst l 6)).toArray) := by unfold Hid; rw [mst_col l 5 rfl]; exact HB1.out
            clear hix hc
            go_wp2
            go_roundw
            case rel => exact ⟨6, by omega, rfl, HOK'.out, HB0.out, HB1'.out, HK.out⟩
            case measure => simp [intOf]
          · have hd := ref_bad l HL.out 5 (by omega) (by unfold bad; rw [if_pos rfl]; exact hc)
            have HD := Lib.hid hd
            generalize hcc : l.getD 5 0 = c at hix hc
            have hi2 : ∀ w, (Instr.index 9 (.string s) (.int .i64 5)).run Tryd.prog w = .ok (.int .u8 (c.toNat : Int)) w := hix
            have hne : ((c.toNat : Int) == 58) = false := by rw [beq_eq_false_iff_ne]; intro h; exact hc (UInt8.toNat_inj.1 (by show c.toNat = 58; omega))
            clear hix hc hd hcc
            have y0 := HB0.out.cell 0
            have z0 := HB0.out.frozen 0
            have y1 := HB0.out.cell 1
            have z1 := HB0.out.frozen 1
            have y2 := HB0.out.cell 2
            have z2 := HB0.out.frozen 2
            have y3 := HB0.out.cell 3
            have z3 := HB0.out.frozen 3
            have y4 := HB0.out.cell 4
            have z4 := HB0.out.frozen 4
            have y5 := HB0.out.cell 5
            have z5 := HB0.out.frozen 5
            simp at y0 y1 y2 y3 y4 y5
            go_wp2
            refine bodyPost_ret (v := .tuple #[.agg #[.int .u8 0, .int .u8 0, .int .u8 0, .int .u8 0, .int .u8 0, .int .u8 0], .int .i64 5]) (by simp [results, Tryd.results28, go_sem, y0, y1, y2, y3, y4, y5]) rfl ⟨by rw [HD.out]; rfl, ?_⟩
            exact HK.out.fresh (((((((Kept.refl (fun i => w.heap.size ≤ i) wr).put (Nat.le_refl _) _).put (Nat.le_refl _) _).put (Nat.le_refl _) _).put (Nat.le_refl _) _).put (Nat.le_refl _) _).put (Nat.le_refl _) _) (fun i hi => hi)
        · rw [show ((6 : Nat) : Int) = 6 from rfl]
          have hix := HIX.out 6 (by omega)
          by_cases hc : dg (l.getD 6 0) = 16
          · have hd := ref_bad l HL.out 6 (by omega) (by unfold bad; rw [if_neg (by decide)]; exact hc)
            have HD := Lib.hid hd
            generalize hcc : l.getD 6 0 = c at hix hc
            have hi2 : ∀ w, (Instr.index 9 (.string s) (.int .i64 6)).run Tryd.prog w = .ok (.int .u8 (c.toNat : Int)) w := hix
            have hdg := digit_any c
            rw [hc] at hdg
            have HDG : Hid (∀ w, Calls Tryd.prog 38 #[.int .u8 (c.toNat : Int)] w fun r w' => r = .returned (.int .i64 16) ∧ w = w') := hdg
            clear hix hc hd hcc hdg
            have y0 := HB0.out.cell 0
            have z0 := HB0.out.frozen 0
            have y1 := HB0.out.cell 1
            have z1 := HB0.out.frozen 1
            have y2 := HB0.out.cell 2
            have z2 := HB0.out.frozen 2
            have y3 := HB0.out.cell 3
            have z3 := HB0.out.frozen 3
            have y4 := HB0.out.cell 4
            have z4 := HB0.out.frozen 4
            have y5 := HB0.out.cell 5
            have z5 := HB0.out.frozen 5
            simp at y0 y1 y2 y3 y4 y5
            go_wp2_with fail
            refine (HDG.out _).mono ?_
            rintro e w1 ⟨rfl, rfl⟩
            go_wp2
            refine bodyPost_ret (v := .tuple #[.agg #[.int .u8 0, .int .u8 0, .int .u8 0, .int .u8 0, .int .u8 0, .int .u8 0], .int .i64 5]) (by simp [results, Tryd.results28, go_sem, y0, y1, y2, y3, y4, y5]) rfl ⟨by rw [HD.out]; rfl, ?_⟩
            exact HK.out.fresh (((((((Kept.refl (fun i => w.heap.size ≤ i) wr).put (Nat.le_refl _) _).put (Nat.le_refl _) _).put (Nat.le_refl _) _).put (Nat.le_refl _) _).put (Nat.le_refl _) _).put (Nat.le_refl _) _) (fun i hi => hi)
          · have HOK' := Lib.hid (show ∀ j, j < 7 → ¬ bad l j from fun j hj => by
              by_cases hjj : j = 6
              · subst hjj; unfold bad; rw [if_neg (by decide)]; exact hc
              · exact HOK.out j (by omega))
            have hnext := mst_dig l 6 (by decide)
            have hlen := mst_len l 6
            obtain ⟨m0, m1, m2, m3, m4, m5, hmm⟩ := six (mst l 6) hlen
            have hb1 := HB1.out
            rw [hmm] at hnext hb1
            have hdl := dg_le (l.getD 6 0)
            generalize hcc : l.getD 6 0 = c at hix hc hnext hdl
            have hi2 : ∀ w, (Instr.index 9 (.string s) (.int .i64 6)).run Tryd.prog w = .ok (.int .u8 (c.toNat : Int)) w := hix
            have hd16 : dg c < 16 := by omega
            have HDG := Lib.hid (digit_any c)
            generalize hdd : dg c = d at hnext HDG hc hdl hd16
            have hbd : (d : Int) < 16 := by omega
            have hne : ((d : Int) == 16) = false := by rw [beq_eq_false_iff_ne]; omega
            have hput := hexput m2 d hd16
            have hst := hb1.set 2 (.int .u8 ((UInt8.ofNat (m2.toNat * 16 + d)).toNat : Int))
            rw [bys_set] at hst
            have HST := Lib.hid (show Blo (wr.setCell ⟨w.heap.size + 1, 2, none⟩ (.int .u8 ((m2.toNat : Int) * 16 % 256 + (d : Int)))) (w.heap.size + 1) 22 (bys (mst l 7)).toArray by rw [hput, hnext]; exact hst)
            have HB0' := Lib.hid (HB0.out.far (p := ⟨w.heap.size + 1, 2, none⟩) (by simp) (.int .u8 ((m2.toNat : Int) * 16 % 256 + (d : Int))))
            have HK' := Lib.hid (HK.out.setCell (p := ⟨w.heap.size + 1, 2, none⟩) (fun hl => absurd hl (by simp)) (.int .u8 ((m2.toNat : Int) * 16 % 256 + (d : Int))))
            have x0 := hb1.cell 2
            simp [bys] at x0
            have x1 := hb1.frozen 2
            clear hix hc hcc hdl hd16 hdd hnext hlen hmm hb1 hst hput
            go_wp2_with fail
            refine (HDG.out _).mono ?_
            rintro e w1 ⟨rfl, rfl⟩
            go_wp2
            go_roundw
            case rel => exact ⟨7, by omega, rfl, HOK'.out, HB0'.out, HST.out, HK'.out⟩
            case measure => simp [intOf]
        · rw [show ((7 : Nat) : Int) = 7 from rfl]
          have hix := HIX.out 7 (by omega)
          by_cases hc : dg (l.getD 7 0) = 16
          · have hd := ref_bad l HL.out 7 (by omega) (by unfold bad; rw [if_neg (by decide)]; exact hc)
            have HD := Lib.hid hd
            generalize hcc : l.getD 7 0 = c at hix hc
            have hi2 : ∀ w, (Instr.index 9 (.string s) (.int .i64 7)).run Tryd.prog w = .ok (.int .u8 (c.toNat : Int)) w := hix
            have hdg := digit_any c
            rw [hc] at hdg
            have HDG : Hid (∀ w, Calls Tryd.prog 38 #[.int .u8 (c.toNat : Int)] w fun r w' => r = .returned (.int .i64 16) ∧ w = w') := hdg
            clear hix hc hd hcc hdg
            have y0 := HB0.out.cell 0
            have z0 := HB0.out.frozen 0
            have y1 := HB0.out.cell 1
            have z1 := HB0.out.frozen 1
            have y2 := HB0.out.cell 2
            have z2 := HB0.out.frozen 2
            have y3 := HB0.out.cell 3
            have z3 := HB0.out.frozen 3
            have y4 := HB0.out.cell 4
            have z4 := HB0.out.frozen 4
            have y5 := HB0.out.cell 5
            have z5 := HB0.out.frozen 5
            simp at y0 y1 y2 y3 y4 y5
            go_wp2_with fail
            refine (HDG.out _).mono ?_
            rintro e w1 ⟨rfl, rfl⟩
            go_wp2
            refine bodyPost_ret (v := .tuple #[.agg #[.int .u8 0, .int .u8 0, .int .u8 0, .int .u8 0, .int .u8 0, .int .u8 0], .int .i64 5]) (by simp [results, Tryd.results28, go_sem, y0, y1, y2, y3, y4, y5]) rfl ⟨by rw [HD.out]; rfl, ?_⟩
            exact HK.out.fresh (((((((Kept.refl (fun i => w.heap.size ≤ i) wr).put (Nat.le_refl _) _).put (Nat.le_refl _) _).put (Nat.le_refl _) _).put (Nat.le_refl _) _).put (Nat.le_refl _) _).put (Nat.le_refl _) _) (fun i hi => hi)
          · have HOK' := Lib.hid (show ∀ j, j < 8 → ¬ bad l j from fun j hj => by
              by_cases hjj : j = 7
              · subst hjj; unfold bad; rw [if_neg (by decide)]; exact hc
              · exact HOK.out j (by omega))
            have hnext := mst_dig l 7 (by decide)
            have hlen := mst_len l 7
            obtain ⟨m0, m1, m2, m3, m4, m5, hmm⟩ := six (mst l 7) hlen
            have hb1 := HB1.out
            rw [hmm] at hnext hb1
            have hdl := dg_le (l.getD 7 0)
            generalize hcc : l.getD 7 0 = c at hix hc hnext hdl
            have hi2 : ∀ w, (Instr.index 9 (.string s) (.int .i64 7)).run Tryd.prog w = .ok (.int .u8 (c.toNat : Int)) w := hix
            have hd16 : dg c < 16 := by omega
            have HDG := Lib.hid (digit_any c)
            generalize hdd : dg c = d at hnext HDG hc hdl hd16
            have hbd : (d : Int) < 16 := by omega
            have hne : ((d : Int) == 16) = false := by rw [beq_eq_false_iff_ne]; omega
            have hput := hexput m2 d hd16
            have hst := hb1.set 2 (.int .u8 ((UInt8.ofNat (m2.toNat * 16 + d)).toNat : Int))
            rw [bys_set] at hst
            have HST := Lib.hid (show Blo (wr.setCell ⟨w.heap.size + 1, 2, none⟩ (.int .u8 ((m2.toNat : Int) * 16 % 256 + (d : Int)))) (w.heap.size + 1) 22 (bys (mst l 8)).toArray by rw [hput, hnext]; exact hst)
            have HB0' := Lib.hid (HB0.out.far (p := ⟨w.heap.size + 1, 2, none⟩) (by simp) (.int .u8 ((m2.toNat : Int) * 16 % 256 + (d : Int))))
            have HK' := Lib.hid (HK.out.setCell (p := ⟨w.heap.size + 1, 2, none⟩) (fun hl => absurd hl (by simp)) (.int .u8 ((m2.toNat : Int) * 16 % 256 + (d : Int))))
            have x0 := hb1.cell 2
            simp [bys] at x0
            have x1 := hb1.frozen 2
            clear hix hc hcc hdl hd16 hdd hnext hlen hmm hb1 hst hput
            go_wp2_with fail
            refine (HDG.out _).mono ?_
            rintro e w1 ⟨rfl, rfl⟩
            go_wp2
            go_roundw
            case rel => exact ⟨8, by omega, rfl, HOK'.out, HB0'.out, HST.out, HK'.out⟩
            case measure => simp [intOf]
        · rw [show ((8 : Nat) : Int) = 8 from rfl]
          have hix := HIX.out 8 (by omega)
          by_cases hc : l.getD 8 0 = 58
          · rw [hc] at hix
            have hi2 : ∀ w, (Instr.index 9 (.string s) (.int .i64 8)).run Tryd.prog w = .ok (.int .u8 58) w := hix
            have HOK' := Lib.hid (show ∀ j, j < 9 → ¬ bad l j from fun j hj => by
              by_cases hjj : j = 8
              · subst hjj; unfold bad; rw [if_pos rfl]; exact fun h => h hc
              · exact HOK.out j (by omega))
            have HB1' : Hid (Blo wr (w.heap.size + 1) 22 (bys (mst l 9)).toArray) := by unfold Hid; rw [mst_col l 8 rfl]; exact HB1.out
            clear hix hc
            go_wp2
            go_roundw
            case rel => exact ⟨9, by omega, rfl, HOK'.out, HB0.out, HB1'.out, HK.out⟩
            case measure => simp [intOf]
          · have hd := ref_bad l HL.out 8 (by omega) (by unfold bad; rw [if_pos rfl]; exact hc)
            have HD := Lib.hid hd
            generalize hcc : l.getD 8 0 = c at hix hc
            have hi2 : ∀ w, (Instr.index 9 (.string s) (.int .i64 8)).run Tryd.prog w = .ok (.int .u8 (c.toNat : Int)) w := hix
            have hne : ((c.toNat : Int) == 58) = false := by rw [beq_eq_false_iff_ne]; intro h; exact hc (UInt8.toNat_inj.1 (by show c.toNat = 58; omega))
            clear hix hc hd hcc
            have y0 := HB0.out.cell 0
            have z0 := HB0.out.frozen 0
            have y1 := HB0.out.cell 1
            have z1 := HB0.out.frozen 1
            have y2 := HB0.out.cell 2
            have z2 := HB0.out.frozen 2
            have y3 := HB0.out.cell 3
            have z3 := HB0.out.frozen 3
            have y4 := HB0.out.cell 4
            have z4 := HB0.out.frozen 4
            have y5 := HB0.out.cell 5
            have z5 := HB0.out.frozen 5
            simp at y0 y1 y2 y3 y4 y5
            go_wp2
            refine bodyPost_ret (v := .tuple #[.agg #[.int .u8 0, .int .u8 0, .int .u8 0, .int .u8 0, .int .u8 0, .int .u8 0], .int .i64 5]) (by simp [results, Tryd.results28, go_sem, y0, y1, y2, y3, y4, y5]) rfl ⟨by rw [HD.out]; rfl, ?_⟩
            exact HK.out.fresh (((((((Kept.refl (fun i => w.heap.size ≤ i) wr).put (Nat.le_refl _) _).put (Nat.le_refl _) _).put (Nat.le_refl _) _).put (Nat.le_refl _) _).put (Nat.le_refl _) _).put (Nat.le_refl _) _) (fun i hi => hi)
        · rw [show ((9 : Nat) : Int) = 9 from rfl]
          have hix := HIX.out 9 (by omega)
          by_cases hc : dg (l.getD 9 0) = 16
          · have hd := ref_bad l HL.out 9 (by omega) (by unfold bad; rw [if_neg (by decide)]; exact hc)
            have HD := Lib.hid hd
            generalize hcc : l.getD 9 0 = c at hix hc
            have hi2 : ∀ w, (Instr.index 9 (.string s) (.int .i64 9)).run Tryd.prog w = .ok (.int .u8 (c.toNat : Int)) w := hix
            have hdg := digit_any c
            rw [hc] at hdg
            have HDG : Hid (∀ w, Calls Tryd.prog 38 #[.int .u8 (c.toNat : Int)] w fun r w' => r = .returned (.int .i64 16) ∧ w = w') := hdg
            clear hix hc hd hcc hdg
            have y0 := HB0.out.cell 0
            have z0 := HB0.out.frozen 0
            have y1 := HB0.out.cell 1
            have z1 := HB0.out.frozen 1
            have y2 := HB0.out.cell 2
            have z2 := HB0.out.frozen 2
            have y3 := HB0.out.cell 3
            have z3 := HB0.out.frozen 3
            have y4 := HB0.out.cell 4
            have z4 := HB0.out.frozen 4
            have y5 := HB0.out.cell 5
            have z5 := HB0.out.frozen 5
            simp at y0 y1 y2 y3 y4 y5
            go_wp2_with fail
            refine (HDG.out _).mono ?_
            rintro e w1 ⟨rfl, rfl⟩
            go_wp2
            refine bodyPost_ret (v := .tuple #[.agg #[.int .u8 0, .int .u8 0, .int .u8 0, .int .u8 0, .int .u8 0, .int .u8 0], .int .i64 5]) (by simp [results, Tryd.results28, go_sem, y0, y1, y2, y3, y4, y5]) rfl ⟨by rw [HD.out]; rfl, ?_⟩
            exact HK.out.fresh (((((((Kept.refl (fun i => w.heap.size ≤ i) wr).put (Nat.le_refl _) _).put (Nat.le_refl _) _).put (Nat.le_refl _) _).put (Nat.le_refl _) _).put (Nat.le_refl _) _).put (Nat.le_refl _) _) (fun i hi => hi)
          · have HOK' := Lib.hid (show ∀ j, j < 10 → ¬ bad l j from fun j hj => by
              by_cases hjj : j = 9
              · subst hjj; unfold bad; rw [if_neg (by decide)]; exact hc
              · exact HOK.out j (by omega))
            have hnext := mst_dig l 9 (by decide)
            have hlen := mst_len l 9
            obtain ⟨m0, m1, m2, m3, m4, m5, hmm⟩ := six (mst l 9) hlen
            have hb1 := HB1.out
            rw [hmm] at hnext hb1
            have hdl := dg_le (l.getD 9 0)
            generalize hcc : l.getD 9 0 = c at hix hc hnext hdl
            have hi2 : ∀ w, (Instr.index 9 (.string s) (.int .i64 9)).run Tryd.prog w = .ok (.int .u8 (c.toNat : Int)) w := hix
            have hd16 : dg c < 16 := by omega
            have HDG := Lib.hid (digit_any c)
            generalize hdd : dg c = d at hnext HDG hc hdl hd16
            have hbd : (d : Int) < 16 := by omega
            have hne : ((d : Int) == 16) = false := by rw [beq_eq_false_iff_ne]; omega
            have hput := hexput m3 d hd16
            have hst := hb1.set 3 (.int .u8 ((UInt8.ofNat (m3.toNat * 16 + d)).toNat : Int))
            rw [bys_set] at hst
            have HST := Lib.hid (show Blo (wr.setCell ⟨w.heap.size + 1, 3, none⟩ (.int .u8 ((m3.toNat : Int) * 16 % 256 + (d : Int)))) (w.heap.size + 1) 22 (bys (mst l 10)).toArray by rw [hput, hnext]; exact hst)
            have HB0' := Lib.hid (HB0.out.far (p := ⟨w.heap.size + 1, 3, none⟩) (by simp) (.int .u8 ((m3.toNat : Int) * 16 % 256 + (d : Int))))
            have HK' := Lib.hid (HK.out.setCell (p := ⟨w.heap.size + 1, 3, none⟩) (fun hl => absurd hl (by simp)) (.int .u8 ((m3.toNat : Int) * 16 % 256 + (d : Int))))
            have x0 := hb1.cell 3
            simp [bys] at x0
            have x1 := hb1.frozen 3
            clear hix hc hcc hdl hd16 hdd hnext hlen hmm hb1 hst hput
            go_wp2_with fail
            refine (HDG.out _).mono ?_
            rintro e w1 ⟨rfl, rfl⟩
            go_wp2
            go_roundw
            case rel => exact ⟨10, by omega, rfl, HOK'.out, HB0'.out, HST.out, HK'.out⟩
            case measure => simp [intOf]
        · rw [show ((10 : Nat) : Int) = 10 from rfl]
          have hix := HIX.out 10 (by omega)
          by_cases hc : dg (l.getD 10 0) = 16
          · have hd := ref_bad l HL.out 10 (by omega) (by unfold bad; rw [if_neg (by decide)]; exact hc)
            have HD := Lib.hid hd
            generalize hcc : l.getD 10 0 = c at hix hc
            have hi2 : ∀ w, (Instr.index 9 (.string s) (.int .i64 10)).run Tryd.prog w = .ok (.int .u8 (c.toNat : Int)) w := hix
            have hdg := digit_any c
            rw [hc] at hdg
            have HDG : Hid (∀ w, Calls Tryd.prog 38 #[.int .u8 (c.toNat : Int)] w fun r w' => r = .returned (.int .i64 16) ∧ w = w') := hdg
            clear hix hc hd hcc hdg
            have y0 := HB0.out.cell 0
            have z0 := HB0.out.frozen 0
            have y1 := HB0.out.cell 1
            have z1 := HB0.out.frozen 1
            have y2 := HB0.out.cell 2
            have z2 := HB0.out.frozen 2
            have y3 := HB0.out.cell 3
            have z3 := HB0.out.frozen 3
            have y4 := HB0.out.cell 4
            have z4 := HB0.out.frozen 4
            have y5 := HB0.out.cell 5
            have z5 := HB0.out.frozen 5
            simp at y0 y1 y2 y3 y4 y5
            go_wp2_with fail
            refine (HDG.out _).mono ?_
            rintro e w1 ⟨rfl, rfl⟩
            go_wp2
            refine bodyPost_ret (v := .tuple #[.agg #[.int .u8 0, .int .u8 0, .int .u8 0, .int .u8 0, .int .u8 0, .int .u8 0], .int .i64 5]) (by simp [results, Tryd.results28, go_sem, y0, y1, y2, y3, y4, y5]) rfl ⟨by rw [HD.out]; rfl, ?_⟩
            exact HK.out.fresh (((((((Kept.refl (fun i => w.heap.size ≤ i) wr).put (Nat.le_refl _) _).put (Nat.le_refl _) _).put (Nat.le_refl _) _).put (Nat.le_refl _) _).put (Nat.le_refl _) _).put (Nat.le_refl _) _) (fun i hi => hi)
          · have HOK' := Lib.hid (show ∀ j, j < 11 → ¬ bad l j from fun j hj => by
              by_cases hjj : j = 10
              · subst hjj; unfold bad; rw [if_neg (by decide)]; exact hc
              · exact HOK.out j (by omega))
            have hnext := mst_dig l 10 (by decide)
            have hlen := mst_len l 10
            obtain ⟨m0, m1, m2, m3, m4, m5, hmm⟩ := six (mst l 10) hlen
            have hb1 := HB1.out
            rw [hmm] at hnext hb1
            have hdl := dg_le (l.getD 10 0)
            generalize hcc : l.getD 10 0 = c at hix hc hnext hdl
            have hi2 : ∀ w, (Instr.index 9 (.string s) (.int .i64 10)).run Tryd.prog w = .ok (.int .u8 (c.toNat : Int)) w := hix
            have hd16 : dg c < 16 := by omega
            have HDG := Lib.hid (digit_any c)
            generalize hdd : dg c = d at hnext HDG hc hdl hd16
            have hbd : (d : Int) < 16 := by omega
            have hne : ((d : Int) == 16) = false := by rw [beq_eq_false_iff_ne]; omega
            have hput := hexput m3 d hd16
            have hst := hb1.set 3 (.int .u8 ((UInt8.ofNat (m3.toNat * 16 + d)).toNat : Int))
            rw [bys_set] at hst
            have HST := Lib.hid (show Blo (wr.setCell ⟨w.heap.size + 1, 3, none⟩ (.int .u8 ((m3.toNat : Int) * 16 % 256 + (d : Int)))) (w.heap.size + 1) 22 (bys (mst l 11)).toArray by rw [hput, hnext]; exact hst)
            have HB0' := Lib.hid (HB0.out.far (p := ⟨w.heap.size + 1, 3, none⟩) (by simp) (.int .u8 ((m3.toNat : Int) * 16 % 256 + (d : Int))))
            have HK' := Lib.hid (HK.out.setCell (p := ⟨w.heap.size + 1, 3, none⟩) (fun hl => absurd hl (by simp)) (.int .u8 ((m3.toNat : Int) * 16 % 256 + (d : Int))))
            have x0 := hb1.cell 3
            simp [bys] at x0
            have x1 := hb1.frozen 3
            clear hix hc hcc hdl hd16 hdd hnext hlen hmm hb1 hst hput
            go_wp2_with fail
            refine (HDG.out _).mono ?_
            rintro e w1 ⟨rfl, rfl⟩
            go_wp2
            go_roundw
            case rel => exact ⟨11, by omega, rfl, HOK'.out, HB0'.out, HST.out, HK'.out⟩
            case measure => simp [intOf]
        · rw [show ((11 : Nat) : Int) = 11 from rfl]
          have hix := HIX.out 11 (by omega)
          by_cases hc : l.getD 11 0 = 58
          · rw [hc] at hix
            have hi2 : ∀ w, (Instr.index 9 (.string s) (.int .i64 11)).run Tryd.prog w = .ok (.int .u8 58) w := hix
            have HOK' := Lib.hid (show ∀ j, j < 12 → ¬ bad l j from fun j hj => by
              by_cases hjj : j = 11
              · subst hjj; unfold bad; rw [if_pos rfl]; exact fun h => h hc
              · exact HOK.out j (by omega))
            have HB1' : Hid (Blo wr (w.heap.size + 1) 22 (bys (mst l 12)).toArray) := by unfold Hid; rw [mst_col l 11 rfl]; exact HB1.out
            clear hix hc
            go_wp2
            go_roundw
            case rel => exact ⟨12, by omega, rfl, HOK'.out, HB0.out, HB1'.out, HK.out⟩
            case measure => simp [intOf]
          · have hd := ref_bad l HL.out 11 (by omega) (by unfold bad; rw [if_pos rfl]; exact hc)
            have HD := Lib.hid hd
            generalize hcc : l.getD 11 0 = c at hix hc
            have hi2 : ∀ w, (Instr.index 9 (.string s) (.int .i64 11)).run Tryd.prog w = .ok (.int .u8 (c.toNat : Int)) w := hix
            have hne : ((c.toNat : Int) == 58) = false := by rw [beq_eq_false_iff_ne]; intro h; exact hc (UInt8.toNat_inj.1 (by show c.toNat = 58; omega))
            clear hix hc hd hcc
            have y0 := HB0.out.cell 0
            have z0 := HB0.out.frozen 0
            have y1 := HB0.out.cell 1
            have z1 := HB0.out.frozen 1
            have y2 := HB0.out.cell 2
            have z2 := HB0.out.frozen 2
            have y3 := HB0.out.cell 3
            have z3 := HB0.out.frozen 3
            have y4 := HB0.out.cell 4
            have z4 := HB0.out.frozen 4
            have y5 := HB0.out.cell 5
            have z5 := HB0.out.frozen 5
            simp at y0 y1 y2 y3 y4 y5
            go_wp2
            refine bodyPost_ret (v := .tuple #[.agg #[.int .u8 0, .int .u8 0, .int .u8 0, .int .u8 0, .int .u8 0, .int .u8 0], .int .i64 5]) (by simp [results, Tryd.results28, go_sem, y0, y1, y2, y3, y4, y5]) rfl ⟨by rw [HD.out]; rfl, ?_⟩
            exact HK.out.fresh (((((((Kept.refl (fun i => w.heap.size ≤ i) wr).put (Nat.le_refl _) _).put (Nat.le_refl _) _).put (Nat.le_refl _) _).put (Nat.le_refl _) _).put (Nat.le_refl _) _).put (Nat.le_refl _) _) (fun i hi => hi)
        · rw [show ((12 : Nat) : Int) = 12 from rfl]
          have hix := HIX.out 12 (by omega)
          by_cases hc : dg (l.getD 12 0) = 16
          · have hd := ref_bad l HL.out 12 (by omega) (by unfold bad; rw [if_neg (by decide)]; exact hc)
            have HD := Lib.hid hd
            generalize hcc : l.getD 12 0 = c at hix hc
            have hi2 : ∀ w, (Instr.index 9 (.string s) (.int .i64 12)).run Tryd.prog w = .ok (.int .u8 (c.toNat : Int)) w := hix
            have hdg := digit_any c
            rw [hc] at hdg
            have HDG : Hid (∀ w, Calls Tryd.prog 38 #[.int .u8 (c.toNat : Int)] w fun r w' => r = .returned (.int .i64 16) ∧ w = w') := hdg
            clear hix hc hd hcc hdg
            have y0 := HB0.out.cell 0
            have z0 := HB0.out.frozen 0
            have y1 := HB0.out.cell 1
            have z1 := HB0.out.frozen 1
            have y2 := HB0.out.cell 2
            have z2 := HB0.out.frozen 2
            have y3 := HB0.out.cell 3
            have z3 := HB0.out.frozen 3
            have y4 := HB0.out.cell 4
            have z4 := HB0.out.frozen 4
            have y5 := HB0.out.cell 5
            have z5 := HB0.out.frozen 5
            simp at y0 y1 y2 y3 y4 y5
            go_wp2_with fail
            refine (HDG.out _).mono ?_
            rintro e w1 ⟨rfl, rfl⟩
            go_wp2
            refine bodyPost_ret (v := .tuple #[.agg #[.int .u8 0, .int .u8 0, .int .u8 0, .int .u8 0, .int .u8 0, .int .u8 0], .int .i64 5]) (by simp [results, Tryd.results28, go_sem, y0, y1, y2, y3, y4, y5]) rfl ⟨by rw [HD.out]; rfl, ?_⟩
            exact HK.out.fresh (((((((Kept.refl (fun i => w.heap.size ≤ i) wr).put (Nat.le_refl _) _).put (Nat.le_refl _) _).put (Nat.le_refl _) _).put (Nat.le_refl _) _).put (Nat.le_refl _) _).put (Nat.le_refl _) _) (fun i hi => hi)
          · have HOK' := Lib.hid (show ∀ j, j < 13 → ¬ bad l j from fun j hj => by
              by_cases hjj : j = 12
              · subst hjj; unfold bad; rw [if_neg (by decide)]; exact hc
              · exact HOK.out j (by omega))
            have hnext := mst_dig l 12 (by decide)
            have hlen := mst_len l 12
            obtain ⟨m0, m1, m2, m3, m4, m5, hmm⟩ := six (mst l 12) hlen
            have hb1 := HB1.out
            rw [hmm] at hnext hb1
            have hdl := dg_le (l.getD 12 0)
            generalize hcc : l.getD 12 0 = c at hix hc hnext hdl
            have hi2 : ∀ w, (Instr.index 9 (.string s) (.int .i64 12)).run Tryd.prog w = .ok (.int .u8 (c.toNat : Int)) w := hix
            have hd16 : dg c < 16 := by omega
            have HDG := Lib.hid (digit_any c)
            generalize hdd : dg c = d at hnext HDG hc hdl hd16
            have hbd : (d : Int) < 16 := by omega
            have hne : ((d : Int) == 16) = false := by rw [beq_eq_false_iff_ne]; omega
            have hput := hexput m4 d hd16
            have hst := hb1.set 4 (.int .u8 ((UInt8.ofNat (m4.toNat * 16 + d)).toNat : Int))
            rw [bys_set] at hst
            have HST := Lib.hid (show Blo (wr.setCell ⟨w.heap.size + 1, 4, none⟩ (.int .u8 ((m4.toNat : Int) * 16 % 256 + (d : Int)))) (w.heap.size + 1) 22 (bys (mst l 13)).toArray by rw [hput, hnext]; exact hst)
            have HB0' := Lib.hid (HB0.out.far (p := ⟨w.heap.size + 1, 4, none⟩) (by simp) (.int .u8 ((m4.toNat : Int) * 16 % 256 + (d : Int))))
            have HK' := Lib.hid (HK.out.setCell (p := ⟨w.heap.size + 1, 4, none⟩) (fun hl => absurd hl (by simp)) (.int .u8 ((m4.toNat : Int) * 16 % 256 + (d : Int))))
            have x0 := hb1.cell 4
            simp [bys] at x0
            have x1 := hb1.frozen 4
            clear hix hc hcc hdl hd16 hdd hnext hlen hmm hb1 hst hput
            go_wp2_with fail
            refine (HDG.out _).mono ?_
            rintro e w1 ⟨rfl, rfl⟩
            go_wp2
            go_roundw
            case rel => exact ⟨13, by omega, rfl, HOK'.out, HB0'.out, HST.out, HK'.out⟩
            case measure => simp [intOf]
        · rw [show ((13 : Nat) : Int) = 13 from rfl]
          have hix := HIX.out 13 (by omega)
          by_cases hc : dg (l.getD 13 0) = 16
          · have hd := ref_bad l HL.out 13 (by omega) (by unfold bad; rw [if_neg (by decide)]; exact hc)
            have HD := Lib.hid hd
            generalize hcc : l.getD 13 0 = c at hix hc
            have hi2 : ∀ w, (Instr.index 9 (.string s) (.int .i64 13)).run Tryd.prog w = .ok (.int .u8 (c.toNat : Int)) w := hix
            have hdg := digit_any c
            rw [hc] at hdg
            have HDG : Hid (∀ w, Calls Tryd.prog 38 #[.int .u8 (c.toNat : Int)] w fun r w' => r = .returned (.int .i64 16) ∧ w = w') := hdg
            clear hix hc hd hcc hdg
            have y0 := HB0.out.cell 0
            have z0 := HB0.out.frozen 0
            have y1 := HB0.out.cell 1
            have z1 := HB0.out.frozen 1
            have y2 := HB0.out.cell 2
            have z2 := HB0.out.frozen 2
            have y3 := HB0.out.cell 3
            have z3 := HB0.out.frozen 3
            have y4 := HB0.out.cell 4
            have z4 := HB0.out.frozen 4
            have y5 := HB0.out.cell 5
            have z5 := HB0.out.frozen 5
            simp at y0 y1 y2 y3 y4 y5
            go_wp2_with fail
            refine (HDG.out _).mono ?_
            rintro e w1 ⟨rfl, rfl⟩
            go_wp2
            refine bodyPost_ret (v := .tuple #[.agg #[.int .u8 0, .int .u8 0, .int .u8 0, .int .u8 0, .int .u8 0, .int .u8 0], .int .i64 5]) (by simp [results, Tryd.results28, go_sem, y0, y1, y2, y3, y4, y5]) rfl ⟨by rw [HD.out]; rfl, ?_⟩
            exact HK.out.fresh (((((((Kept.refl (fun i => w.heap.size ≤ i) wr).put (Nat.le_refl _) _).put (Nat.le_refl _) _).put (Nat.le_refl _) _).put (Nat.le_refl _) _).put (Nat.le_refl _) _).put (Nat.le_refl _) _) (fun i hi => hi)
          · have HOK' := Lib.hid (show ∀ j, j < 14 → ¬ bad l j from fun j hj => by
              by_cases hjj : j = 13
              · subst hjj; unfold bad; rw [if_neg (by decide)]; exact hc
              · exact HOK.out j (by omega))
            have hnext := mst_dig l 13 (by decide)
            have hlen := mst_len l 13
            obtain ⟨m0, m1, m2, m3, m4, m5, hmm⟩ := six (mst l 13) hlen
            have hb1 := HB1.out
            rw [hmm] at hnext hb1
            have hdl := dg_le (l.getD 13 0)
            generalize hcc : l.getD 13 0 = c at hix hc hnext hdl
            have hi2 : ∀ w, (Instr.index 9 (.string s) (.int .i64 13)).run Tryd.prog w = .ok (.int .u8 (c.toNat : Int)) w := hix
            have hd16 : dg c < 16 := by omega
            have HDG := Lib.hid (digit_any c)
            generalize hdd : dg c = d at hnext HDG hc hdl hd16
            have hbd : (d : Int) < 16 := by omega
            have hne : ((d : Int) == 16) = false := by rw [beq_eq_false_iff_ne]; omega
            have hput := hexput m4 d hd16
            have hst := hb1.set 4 (.int .u8 ((UInt8.ofNat (m4.toNat * 16 + d)).toNat : Int))
            rw [bys_set] at hst
            have HST := Lib.hid (show Blo (wr.setCell ⟨w.heap.size + 1, 4, none⟩ (.int .u8 ((m4.toNat : Int) * 16 % 256 + (d : Int)))) (w.heap.size + 1) 22 (bys (mst l 14)).toArray by rw [hput, hnext]; exact hst)
            have HB0' := Lib.hid (HB0.out.far (p := ⟨w.heap.size + 1, 4, none⟩) (by simp) (.int .u8 ((m4.toNat : Int) * 16 % 256 + (d : Int))))
            have HK' := Lib.hid (HK.out.setCell (p := ⟨w.heap.size + 1, 4, none⟩) (fun hl => absurd hl (by simp)) (.int .u8 ((m4.toNat : Int) * 16 % 256 + (d : Int))))
            have x0 := hb1.cell 4
            simp [bys] at x0
            have x1 := hb1.frozen 4
            clear hix hc hcc hdl hd16 hdd hnext hlen hmm hb1 hst hput
            go_wp2_with fail
            refine (HDG.out _).mono ?_
            rintro e w1 ⟨rfl, rfl⟩
            go_wp2
            go_roundw
            case rel => exact ⟨14, by omega, rfl, HOK'.out, HB0'.out, HST.out, HK'.out⟩
            case measure => simp [intOf]
        · rw [show ((14 : Nat) : Int) = 14 from rfl]
          have hix := HIX.out 14 (by omega)
          by_cases hc : l.getD 14 0 = 58
          · rw [hc] at hix
            have hi2 : ∀ w, (Instr.index 9 (.string s) (.int .i64 14)).run Tryd.prog w = .ok (.int .u8 58) w := hix
            have HOK' := Lib.hid (show ∀ j, j < 15 → ¬ bad l j from fun j hj => by
              by_cases hjj : j = 14
              · subst hjj; unfold bad; rw [if_pos rfl]; exact fun h => h hc
              · exact HOK.out j (by omega))
            have HB1' : Hid (Blo wr (w.heap.size + 1) 22 (bys (mst l 15)).toArray) := by unfold Hid; rw [mst_col l 14 rfl]; exact HB1.out
            clear hix hc
            go_wp2
            go_roundw
            case rel => exact ⟨15, by omega, rfl, HOK'.out, HB0.out, HB1'.out, HK.out⟩
            case measure => simp [intOf]
          · have hd := ref_bad l HL.out 14 (by omega) (by unfold bad; rw [if_pos rfl]; exact hc)
            have HD := Lib.hid hd
            generalize hcc : l.getD 14 0 = c at hix hc
            have hi2 : ∀ w, (Instr.index 9 (.string s) (.int .i64 14)).run Tryd.prog w = .ok (.int .u8 (c.toNat : Int)) w := hix
            have hne : ((c.toNat : Int) == 58) = false := by rw [beq_eq_false_iff_ne]; intro h; exact hc (UInt8.toNat_inj.1 (by show c.toNat = 58; omega))
            clear hix hc hd hcc
            have y0 := HB0.out.cell 0
            have z0 := HB0.out.frozen 0
            have y1 := HB0.out.cell 1
            have z1 := HB0.out.frozen 1
            have y2 := HB0.out.cell 2
            have z2 := HB0.out.frozen 2
            have y3 := HB0.out.cell 3
            have z3 := HB0.out.frozen 3
            have y4 := HB0.out.cell 4
            have z4 := HB0.out.frozen 4
            have y5 := HB0.out.cell 5
            have z5 := HB0.out.frozen 5
            simp at y0 y1 y2 y3 y4 y5
            go_wp2
            refine bodyPost_ret (v := .tuple #[.agg #[.int .u8 0, .int .u8 0, .int .u8 0, .int .u8 0, .int .u8 0, .int .u8 0], .int .i64 5]) (by simp [results, Tryd.results28, go_sem, y0, y1, y2, y3, y4, y5]) rfl ⟨by rw [HD.out]; rfl, ?_⟩
            exact HK.out.fresh (((((((Kept.refl (fun i => w.heap.size ≤ i) wr).put (Nat.le_refl _) _).put (Nat.le_refl _) _).put (Nat.le_refl _) _).put (Nat.le_refl _) _).put (Nat.le_refl _) _).put (Nat.le_refl _) _) (fun i hi => hi)
        · rw [show ((15 : Nat) : Int) = 15 from rfl]
          have hix := HIX.out 15 (by omega)
          by_cases hc : dg (l.getD 15 0) = 16
          · have hd := ref_bad l HL.out 15 (by omega) (by unfold bad; rw [if_neg (by decide)]; exact hc)
            have HD := Lib.hid hd
            generalize hcc : l.getD 15 0 = c at hix hc
            have hi2 : ∀ w, (Instr.index 9 (.string s) (.int .i64 15)).run Tryd.prog w = .ok (.int .u8 (c.toNat : Int)) w := hix
            have hdg := digit_any c
            rw [hc] at hdg
            have HDG : Hid (∀ w, Calls Tryd.prog 38 #[.int .u8 (c.toNat : Int)] w fun r w' => r = .returned (.int .i64 16) ∧ w = w') := hdg
            clear hix hc hd hcc hdg
            have y0 := HB0.out.cell 0
            have z0 := HB0.out.frozen 0
            have y1 := HB0.out.cell 1
            have z1 := HB0.out.frozen 1
            have y2 := HB0.out.cell 2
            have z2 := HB0.out.frozen 2
            have y3 := HB0.out.cell 3
            have z3 := HB0.out.frozen 3
            have y4 := HB0.out.cell 4
            have z4 := HB0.out.frozen 4
            have y5 := HB0.out.cell 5
            have z5 := HB0.out.frozen 5
            simp at y0 y1 y2 y3 y4 y5
            go_wp2_with fail
            refine (HDG.out _).mono ?_
            rintro e w1 ⟨rfl, rfl⟩
            go_wp2
            refine bodyPost_ret (v := .tuple #[.agg #[.int .u8 0, .int .u8 0, .int .u8 0, .int .u8 0, .int .u8 0, .int .u8 0], .int .i64 5]) (by simp [results, Tryd.results28, go_sem, y0, y1, y2, y3, y4, y5]) rfl ⟨by rw [HD.out]; rfl, ?_⟩
            exact HK.out.fresh (((((((Kept.refl (fun i => w.heap.size ≤ i) wr).put (Nat.le_refl _) _).put (Nat.le_refl _) _).put (Nat.le_refl _) _).put (Nat.le_refl _) _).put (Nat.le_refl _) _).put (Nat.le_refl _) _) (fun i hi => hi)
          · have HOK' := Lib.hid (show ∀ j, j < 16 → ¬ bad l j from fun j hj => by
              by_cases hjj : j = 15
              · subst hjj; unfold bad; rw [if_neg (by decide)]; exact hc
              · exact HOK.out j (by omega))
            have hnext := mst_dig l 15 (by decide)
            have hlen := mst_len l 15
            obtain ⟨m0, m1, m2, m3, m4, m5, hmm⟩ := six (mst l 15) hlen
            have hb1 := HB1.out
            rw [hmm] at hnext hb1
            have hdl := dg_le (l.getD 15 0)
            generalize hcc : l.getD 15 0 = c at hix hc hnext hdl
            have hi2 : ∀ w, (Instr.index 9 (.string s) (.int .i64 15)).run Tryd.prog w = .ok (.int .u8 (c.toNat : Int)) w := hix
            have hd16 : dg c < 16 := by omega
            have HDG := Lib.hid (digit_any c)
            generalize hdd : dg c = d at hnext HDG hc hdl hd16
            have hbd : (d : Int) < 16 := by omega
            have hne : ((d : Int) == 16) = false := by rw [beq_eq_false_iff_ne]; omega
            have hput := hexput m5 d hd16
            have hst := hb1.set 5 (.int .u8 ((UInt8.ofNat (m5.toNat * 16 + d)).toNat : Int))
            rw [bys_set] at hst
            have HST := Lib.hid (show Blo (wr.setCell ⟨w.heap.size + 1, 5, none⟩ (.int .u8 ((m5.toNat : Int) * 16 % 256 + (d : Int)))) (w.heap.size + 1) 22 (bys (mst l 16)).toArray by rw [hput, hnext]; exact hst)
            have HB0' := Lib.hid (HB0.out.far (p := ⟨w.heap.size + 1, 5, none⟩) (by simp) (.int .u8 ((m5.toNat : Int) * 16 % 256 + (d : Int))))
            have HK' := Lib.hid (HK.out.setCell (p := ⟨w.heap.size + 1, 5, none⟩) (fun hl => absurd hl (by simp)) (.int .u8 ((m5.toNat : Int) * 16 % 256 + (d : Int))))
            have x0 := hb1.cell 5
            simp [bys] at x0
            have x1 := hb1.frozen 5
            clear hix hc hcc hdl hd16 hdd hnext hlen hmm hb1 hst hput
            go_wp2_with fail
            refine (HDG.out _).mono ?_
            rintro e w1 ⟨rfl, rfl⟩
            go_wp2
            go_roundw
            case rel => exact ⟨16, by omega, rfl, HOK'.out, HB0'.out, HST.out, HK'.out⟩
            case measure => simp [intOf]
        · rw [show ((16 : Nat) : Int) = 16 from rfl]
          have hix := HIX.out 16 (by omega)
          by_cases hc : dg (l.getD 16 0) = 16
          · have hd := ref_bad l HL.out 16 (by omega) (by unfold bad; rw [if_neg (by decide)]; exact hc)
            have HD := Lib.hid hd
            generalize hcc : l.getD 16 0 = c at hix hc
            have hi2 : ∀ w, (Instr.index 9 (.string s) (.int .i64 16)).run Tryd.prog w = .ok (.int .u8 (c.toNat : Int)) w := hix
            have hdg := digit_any c
            rw [hc] at hdg
            have HDG : Hid (∀ w, Calls Tryd.prog 38 #[.int .u8 (c.toNat : Int)] w fun r w' => r = .returned (.int .i64 16) ∧ w = w') := hdg
            clear hix hc hd hcc hdg
            have y0 := HB0.out.cell 0
            have z0 := HB0.out.frozen 0
            have y1 := HB0.out.cell 1
            have z1 := HB0.out.frozen 1
            have y2 := HB0.out.cell 2
            have z2 := HB0.out.frozen 2
            have y3 := HB0.out.cell 3
            have z3 := HB0.out.frozen 3
            have y4 := HB0.out.cell 4
            have z4 := HB0.out.frozen 4
            have y5 := HB0.out.cell 5
            have z5 := HB0.out.frozen 5
            simp at y0 y1 y2 y3 y4 y5
            go_wp2_with fail
            refine (HDG.out _).mono ?_
            rintro e w1 ⟨rfl, rfl⟩
            go_wp2
            refine bodyPost_ret (v := .tuple #[.agg #[.int .u8 0, .int .u8 0, .int .u8 0, .int .u8 0, .int .u8 0, .int .u8 0], .int .i64 5]) (by simp [results, Tryd.results28, go_sem, y0, y1, y2, y3, y4, y5]) rfl ⟨by rw [HD.out]; rfl, ?_⟩
            exact HK.out.fresh (((((((Kept.refl (fun i => w.heap.size ≤ i) wr).put (Nat.le_refl _) _).put (Nat.le_refl _) _).put (Nat.le_refl _) _).put (Nat.le_refl _) _).put (Nat.le_refl _) _).put (Nat.le_refl _) _) (fun i hi => hi)
          · have HOK' := Lib.hid (show ∀ j, j < 17 → ¬ bad l j from fun j hj => by
              by_cases hjj : j = 16
              · subst hjj; unfold bad; rw [if_neg (by decide)]; exact hc
              · exact HOK.out j (by omega))
            have hnext := mst_dig l 16 (by decide)
            have hlen := mst_len l 16
            obtain ⟨m0, m1, m2, m3, m4, m5, hmm⟩ := six (mst l 16) hlen
            have hb1 := HB1.out
            rw [hmm] at hnext hb1
            have hdl := dg_le (l.getD 16 0)
            generalize hcc : l.getD 16 0 = c at hix hc hnext hdl
            have hi2 : ∀ w, (Instr.index 9 (.string s) (.int .i64 16)).run Tryd.prog w = .ok (.int .u8 (c.toNat : Int)) w := hix
            have hd16 : dg c < 16 := by omega
            have HDG := Lib.hid (digit_any c)
            generalize hdd : dg c = d at hnext HDG hc hdl hd16
            have hbd : (d : Int) < 16 := by omega
            have hne : ((d : Int) == 16) = false := by rw [beq_eq_false_iff_ne]; omega
            have hput := hexput m5 d hd16
            have hst := hb1.set 5 (.int .u8 ((UInt8.ofNat (m5.toNat * 16 + d)).toNat : Int))
            rw [bys_set] at hst
            have HST := Lib.hid (show Blo (wr.setCell ⟨w.heap.size + 1, 5, none⟩ (.int .u8 ((m5.toNat : Int) * 16 % 256 + (d : Int)))) (w.heap.size + 1) 22 (bys (mst l 17)).toArray by rw [hput, hnext]; exact hst)
            have HB0' := Lib.hid (HB0.out.far (p := ⟨w.heap.size + 1, 5, none⟩) (by simp) (.int .u8 ((m5.toNat : Int) * 16 % 256 + (d : Int))))
            have HK' := Lib.hid (HK.out.setCell (p := ⟨w.heap.size + 1, 5, none⟩) (fun hl => absurd hl (by simp)) (.int .u8 ((m5.toNat : Int) * 16 % 256 + (d : Int))))
            have x0 := hb1.cell 5
            simp [bys] at x0
            have x1 := hb1.frozen 5
            clear hix hc hcc hdl hd16 hdd hnext hlen hmm hb1 hst hput
            go_wp2_with fail
            refine (HDG.out _).mono ?_
            rintro e w1 ⟨rfl, rfl⟩
            go_wp2
            go_roundw
            case rel => exact ⟨17, by omega, rfl, HOK'.out, HB0'.out, HST.out, HK'.out⟩
            case measure => simp [intOf]
      · obtain rfl : k = 17 := by omega
        have hgood := ref_good l HL.out (HOK.out)
        have hlen := mst_len l 17
        have hb1 := HB1.out
        obtain ⟨m0, m1, m2, m3, m4, m5, hmm⟩ := six (mst l 17) hlen
        rw [hmm] at hb1 hgood
        have HG := Lib.hid hgood
        have x0 := hb1.cell 0
        have x1 := hb1.cell 1
        have x2 := hb1.cell 2
        have x3 := hb1.cell 3
        have x4 := hb1.cell 4
        have x5 := hb1.cell 5
        simp [bys] at x0 x1 x2 x3 x4 x5
        have y0 := HB0.out.cell 0
        have z0 := HB0.out.frozen 0
        have y1 := HB0.out.cell 1
        have z1 := HB0.out.frozen 1
        have y2 := HB0.out.cell 2
        have z2 := HB0.out.frozen 2
        have y3 := HB0.out.cell 3
        have z3 := HB0.out.frozen 3
        have y4 := HB0.out.cell 4
        have z4 := HB0.out.frozen 4
        have y5 := HB0.out.cell 5
        have z5 := HB0.out.frozen 5
        simp at y0 y1 y2 y3 y4 y5
        clear hb1 hgood hlen hmm
        go_wp2
        refine bodyPost_ret (v := .tuple #[.agg #[.int .u8 (m0.toNat : Int), .int .u8 (m1.toNat : Int), .int .u8 (m2.toNat : Int), .int .u8 (m3.toNat : Int), .int .u8 (m4.toNat : Int), .int .u8 (m5.toNat : Int)], .int .i64 0]) (by simp [results, Tryd.results28, go_sem, y0, y1, y2, y3, y4, y5]) rfl ⟨by rw [HG.out]; rfl, ?_⟩
        exact HK.out.fresh (((((((Kept.refl (fun i => w.heap.size ≤ i) wr).put (Nat.le_refl _) _).put (Nat.le_refl _) _).put (Nat.le_refl _) _).put (Nat.le_refl _) _).put (Nat.le_refl _) _).put (Nat.le_refl _) _) (fun i hi => hi)
  · have hn : prs s.data.toList = none := by
      unfold prs
      rw [if_neg (by omega)]
    have HN := Lib.hid hn
    have hne : ((s.size : Int) == 17) = false := by rw [beq_eq_false_iff_ne]; omega
    generalize hpp : puP (prs s.data.toList) = pp
    have HPP := Lib.hid hpp
    clear hn hpp hsz
    go_enter Tryd.func28, Tryd.ntmps28
    go_wp2
    refine bodyPost_ret (v := .tuple #[.agg #[.int .u8 0, .int .u8 0, .int .u8 0, .int .u8 0, .int .u8 0, .int .u8 0], .int .i64 5]) (by simp [results, Tryd.results28, go_sem]) rfl ⟨by rw [← HPP.out, HN.out]; rfl, ?_⟩
    exact ((Kept.refl Nil w).alloc _).alloc _
end Go.Proofs.YtjfffddaiefggabDoor
