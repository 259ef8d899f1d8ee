/- Contracts of tollref02: Number, Of, Kind, Matches. -/
import Derived.Test.YtjfffddaiefggabDoorMacB
import Derived.Test.YtjfffddaiefggabDoorQb
import Derived.Deep.DeepCutAuto
namespace Go.Proofs.YtjfffddaiefggabDoor
open Go.RowKit Go.Sort Go.BigFrame
set_option linter.unusedVariables false

theorem ret_u64 {a b : Int} (h : a = b) : Ending.returned (.int .u64 a) = .returned (.int .u64 b) := by rw [h]
set_option maxHeartbeats 2000000 in
theorem RNumber_yes (a b c d e f : UInt8) (w : World) :
    Calls Tryd.prog 12 #[mv [a, b, c, d, e, f]] w fun r w' => r = .returned (.int .u64 (numL [a, b, c, d, e, f] : Int)) ∧ Kept Nil w w' := by
  rw [mv6]
  have ha : (a.toNat : Int) < 256 := by have := a.toNat_lt; omega
  have hb : (b.toNat : Int) < 256 := by have := b.toNat_lt; omega
  have hc : (c.toNat : Int) < 256 := by have := c.toNat_lt; omega
  have hd : (d.toNat : Int) < 256 := by have := d.toNat_lt; omega
  have he : (e.toNat : Int) < 256 := by have := e.toNat_lt; omega
  have hf : (f.toNat : Int) < 256 := by have := f.toNat_lt; omega
  go_enter Tryd.func12, Tryd.ntmps12
  go_wp2
  go_rounds 7
  go_ret
  refine ⟨ret_u64 ?_, (Kept.refl Nil w).alloc _⟩
  simp [numL]
  omega
set_option maxHeartbeats 2000000 in
theorem ROf_yes (n : Nat) (hn : n < 18446744073709551616) (w : World) :
    Calls Tryd.prog 14 #[.int .u64 (n : Int)] w fun e' w' => e' = .returned (mv (ofL n)) ∧ Kept Nil w w' := by
  go_enter Tryd.func14, Tryd.ntmps14
  go_wp2
  go_rounds 7
  refine bodyPost_ret (v := .agg #[.int .u8 ((n : Int) / 256 / 256 / 256 / 256 / 256 % 256), .int .u8 ((n : Int) / 256 / 256 / 256 / 256 % 256), .int .u8 ((n : Int) / 256 / 256 / 256 % 256), .int .u8 ((n : Int) / 256 / 256 % 256), .int .u8 ((n : Int) / 256 % 256), .int .u8 ((n : Int) % 256)]) (by simp [results, Tryd.results14, go_sem]) rfl ⟨?_, ((Kept.refl Nil w).alloc _).alloc _⟩
  rw [u8_of (n / 2 ^ 40) _ (by omega), u8_of (n / 2 ^ 32) ((n : Int) / 256 / 256 / 256 / 256) (by omega), u8_of (n / 2 ^ 24) ((n : Int) / 256 / 256 / 256) (by omega), u8_of (n / 2 ^ 16) ((n : Int) / 256 / 256) (by omega), u8_of (n / 2 ^ 8) ((n : Int) / 256) (by omega), u8_of n (n : Int) rfl]
  rfl
/-- The first k bytes agree under the mask. -/
def agr (l a m : List UInt8) (k : Nat) : Prop := (andL l m).take k = (andL a m).take k
set_option maxHeartbeats 1500000 in
set_option maxRecDepth 100000 in
theorem RMatches_yes (a0 a1 a2 a3 a4 a5 m0 m1 m2 m3 m4 m5 x0 x1 x2 x3 x4 x5 : UInt8) (w : World) :
    Calls Tryd.prog 25 #[pv [a0, a1, a2, a3, a4, a5] [m0, m1, m2, m3, m4, m5], mv [x0, x1, x2, x3, x4, x5]] w fun r w' => r = .returned (.bool (andL [x0, x1, x2, x3, x4, x5] [m0, m1, m2, m3, m4, m5] == andL [a0, a1, a2, a3, a4, a5] [m0, m1, m2, m3, m4, m5])) ∧ Kept Nil w w' := by
  have hbp := (Blo.new w 28 #[.int .u8 (a0.toNat : Int), .int .u8 (a1.toNat : Int), .int .u8 (a2.toNat : Int), .int .u8 (a3.toNat : Int), .int .u8 (a4.toNat : Int), .int .u8 (a5.toNat : Int), .int .u8 (m0.toNat : Int), .int .u8 (m1.toNat : Int), .int .u8 (m2.toNat : Int), .int .u8 (m3.toNat : Int), .int .u8 (m4.toNat : Int), .int .u8 (m5.toNat : Int)]).alloc (.cells #[.int .u8 (x0.toNat : Int), .int .u8 (x1.toNat : Int), .int .u8 (x2.toNat : Int), .int .u8 (x3.toNat : Int), .int .u8 (x4.toNat : Int), .int .u8 (x5.toNat : Int)] 22)
  have hbx := Blo.new (w.alloc (.cells #[.int .u8 (a0.toNat : Int), .int .u8 (a1.toNat : Int), .int .u8 (a2.toNat : Int), .int .u8 (a3.toNat : Int), .int .u8 (a4.toNat : Int), .int .u8 (a5.toNat : Int), .int .u8 (m0.toNat : Int), .int .u8 (m1.toNat : Int), .int .u8 (m2.toNat : Int), .int .u8 (m3.toNat : Int), .int .u8 (m4.toNat : Int), .int .u8 (m5.toNat : Int)] 28)) 22 #[.int .u8 (x0.toNat : Int), .int .u8 (x1.toNat : Int), .int .u8 (x2.toNat : Int), .int .u8 (x3.toNat : Int), .int .u8 (x4.toNat : Int), .int .u8 (x5.toNat : Int)]
  rw [World.size_alloc] at hbx
  have HBP := Lib.hid hbp
  have HBX := Lib.hid hbx
  clear hbp hbx
  rw [mv6, show pv [a0, a1, a2, a3, a4, a5] [m0, m1, m2, m3, m4, m5] = .agg #[.int .u8 (a0.toNat : Int), .int .u8 (a1.toNat : Int), .int .u8 (a2.toNat : Int), .int .u8 (a3.toNat : Int), .int .u8 (a4.toNat : Int), .int .u8 (a5.toNat : Int), .int .u8 (m0.toNat : Int), .int .u8 (m1.toNat : Int), .int .u8 (m2.toNat : Int), .int .u8 (m3.toNat : Int), .int .u8 (m4.toNat : Int), .int .u8 (m5.toNat : Int)] from rfl]
  go_enter Tryd.func25, Tryd.ntmps25
  go_wp2
  go_loopw [5] (fun i wr => ∃ (k : Nat), k ≤ 6 ∧ i = .int .i64 k ∧ Hid (Blo wr (w.heap.size + 1) 22 #[.int .u8 (x0.toNat : Int), .int .u8 (x1.toNat : Int), .int .u8 (x2.toNat : Int), .int .u8 (x3.toNat : Int), .int .u8 (x4.toNat : Int), .int .u8 (x5.toNat : Int)]) ∧ Hid (Blo wr w.heap.size 28 #[.int .u8 (a0.toNat : Int), .int .u8 (a1.toNat : Int), .int .u8 (a2.toNat : Int), .int .u8 (a3.toNat : Int), .int .u8 (a4.toNat : Int), .int .u8 (a5.toNat : Int), .int .u8 (m0.toNat : Int), .int .u8 (m1.toNat : Int), .int .u8 (m2.toNat : Int), .int .u8 (m3.toNat : Int), .int .u8 (m4.toNat : Int), .int .u8 (m5.toNat : Int)]) ∧ Hid (∀ j, j < k → [x0, x1, x2, x3, x4, x5].getD j 0 &&& [m0, m1, m2, m3, m4, m5].getD j 0 = [a0, a1, a2, a3, a4, a5].getD j 0 &&& [m0, m1, m2, m3, m4, m5].getD j 0) ∧ Hid (Kept Nil w wr)) (fun i _ => 6 - (intOf i).toNat)
  case atStart => exact ⟨0, by omega, rfl, HBX.out, HBP.out, fun j hj => absurd hj (by omega), ((Kept.refl Nil w).alloc _).alloc _⟩
  case round =>
    obtain ⟨k, hk, rfl, HX, HP, HE, HK⟩ := hrel
    by_cases hlt : k < 6
    · rcases (show k = 0 ∨ k = 1 ∨ k = 2 ∨ k = 3 ∨ k = 4 ∨ k = 5 by omega) with rfl | rfl | rfl | rfl | rfl | rfl
      · rw [show ((0 : Nat) : Int) = 0 from rfl]
        by_cases hq : x0 &&& m0 = a0 &&& m0
        · have hq2 : bits .and .u8 (x0.toNat : Int) (m0.toNat : Int) = bits .and .u8 (a0.toNat : Int) (m0.toNat : Int) := by rw [and8, and8, hq]
          have HE' := Lib.hid (show ∀ j, j < 1 → [x0, x1, x2, x3, x4, x5].getD j 0 &&& [m0, m1, m2, m3, m4, m5].getD j 0 = [a0, a1, a2, a3, a4, a5].getD j 0 &&& [m0, m1, m2, m3, m4, m5].getD j 0 from fun j hj => by
            by_cases hjj : j = 0
            · subst hjj; exact hq
            · exact HE.out j (by omega))
          clear hq
          go_upto_region 4 with (fail)
          refine wp_region_quiet_below (by kernel_rfl) (by kernel_rfl) ?_
          have c1 := HX.out.gcell 0
          have c2 := HP.out.gcell 0
          have c3 := HP.out.gcell 6
          simp at c1 c2 c3
          repeat (go_big_quiet_step (fail))
          refine wpQuiet_nil ?_
          rintro wn ⟨nq, hw⟩
          have hkn : Kept Nil wr wn := by rw [hw]; exact kept_grown _ _
          have HK' := Lib.hid (HK.out.then hkn)
          have HX' := Lib.hid (HX.out.kept hkn (fun hf => hf))
          have HP' := Lib.hid (HP.out.kept hkn (fun hf => hf))
          clear hw hkn c1 c2 c3
          go_wp2
          go_roundw
          case rel => exact ⟨1, by omega, rfl, HX'.out, HP'.out, HE'.out, HK'.out⟩
          case measure => simp [intOf]
        · have hq2 : (bits .and .u8 (x0.toNat : Int) (m0.toNat : Int) == bits .and .u8 (a0.toNat : Int) (m0.toNat : Int)) = false := by
            rw [and8, and8, beq_eq_false_iff_ne]
            intro h
            exact hq (UInt8.toNat_inj.1 (by omega))
          have hq3 : (bits .and .u8 (x0.toNat : Int) (m0.toNat : Int) != bits .and .u8 (a0.toNat : Int) (m0.toNat : Int)) = true := by rw [bne, hq2]; rfl
          have hfin : (andL [x0, x1, x2, x3, x4, x5] [m0, m1, m2, m3, m4, m5] == andL [a0, a1, a2, a3, a4, a5] [m0, m1, m2, m3, m4, m5]) = false := by
            rw [beq_eq_false_iff_ne]
            intro h
            simp only [andL, List.zipWith_cons_cons, List.zipWith_nil_left, List.cons.injEq, and_true] at h
            exact hq h.1
          have HFIN := Lib.hid hfin
          clear hq hfin
          go_upto_region 4 with (fail)
          refine wp_region_quiet_below (by kernel_rfl) (by kernel_rfl) ?_
          have c1 := HX.out.gcell 0
          have c2 := HP.out.gcell 0
          have c3 := HP.out.gcell 6
          simp at c1 c2 c3
          repeat (go_big_quiet_step (fail))
          refine wpQuiet_nil ?_
          rintro wn ⟨nq, hw⟩
          have hkn : Kept Nil wr wn := by rw [hw]; exact kept_grown _ _
          have HK' := Lib.hid (HK.out.then hkn)
          clear hw hkn c1 c2 c3
          go_wp2
          go_ret
          exact ⟨by rw [HFIN.out]; rfl, HK'.out⟩
      · rw [show ((1 : Nat) : Int) = 1 from rfl]
        by_cases hq : x1 &&& m1 = a1 &&& m1
        · have hq2 : bits .and .u8 (x1.toNat : Int) (m1.toNat : Int) = bits .and .u8 (a1.toNat : Int) (m1.toNat : Int) := by rw [and8, and8, hq]
          have HE' := Lib.hid (show ∀ j, j < 2 → [x0, x1, x2, x3, x4, x5].getD j 0 &&& [m0, m1, m2, m3, m4, m5].getD j 0 = [a0, a1, a2, a3, a4, a5].getD j 0 &&& [m0, m1, m2, m3, m4, m5].getD j 0 from fun j hj => by
            by_cases hjj : j = 1
            · subst hjj; exact hq
            · exact HE.out j (by omega))
          clear hq
          go_upto_region 4 with (fail)
          refine wp_region_quiet_below (by kernel_rfl) (by kernel_rfl) ?_
          have c1 := HX.out.gcell 1
          have c2 := HP.out.gcell 1
          have c3 := HP.out.gcell 7
          simp at c1 c2 c3
          repeat (go_big_quiet_step (fail))
          refine wpQuiet_nil ?_
          rintro wn ⟨nq, hw⟩
          have hkn : Kept Nil wr wn := by rw [hw]; exact kept_grown _ _
          have HK' := Lib.hid (HK.out.then hkn)
          have HX' := Lib.hid (HX.out.kept hkn (fun hf => hf))
          have HP' := Lib.hid (HP.out.kept hkn (fun hf => hf))
          clear hw hkn c1 c2 c3
          go_wp2
          go_roundw
          case rel => exact ⟨2, by omega, rfl, HX'.out, HP'.out, HE'.out, HK'.out⟩
          case measure => simp [intOf]
        · have hq2 : (bits .and .u8 (x1.toNat : Int) (m1.toNat : Int) == bits .and .u8 (a1.toNat : Int) (m1.toNat : Int)) = false := by
            rw [and8, and8, beq_eq_false_iff_ne]
            intro h
            exact hq (UInt8.toNat_inj.1 (by omega))
          have hq3 : (bits .and .u8 (x1.toNat : Int) (m1.toNat : Int) != bits .and .u8 (a1.toNat : Int) (m1.toNat : Int)) = true := by rw [bne, hq2]; rfl
          have hfin : (andL [x0, x1, x2, x3, x4, x5] [m0, m1, m2, m3, m4, m5] == andL [a0, a1, a2, a3, a4, a5] [m0, m1, m2, m3, m4, m5]) = false := by
            rw [beq_eq_false_iff_ne]
            intro h
            simp only [andL, List.zipWith_cons_cons, List.zipWith_nil_left, List.cons.injEq, and_true] at h
            exact hq h.2.1
          have HFIN := Lib.hid hfin
          clear hq hfin
          go_upto_region 4 with (fail)
          refine wp_region_quiet_below (by kernel_rfl) (by kernel_rfl) ?_
          have c1 := HX.out.gcell 1
          have c2 := HP.out.gcell 1
          have c3 := HP.out.gcell 7
          simp at c1 c2 c3
          repeat (go_big_quiet_step (fail))
          refine wpQuiet_nil ?_
          rintro wn ⟨nq, hw⟩
          have hkn : Kept Nil wr wn := by rw [hw]; exact kept_grown _ _
          have HK' := Lib.hid (HK.out.then hkn)
          clear hw hkn c1 c2 c3
          go_wp2
          go_ret
          exact ⟨by rw [HFIN.out]; rfl, HK'.out⟩
      · rw [show ((2 : Nat) : Int) = 2 from rfl]
        by_cases hq : x2 &&& m2 = a2 &&& m2
        · have hq2 : bits .and .u8 (x2.toNat : Int) (m2.toNat : Int) = bits .and .u8 (a2.toNat : Int) (m2.toNat : Int) := by rw [and8, and8, hq]
          have HE' := Lib.hid (show ∀ j, j < 3 → [x0, x1, x2, x3, x4, x5].getD j 0 &&& [m0, m1, m2, m3, m4, m5].getD j 0 = [a0, a1, a2, a3, a4, a5].getD j 0 &&& [m0, m1, m2, m3, m4, m5].getD j 0 from fun j hj => by
            by_cases hjj : j = 2
            · subst hjj; exact hq
            · exact HE.out j (by omega))
          clear hq
          go_upto_region 4 with (fail)
          refine wp_region_quiet_below (by kernel_rfl) (by kernel_rfl) ?_
          have c1 := HX.out.gcell 2
          have c2 := HP.out.gcell 2
          have c3 := HP.out.gcell 8
          simp at c1 c2 c3
          repeat (go_big_quiet_step (fail))
          refine wpQuiet_nil ?_
          rintro wn ⟨nq, hw⟩
          have hkn : Kept Nil wr wn := by rw [hw]; exact kept_grown _ _
          have HK' := Lib.hid (HK.out.then hkn)
          have HX' := Lib.hid (HX.out.kept hkn (fun hf => hf))
          have HP' := Lib.hid (HP.out.kept hkn (fun hf => hf))
          clear hw hkn c1 c2 c3
          go_wp2
          go_roundw
          case rel => exact ⟨3, by omega, rfl, HX'.out, HP'.out, HE'.out, HK'.out⟩
          case measure => simp [intOf]
        · have hq2 : (bits .and .u8 (x2.toNat : Int) (m2.toNat : Int) == bits .and .u8 (a2.toNat : Int) (m2.toNat : Int)) = false := by
            rw [and8, and8, beq_eq_false_iff_ne]
            intro h
            exact hq (UInt8.toNat_inj.1 (by omega))
          have hq3 : (bits .and .u8 (x2.toNat : Int) (m2.toNat : Int) != bits .and .u8 (a2.toNat : Int) (m2.toNat : Int)) = true := by rw [bne, hq2]; rfl
          have hfin : (andL [x0, x1, x2, x3, x4, x5] [m0, m1, m2, m3, m4, m5] == andL [a0, a1, a2, a3, a4, a5] [m0, m1, m2, m3, m4, m5]) = false := by
            rw [beq_eq_false_iff_ne]
            intro h
            simp only [andL, List.zipWith_cons_cons, List.zipWith_nil_left, List.cons.injEq, and_true] at h
            exact hq h.2.2.1
          have HFIN := Lib.hid hfin
          clear hq hfin
          go_upto_region 4 with (fail)
          refine wp_region_quiet_below (by kernel_rfl) (by kernel_rfl) ?_
          have c1 := HX.out.gcell 2
          have c2 := HP.out.gcell 2
          have c3 := HP.out.gcell 8
          simp at c1 c2 c3
          repeat (go_big_quiet_step (fail))
          refine wpQuiet_nil ?_
          rintro wn ⟨nq, hw⟩
          have hkn : Kept Nil wr wn := by rw [hw]; exact kept_grown _ _
          have HK' := Lib.hid (HK.out.then hkn)
          clear hw hkn c1 c2 c3
          go_wp2
          go_ret
          exact ⟨by rw [HFIN.out]; rfl, HK'.out⟩
      · rw [show ((3 : Nat) : Int) = 3 from rfl]
        by_cases hq : x3 &&& m3 = a3 &&& m3
        · have hq2 : bits .and .u8 (x3.toNat : Int) (m3.toNat : Int) = bits .and .u8 (a3.toNat : Int) (m3.toNat : Int) := by rw [and8, and8, hq]
          have HE' := Lib.hid (show ∀ j, j < 4 → [x0, x1, x2, x3, x4, x5].getD j 0 &&& [m0, m1, m2, m3, m4, m5].getD j 0 = [a0, a1, a2, a3, a4, a5].getD j 0 &&& [m0, m1, m2, m3, m4, m5].getD j 0 from fun j hj => by
            by_cases hjj : j = 3
            · subst hjj; exact hq
            · exact HE.out j (by omega))
          clear hq
          go_upto_region 4 with (fail)
          refine wp_region_quiet_below (by kernel_rfl) (by kernel_rfl) ?_
          have c1 := HX.out.gcell 3
          have c2 := HP.out.gcell 3
          have c3 := HP.out.gcell 9
          simp at c1 c2 c3
          repeat (go_big_quiet_step (fail))
          refine wpQuiet_nil ?_
          rintro wn ⟨nq, hw⟩
          have hkn : Kept Nil wr wn := by rw [hw]; exact kept_grown _ _
          have HK' := Lib.hid (HK.out.then hkn)
          have HX' := Lib.hid (HX.out.kept hkn (fun hf => hf))
          have HP' := Lib.hid (HP.out.kept hkn (fun hf => hf))
          clear hw hkn c1 c2 c3
          go_wp2
          go_roundw
          case rel => exact ⟨4, by omega, rfl, HX'.out, HP'.out, HE'.out, HK'.out⟩
          case measure => simp [intOf]
        · have hq2 : (bits .and .u8 (x3.toNat : Int) (m3.toNat : Int) == bits .and .u8 (a3.toNat : Int) (m3.toNat : Int)) = false := by
            rw [and8, and8, beq_eq_false_iff_ne]
            intro h
            exact hq (UInt8.toNat_inj.1 (by omega))
          have hq3 : (bits .and .u8 (x3.toNat : Int) (m3.toNat : Int) != bits .and .u8 (a3.toNat : Int) (m3.toNat : Int)) = true := by rw [bne, hq2]; rfl
          have hfin : (andL [x0, x1, x2, x3, x4, x5] [m0, m1, m2, m3, m4, m5] == andL [a0, a1, a2, a3, a4, a5] [m0, m1, m2, m3, m4, m5]) = false := by
            rw [beq_eq_false_iff_ne]
            intro h
            simp only [andL, List.zipWith_cons_cons, List.zipWith_nil_left, List.cons.injEq, and_true] at h
            exact hq h.2.2.2.1
          have HFIN := Lib.hid hfin
          clear hq hfin
          go_upto_region 4 with (fail)
          refine wp_region_quiet_below (by kernel_rfl) (by kernel_rfl) ?_
          have c1 := HX.out.gcell 3
          have c2 := HP.out.gcell 3
          have c3 := HP.out.gcell 9
          simp at c1 c2 c3
          repeat (go_big_quiet_step (fail))
          refine wpQuiet_nil ?_
          rintro wn ⟨nq, hw⟩
          have hkn : Kept Nil wr wn := by rw [hw]; exact kept_grown _ _
          have HK' := Lib.hid (HK.out.then hkn)
          clear hw hkn c1 c2 c3
          go_wp2
          go_ret
          exact ⟨by rw [HFIN.out]; rfl, HK'.out⟩
      · rw [show ((4 : Nat) : Int) = 4 from rfl]
        by_cases hq : x4 &&& m4 = a4 &&& m4
        · have hq2 : bits .and .u8 (x4.toNat : Int) (m4.toNat : Int) = bits .and .u8 (a4.toNat : Int) (m4.toNat : Int) := by rw [and8, and8, hq]
          have HE' := Lib.hid (show ∀ j, j < 5 → [x0, x1, x2, x3, x4, x5].getD j 0 &&& [m0, m1, m2, m3, m4, m5].getD j 0 = [a0, a1, a2, a3, a4, a5].getD j 0 &&& [m0, m1, m2, m3, m4, m5].getD j 0 from fun j hj => by
            by_cases hjj : j = 4
            · subst hjj; exact hq
            · exact HE.out j (by omega))
          clear hq
          go_upto_region 4 with (fail)
          refine wp_region_quiet_below (by kernel_rfl) (by kernel_rfl) ?_
          have c1 := HX.out.gcell 4
          have c2 := HP.out.gcell 4
          have c3 := HP.out.gcell 10
          simp at c1 c2 c3
          repeat (go_big_quiet_step (fail))
          refine wpQuiet_nil ?_
          rintro wn ⟨nq, hw⟩
          have hkn : Kept Nil wr wn := by rw [hw]; exact kept_grown _ _
          have HK' := Lib.hid (HK.out.then hkn)
          have HX' := Lib.hid (HX.out.kept hkn (fun hf => hf))
          have HP' := Lib.hid (HP.out.kept hkn (fun hf => hf))
          clear hw hkn c1 c2 c3
          go_wp2
          go_roundw
          case rel => exact ⟨5, by omega, rfl, HX'.out, HP'.out, HE'.out, HK'.out⟩
          case measure => simp [intOf]
        · have hq2 : (bits .and .u8 (x4.toNat : Int) (m4.toNat : Int) == bits .and .u8 (a4.toNat : Int) (m4.toNat : Int)) = false := by
            rw [and8, and8, beq_eq_false_iff_ne]
            intro h
            exact hq (UInt8.toNat_inj.1 (by omega))
          have hq3 : (bits .and .u8 (x4.toNat : Int) (m4.toNat : Int) != bits .and .u8 (a4.toNat : Int) (m4.toNat : Int)) = true := by rw [bne, hq2]; rfl
          have hfin : (andL [x0, x1, x2, x3, x4, x5] [m0, m1, m2, m3, m4, m5] == andL [a0, a1, a2, a3, a4, a5] [m0, m1, m2, m3, m4, m5]) = false := by
            rw [beq_eq_false_iff_ne]
            intro h
            simp only [andL, List.zipWith_cons_cons, List.zipWith_nil_left, List.cons.injEq, and_true] at h
            exact hq h.2.2.2.2.1
          have HFIN := Lib.hid hfin
          clear hq hfin
          go_upto_region 4 with (fail)
          refine wp_region_quiet_below (by kernel_rfl) (by kernel_rfl) ?_
          have c1 := HX.out.gcell 4
          have c2 := HP.out.gcell 4
          have c3 := HP.out.gcell 10
          simp at c1 c2 c3
          repeat (go_big_quiet_step (fail))
          refine wpQuiet_nil ?_
          rintro wn ⟨nq, hw⟩
          have hkn : Kept Nil wr wn := by rw [hw]; exact kept_grown _ _
          have HK' := Lib.hid (HK.out.then hkn)
          clear hw hkn c1 c2 c3
          go_wp2
          go_ret
          exact ⟨by rw [HFIN.out]; rfl, HK'.out⟩
      · rw [show ((5 : Nat) : Int) = 5 from rfl]
        by_cases hq : x5 &&& m5 = a5 &&& m5
        · have hq2 : bits .and .u8 (x5.toNat : Int) (m5.toNat : Int) = bits .and .u8 (a5.toNat : Int) (m5.toNat : Int) := by rw [and8, and8, hq]
          have HE' := Lib.hid (show ∀ j, j < 6 → [x0, x1, x2, x3, x4, x5].getD j 0 &&& [m0, m1, m2, m3, m4, m5].getD j 0 = [a0, a1, a2, a3, a4, a5].getD j 0 &&& [m0, m1, m2, m3, m4, m5].getD j 0 from fun j hj => by
            by_cases hjj : j = 5
            · subst hjj; exact hq
            · exact HE.out j (by omega))
          clear hq
          go_upto_region 4 with (fail)
          refine wp_region_quiet_below (by kernel_rfl) (by kernel_rfl) ?_
          have c1 := HX.out.gcell 5
          have c2 := HP.out.gcell 5
          have c3 := HP.out.gcell 11
          simp at c1 c2 c3
          repeat (go_big_quiet_step (fail))
          refine wpQuiet_nil ?_
          rintro wn ⟨nq, hw⟩
          have hkn : Kept Nil wr wn := by rw [hw]; exact kept_grown _ _
          have HK' := Lib.hid (HK.out.then hkn)
          have HX' := Lib.hid (HX.out.kept hkn (fun hf => hf))
          have HP' := Lib.hid (HP.out.kept hkn (fun hf => hf))
          clear hw hkn c1 c2 c3
          go_wp2
          go_roundw
          case rel => exact ⟨6, by omega, rfl, HX'.out, HP'.out, HE'.out, HK'.out⟩
          case measure => simp [intOf]
        · have hq2 : (bits .and .u8 (x5.toNat : Int) (m5.toNat : Int) == bits .and .u8 (a5.toNat : Int) (m5.toNat : Int)) = false := by
            rw [and8, and8, beq_eq_false_iff_ne]
            intro h
            exact hq (UInt8.toNat_inj.1 (by omega))
          have hq3 : (bits .and .u8 (x5.toNat : Int) (m5.toNat : Int) != bits .and .u8 (a5.toNat : Int) (m5.toNat : Int)) = true := by rw [bne, hq2]; rfl
          have hfin : (andL [x0, x1, x2, x3, x4, x5] [m0, m1, m2, m3, m4, m5] == andL [a0, a1, a2, a3, a4, a5] [m0, m1, m2, m3, m4, m5]) = false := by
            rw [beq_eq_false_iff_ne]
            intro h
            simp only [andL, List.zipWith_cons_cons, List.zipWith_nil_left, List.cons.injEq, and_true] at h
            exact hq h.2.2.2.2.2
          have HFIN := Lib.hid hfin
          clear hq hfin
          go_upto_region 4 with (fail)
          refine wp_region_quiet_below (by kernel_rfl) (by kernel_rfl) ?_
          have c1 := HX.out.gcell 5
          have c2 := HP.out.gcell 5
          have c3 := HP.out.gcell 11
          simp at c1 c2 c3
          repeat (go_big_quiet_step (fail))
          refine wpQuiet_nil ?_
          rintro wn ⟨nq, hw⟩
          have hkn : Kept Nil wr wn := by rw [hw]; exact kept_grown _ _
          have HK' := Lib.hid (HK.out.then hkn)
          clear hw hkn c1 c2 c3
          go_wp2
          go_ret
          exact ⟨by rw [HFIN.out]; rfl, HK'.out⟩
    · obtain rfl : k = 6 := by omega
      have hfin : (andL [x0, x1, x2, x3, x4, x5] [m0, m1, m2, m3, m4, m5] == andL [a0, a1, a2, a3, a4, a5] [m0, m1, m2, m3, m4, m5]) = true := by
        rw [beq_iff_eq]
        have e0 := HE.out 0 (by omega)
        have e1 := HE.out 1 (by omega)
        have e2 := HE.out 2 (by omega)
        have e3 := HE.out 3 (by omega)
        have e4 := HE.out 4 (by omega)
        have e5 := HE.out 5 (by omega)
        simp only [List.getD_cons_zero, List.getD_cons_succ] at e0 e1 e2 e3 e4 e5
        simp only [andL, List.zipWith_cons_cons, List.zipWith_nil_left, e0, e1, e2, e3, e4, e5]
      have HFIN := Lib.hid hfin
      clear hfin
      go_wp2
      go_ret
      exact ⟨by rw [HFIN.out]; rfl, HK.out⟩
end Go.Proofs.YtjfffddaiefggabDoor
