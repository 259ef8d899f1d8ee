/- tolllaw07.TransGets: the walk. -/
import Derived.Test.YthjbabkmjmfmjaaDoorMg16
import Derived.Test.YthjbabkmjmfmjaaDoorMg17
import Derived.Test.YthjbabkmjmfmjaaDoorMg18
import Derived.Test.YthjbabkmjmfmjaaDoorMg19
import Derived.Test.YthjbabkmjmfmjaaDoorTrK
import Derived.Test.YthjbabkmjmfmjaaDoorMg27
import Derived.Test.YthjbabkmjmfmjaaDoorRtG
import Derived.Test.YthjbabkmjmfmjaaDoorRtH
import Derived.Test.YthjbabkmjmfmjaaDoorEthT
namespace Go.Proofs.YthjbabkmjmfmjaaDoor
open Go.RowKit Go.Sort
set_option linter.unusedVariables false

theorem getT_ok (l : List UInt8) : (getT l).1.ok := by
  rcases get_cases l with (h | h) | ⟨h, e, hm, _⟩
  · rw [h]; exact Tc.zero_ok
  · rw [h]; exact Tc.zero_ok
  · rw [e]; exact hm.ok
theorem getU_ok (l : List UInt8) : (getU l).1.ok := by
  rcases getU_cases l with (h | h) | ⟨h, e, hm, _⟩
  · rw [h]; exact Ud.zero_ok
  · rw [h]; exact Ud.zero_ok
  · rw [e]; exact hm.ok
theorem ports_lt (p : Nat) (l : List UInt8) : (portsM p l).1 < 65536 ∧ (portsM p l).2.1 < 65536 := by
  unfold portsM
  split
  · exact ⟨(getT_ok l).f, (getT_ok l).t⟩
  · split
    · exact ⟨(getU_ok l).f, (getU_ok l).t⟩
    · exact ⟨by decide, by decide⟩
theorem qports_is (p : Nat) (l : List UInt8) : qportsM p l = portsM p l := rfl
set_option maxRecDepth 100000 in
set_option maxHeartbeats 16000000 in
theorem tgets_yes (A : Option Addr) (n c : Nat) (bl : List UInt8) (x : EndA) (pr : Int) (w : World) (h : Byt w A n c bl) (hx : x.s < 4294967296 ∧ x.t < 4294967296) (hpr : (Lit.int .u8 pr).wf = true) (hG : Gl w) :
    Calls Tryd.prog 3 #[.slice A n c, .agg #[.int .u32 (x.s : Int), .int .u32 (x.t : Int)], .int .u8 pr] w fun e w' => e = .returned (.bool true) ∧ Below w.heap.size w w' := by
  obtain ⟨s, d⟩ := x
  obtain ⟨hs, hd⟩ := hx
  dsimp only at hs hd ⊢
  have hb8 := wfu8 pr hpr
  obtain ⟨p, rfl⟩ := Int.eq_ofNat_of_zero_le hb8.1
  have hp : p < 256 := by omega
  have HX := Lib.hid (And.intro hs (And.intro hd hp))
  clear hb8 hpr
  have hnc := h.2.1
  obtain ⟨m, hm, hmn, hm1, hm2, hm3⟩ := min200 n
  have hsl := run_cut_hi (P := Tryd.prog) Tryd.underlying22 inf5.1 A n c m (m : Int) rfl (by omega)
  have HBY := Lib.hid (h.pre hm1)
  have HM := Lib.hid (And.intro hm2 (show m ≤ c by omega))
  have hll : (bl.take m).length = m := by rw [List.length_take, h.1]; omega
  generalize bl.take m = l at *
  have HLL := Lib.hid hll
  clear h hm1 hm2 hnc hll hm3
  have hpl := ports_lt p l
  have C1 := Lib.hid (fun B b w hb => tget_yes B m b l w hb (by have := HM.out.1; omega))
  have C2 := Lib.hid (fun w hb => qget_yes A m c l w hb (by have := HM.out.1; omega))
  have C3 := Lib.hid (fun B b w hb => uget_yes B m b l w hb (by have := HM.out.1; omega))
  have C4 := Lib.hid (fun w hb => quget_yes A m c l w hb (by have := HM.out.1; omega))
  have C5 := Lib.hid (fun B b w hb => tports_yes p hp B m b l w hb (by have := HM.out.1; omega))
  have C6 := Lib.hid (fun w hb => qports_yes p hp A m c l w hb (by have := HM.out.1; omega))
  have C7 := Lib.hid (fun B b w hb => tseal_yes s d p hs hd hp B m b l w hb (by have := HM.out.1; omega))
  have C8 := Lib.hid (fun w hb => qseal_yes s d p hs hd hp A m c l w hb (by have := HM.out.1; omega))
  have C9 := Lib.hid (fun B b w hb => tright_yes s d p hs hd hp B m b l w hb (by have := HM.out.1; omega))
  have C10 := Lib.hid (fun w hb => qright_yes s d p hs hd hp A m c l w hb (by have := HM.out.1; omega))
  have OT := Lib.hid (getT_ok l)
  have OU := Lib.hid (getU_ok l)
  rw [show qportsM p l = portsM p l from rfl] at C6
  generalize getT l = R at *
  generalize getU l = R' at *
  generalize portsM p l = PP at *
  generalize sealM s d p l = SS at *
  generalize rightM s d p l = RR at *
  obtain ⟨T, E⟩ := R
  obtain ⟨U, F⟩ := R'
  obtain ⟨P1, P2, P3⟩ := PP
  obtain ⟨S1, E3⟩ := SS
  dsimp only at hpl OT OU C5 C6
  obtain ⟨hp1, hp2⟩ := hpl
  have HGG := Lib.hid hG
  clear hs hd hG
  have hz0 := Blo.new w 25 #[.int .u32 (s : Int), .int .u32 (d : Int)]
  have x0 := fun d' os => (hz0.kept (kept_grown' _ d' os) (fun hf => hf)).cell 0
  have x1 := fun d' os => (hz0.kept (kept_grown' _ d' os) (fun hf => hf)).cell 1
  have HK0 := Lib.hid ((Kept.refl Nil w).alloc (.cells #[.int .u32 (s : Int), .int .u32 (d : Int)] 25))
  clear hz0
  simp only [List.getElem?_toArray, List.getElem?_cons_zero, List.getElem?_cons_succ] at x0 x1
  go_enter Tryd.func3, Tryd.ntmps3
  go_wp2_with (fail)
  refine wp_region_quiet_below (by kernel_rfl) (by kernel_rfl) ?_
  repeat (go_big_quiet_step (fail))
  refine wpQuiet_nil ?_
  rintro wz ⟨nq, hw⟩
  have HK0 := Lib.hid (HK0.out.then (show Kept Nil _ wz by rw [hw]; exact kept_grown _ _))
  clear hw x0 x1
  go_wp2_with (fail)
  refine (bclone _ _ _ _ _ (HBY.out.kept HK0.out (fun _ _ hf => hf)) (by have := HM.out.1; omega)).mono ?_
  rintro e u0 ⟨v, rfl, hmd⟩
  obtain ⟨A1, c1, rfl, hy, _⟩ := byt_own hmd
  rw [HLL.out] at hy ⊢
  have HK := Lib.hid (HK0.out.then hmd.2)
  have HY := Lib.hid hy
  have HB := Lib.hid (HBY.out.kept HK.out (fun _ _ hf => hf))
  clear HK0 hmd hy HBY hsl hm hmn
  go_wp2_with (fail)

  refine (C1.out A1 c1 _ HY.out).mono ?_
  rintro e u1a ⟨B1, n1, d1, B2, n2, d2, rfl, ⟨hq1, _⟩, ⟨hq2, _⟩, hk⟩
  dsimp only
  have HQ1 := Lib.hid hq1
  have HQ2 := Lib.hid hq2
  have HZ := Lib.hid (TB.new u1a 29 Tc.zero none 0 0 none 0 0)
  have HJ := Lib.hid hk
  clear hk hq1 hq2
  go_upto_region 5 with (first
    | (refine wpList_st rfl _ (.tmp 10) _ rfl u1a.heap.size 0 rfl (tcs T B1 n1 d1 B2 n2 d2) _ rfl rfl (infTc _ _ _ _ _ _ _) 29 _ HZ.out (by rw [tcs_len, tcs_len]; omega) (tcs_one _ _ _ _ _ _ _) ?_; intro u1 hb hks hz; simp only [Act.put])
    | fail)
  have hks2 := ((Kept.refl Nil u1a).alloc (.cells (tcs Tc.zero none 0 0 none 0 0).toArray 29)).fresh hks (fun i hi => by cases hi; exact Nat.le_refl _)
  obtain ⟨g1, hg⟩ : ∃ g, u1a.heap.size = g := ⟨_, rfl⟩
  have HT1 := Lib.hid (show TB u1 u1a.heap.size 29 T B1 n1 d1 B2 n2 d2 from hb)
  have HQ1 := Lib.hid (HQ1.out.kept hks2 (fun _ _ hf => hf))
  have HQ2 := Lib.hid (HQ2.out.kept hks2 (fun _ _ hf => hf))
  have HJ1 := Lib.hid (HJ.out.then hks2)
  have HY := Lib.hid (HY.out.kept HJ1.out (fun _ _ hf => hf))
  have HB := Lib.hid (HB.out.kept HJ1.out (fun _ _ hf => hf))
  have HK := Lib.hid (HK.out.then HJ1.out)
  rw [hg] at HT1 ⊢
  clear hb hks hz hks2 hg HZ HJ
  go_wp2_with (fail)
  refine (C2.out _ HB.out).mono ?_
  rintro e u2a ⟨B3, n3, d3, B4, n4, d4, rfl, hq3, hq4, hk⟩
  dsimp only
  have HQ3 := Lib.hid hq3
  have HQ4 := Lib.hid hq4
  have HZ := Lib.hid (TQ.new u2a 34 Tc.zero none 0 0 none 0 0)
  have HJ := Lib.hid hk
  clear hk hq3 hq4
  go_upto_region 6 with (first
    | (refine wpList_st rfl _ (.tmp 12) _ rfl u2a.heap.size 0 rfl (tqs T B3 n3 d3 B4 n4 d4) _ rfl rfl (infTq _ _ _ _ _ _ _) 34 _ HZ.out (by rw [tqs_len, tqs_len]; omega) (tqs_one _ _ _ _ _ _ _) ?_; intro u2 hb hks hz; simp only [Act.put])
    | fail)
  have hks2 := ((Kept.refl Nil u2a).alloc (.cells (tqs Tc.zero none 0 0 none 0 0).toArray 34)).fresh hks (fun i hi => by cases hi; exact Nat.le_refl _)
  obtain ⟨g2, hg⟩ : ∃ g, u2a.heap.size = g := ⟨_, rfl⟩
  have HT2 := Lib.hid (show TQ u2 u2a.heap.size 34 T B3 n3 d3 B4 n4 d4 from hb)
  have HQ3 := Lib.hid (HQ3.out.kept hks2 (fun _ _ hf => hf))
  have HQ4 := Lib.hid (HQ4.out.kept hks2 (fun _ _ hf => hf))
  have HJ2 := Lib.hid (HJ.out.then hks2)
  have HY := Lib.hid (HY.out.kept HJ2.out (fun _ _ hf => hf))
  have HB := Lib.hid (HB.out.kept HJ2.out (fun _ _ hf => hf))
  have HK := Lib.hid (HK.out.then HJ2.out)
  rw [hg] at HT2 ⊢
  clear hb hks hz hks2 hg HZ HJ
  go_wp2_with (fail)
  refine (C3.out A1 c1 _ HY.out).mono ?_
  rintro e u3a ⟨B5, n5, d5, rfl, ⟨hq5, _⟩, hk⟩
  dsimp only
  have HQ5 := Lib.hid hq5
  have HZ := Lib.hid (UB.new u3a 38 Ud.zero none 0 0)
  have HJ := Lib.hid hk
  clear hk hq5
  go_upto_region 7 with (first
    | (refine wpList_st rfl _ (.tmp 14) _ rfl u3a.heap.size 0 rfl (ucs U B5 n5 d5) _ rfl rfl (infUc _ _ _ _) 38 _ HZ.out (by rw [ucs_len, ucs_len]; omega) (ucs_one _ _ _ _) ?_; intro u3 hb hks hz; simp only [Act.put])
    | fail)
  have hks2 := ((Kept.refl Nil u3a).alloc (.cells (ucs Ud.zero none 0 0).toArray 38)).fresh hks (fun i hi => by cases hi; exact Nat.le_refl _)
  obtain ⟨g3, hg⟩ : ∃ g, u3a.heap.size = g := ⟨_, rfl⟩
  have HT3 := Lib.hid (show UB u3 u3a.heap.size 38 U B5 n5 d5 from hb)
  have HQ5 := Lib.hid (HQ5.out.kept hks2 (fun _ _ hf => hf))
  have HJ3 := Lib.hid (HJ.out.then hks2)
  have HY := Lib.hid (HY.out.kept HJ3.out (fun _ _ hf => hf))
  have HB := Lib.hid (HB.out.kept HJ3.out (fun _ _ hf => hf))
  have HK := Lib.hid (HK.out.then HJ3.out)
  rw [hg] at HT3 ⊢
  clear hb hks hz hks2 hg HZ HJ
  go_wp2_with (fail)
  refine (C4.out _ HB.out).mono ?_
  rintro e u4a ⟨B6, n6, d6, rfl, hq6, hk⟩
  dsimp only
  have HQ6 := Lib.hid hq6
  have HZ := Lib.hid (UQ.new u4a 42 Ud.zero none 0 0)
  have HJ := Lib.hid hk
  clear hk hq6
  go_upto_region 8 with (first
    | (refine wpList_st rfl _ (.tmp 16) _ rfl u4a.heap.size 0 rfl (uqs U B6 n6 d6) _ rfl rfl (infUq _ _ _ _) 42 _ HZ.out (by rw [uqs_len, uqs_len]; omega) (uqs_one _ _ _ _) ?_; intro u4 hb hks hz; simp only [Act.put])
    | fail)
  have hks2 := ((Kept.refl Nil u4a).alloc (.cells (uqs Ud.zero none 0 0).toArray 42)).fresh hks (fun i hi => by cases hi; exact Nat.le_refl _)
  obtain ⟨g4, hg⟩ : ∃ g, u4a.heap.size = g := ⟨_, rfl⟩
  have HT4 := Lib.hid (show UQ u4 u4a.heap.size 42 U B6 n6 d6 from hb)
  have HQ6 := Lib.hid (HQ6.out.kept hks2 (fun _ _ hf => hf))
  have HJ4 := Lib.hid (HJ.out.then hks2)
  have HY := Lib.hid (HY.out.kept HJ4.out (fun _ _ hf => hf))
  have HB := Lib.hid (HB.out.kept HJ4.out (fun _ _ hf => hf))
  have HK := Lib.hid (HK.out.then HJ4.out)
  rw [hg] at HT4 ⊢
  clear hb hks hz hks2 hg HZ HJ
  go_wp2_with (fail)
  refine (C5.out A1 c1 _ HY.out).mono ?_
  rintro e u5 ⟨rfl, hk⟩
  dsimp only
  have HJ5 := Lib.hid hk
  have HY := Lib.hid (HY.out.kept hk (fun _ _ hf => hf))
  have HB := Lib.hid (HB.out.kept hk (fun _ _ hf => hf))
  have HK := Lib.hid (HK.out.then hk)
  clear hk
  go_wp2_with (fail)
  refine (C6.out _ HB.out).mono ?_
  rintro e u6 ⟨rfl, hk⟩
  dsimp only
  have HJ6 := Lib.hid hk
  have HY := Lib.hid (HY.out.kept hk (fun _ _ hf => hf))
  have HB := Lib.hid (HB.out.kept hk (fun _ _ hf => hf))
  have HK := Lib.hid (HK.out.then hk)
  clear hk
  go_wp2_with (fail)
  refine (C7.out A1 c1 _ HY.out).mono ?_
  rintro e u7 ⟨v, rfl, hmd⟩
  obtain ⟨D7, f7, rfl, hy, _⟩ := byt_own hmd
  dsimp only at hy ⊢
  have HS7 := Lib.hid hy
  have HJ7 := Lib.hid hmd.2
  have HY := Lib.hid (HY.out.kept HJ7.out (fun _ _ hf => hf))
  have HB := Lib.hid (HB.out.kept HJ7.out (fun _ _ hf => hf))
  have HK := Lib.hid (HK.out.then HJ7.out)
  clear hmd hy
  go_wp2_with (fail)
  refine (C8.out _ HB.out).mono ?_
  rintro e u8 ⟨v, rfl, hmd⟩
  obtain ⟨D8, f8, rfl, hy, _⟩ := byt_own hmd
  dsimp only at hy ⊢
  have HS8 := Lib.hid hy
  have HJ8 := Lib.hid hmd.2
  have HY := Lib.hid (HY.out.kept HJ8.out (fun _ _ hf => hf))
  have HB := Lib.hid (HB.out.kept HJ8.out (fun _ _ hf => hf))
  have HK := Lib.hid (HK.out.then HJ8.out)
  clear hmd hy
  have HS7 := Lib.hid (HS7.out.kept HJ8.out (fun _ _ hf => hf))
  have k4 := ((HJ5.out.then HJ6.out).then HJ7.out).then HJ8.out
  have k3 := HJ4.out.then k4
  have k2 := HJ3.out.then k3
  have k1 := HJ2.out.then k2
  have HT1 := Lib.hid (HT1.out.kept k1 (fun hf => hf))
  have HT2 := Lib.hid (HT2.out.kept k2 (fun hf => hf))
  have HT3 := Lib.hid (HT3.out.kept k3 (fun hf => hf))
  have HT4 := Lib.hid (HT4.out.kept k4 (fun hf => hf))
  have HQ1 := Lib.hid (HQ1.out.kept k1 (fun _ _ hf => hf))
  have HQ2 := Lib.hid (HQ2.out.kept k1 (fun _ _ hf => hf))
  have HQ3 := Lib.hid (HQ3.out.kept k2 (fun _ _ hf => hf))
  have HQ4 := Lib.hid (HQ4.out.kept k2 (fun _ _ hf => hf))
  have HQ5 := Lib.hid (HQ5.out.kept k3 (fun _ _ hf => hf))
  have HQ6 := Lib.hid (HQ6.out.kept k4 (fun _ _ hf => hf))
  clear k1 k2 k3 k4 HJ1 HJ2 HJ3 HJ4 HJ5 HJ6 HJ7 HJ8
  go_wp2_with (fail)
  have hof1 : ∀ u, Calls Tryd.prog 19 #[.agg (tcs T B1 n1 d1 B2 n2 d2).toArray] u fun e w' => e = .returned (.agg (tqs T B1 n1 d1 B2 n2 d2).toArray) ∧ Kept Nil u w' := fun u => oft_yes T OT.out B1 n1 d1 B2 n2 d2 u
  have hof2 : ∀ u, Calls Tryd.prog 21 #[.agg (ucs U B5 n5 d5).toArray] u fun e w' => e = .returned (.agg (uqs U B5 n5 d5).toArray) ∧ Kept Nil u w' := fun u => ofu_yes U OU.out B5 n5 d5 u
  have hsm1 := fun dr os => tsame_yes T B1 n1 d1 B2 n2 d2 B3 n3 d3 B4 n4 d4 (grow (redrawn u8 dr) os) (HQ1.out.kept (kept_grown' u8 dr os) (fun _ _ hf => hf)) (HQ2.out.kept (kept_grown' u8 dr os) (fun _ _ hf => hf)) (HQ3.out.kept (kept_grown' u8 dr os) (fun _ _ hf => hf)) (HQ4.out.kept (kept_grown' u8 dr os) (fun _ _ hf => hf))
  have hsm2 := fun dr os => ulike_yes U B5 n5 d5 B6 n6 d6 (grow (redrawn u8 dr) os) (HQ5.out.kept (kept_grown' u8 dr os) (fun _ _ hf => hf)) (HQ6.out.kept (kept_grown' u8 dr os) (fun _ _ hf => hf))
  have hq1 : ∀ dr os, Calls Tryd.prog 22 #[.slice D7 S1.length f7, .slice D8 S1.length f8] (grow (redrawn u8 dr) os) fun e w' => e = .returned (.bool true) ∧ grow (redrawn u8 dr) os = w' := fun dr os => by
    have := equal _ _ _ _ _ _ _ _ _ (HS7.out.kept (kept_grown' u8 dr os) (fun _ _ hf => hf)) (HS8.out.kept (kept_grown' u8 dr os) (fun _ _ hf => hf))
    rw [beq_self_eq_true] at this
    exact this
  have hq2 : ∀ dr os, Calls Tryd.prog 22 #[.slice A1 m c1, .slice A m c] (grow (redrawn u8 dr) os) fun e w' => e = .returned (.bool true) ∧ grow (redrawn u8 dr) os = w' := fun dr os => by
    have := equal _ _ _ _ _ _ _ _ _ (HY.out.kept (kept_grown' u8 dr os) (fun _ _ hf => hf)) (HB.out.kept (kept_grown' u8 dr os) (fun _ _ hf => hf))
    rw [beq_self_eq_true] at this
    exact this
  have hr1 := fun dr os => C9.out A1 c1 (grow (redrawn u8 dr) os) (HY.out.kept (kept_grown' u8 dr os) (fun _ _ hf => hf))
  have hr2 := fun dr os => C10.out (grow (redrawn u8 dr) os) (HB.out.kept (kept_grown' u8 dr os) (fun _ _ hf => hf))
  refine wp_region_quiet_below (by kernel_rfl) (by kernel_rfl) ?_
  repeat (first
    | (refine wpQuiet_ld rfl _ _ rfl g1 0 rfl (tcs T B1 n1 d1 B2 n2 d2) (fun w1 hw => row_grown HT1.out.all hw) _ Tryd.underlying29 rfl (infTc _ _ _ _ _ _ _) ?_; simp only [Act.put, List.setIfInBounds_toArray, List.set_cons_succ, List.set_cons_zero])
    | (refine wpQuiet_ld rfl _ _ rfl g2 0 rfl (tqs T B3 n3 d3 B4 n4 d4) (fun w1 hw => row_grown HT2.out.all hw) _ Tryd.underlying34 rfl (infTq _ _ _ _ _ _ _) ?_; simp only [Act.put, List.setIfInBounds_toArray, List.set_cons_succ, List.set_cons_zero])
    | (refine wpQuiet_ld rfl _ _ rfl g3 0 rfl (ucs U B5 n5 d5) (fun w1 hw => row_grown HT3.out.all hw) _ Tryd.underlying38 rfl (infUc _ _ _ _) ?_; simp only [Act.put, List.setIfInBounds_toArray, List.set_cons_succ, List.set_cons_zero])
    | (refine wpQuiet_ld rfl _ _ rfl g4 0 rfl (uqs U B6 n6 d6) (fun w1 hw => row_grown HT4.out.all hw) _ Tryd.underlying42 rfl (infUq _ _ _ _) ?_; simp only [Act.put, List.setIfInBounds_toArray, List.set_cons_succ, List.set_cons_zero])
    | (go_big_quiet_step (first | with_reducible exact quietK (hof1 _) | with_reducible exact quietK (hof2 _) | with_reducible exact quietK (hsm1 _ _) | with_reducible exact quietK (hsm2 _ _) | with_reducible exact quietS (hq1 _ _) | with_reducible exact quietS (hq2 _ _) | with_reducible exact quietK (hr1 _ _) | with_reducible exact quietK (hr2 _ _) | with_reducible exact quietK (twakes_yes _ ((HGG.out.kept HK.out).kept (kept_grown' _ _ _)).nm))))
  refine wpQuiet_nil ?_
  rintro wz ⟨nq, hw⟩
  have HKz := Lib.hid (HK.out.then (show Kept Nil u8 wz by rw [hw]; exact kept_grown _ _))
  clear hw
  go_wp2
  go_ret
  exact ⟨rfl, HKz.out.below (Nat.le_refl _) (fun _ hf => hf.elim)⟩
end Go.Proofs.YthjbabkmjmfmjaaDoor
