/- Texts that belong together, one behind the other: RbC, RbD. Conditions: those of each. -/
import Derived.Test.YtiehmpiaddjhiaaDoorMg29
import Derived.Test.YtiehmpiaddjhiaaDoorMg15
/- tollref11: To. -/
namespace Go.Proofs.YtiehmpiaddjhiaaDoor
open Go.RowKit Go.Sort
set_option linter.unusedVariables false

set_option maxRecDepth 100000 in
set_option maxHeartbeats 4000000 in
theorem rto_yes (m : Bk) (hm : m.ok) (now : Int) (hn : -9223372036854775808 ≤ now ∧ now ≤ 9223372036854775807) (w : World) : Calls Tryd.prog 11 #[bkv m, .int .i64 now] w fun e w' => e = .returned (bkv (brM m now)) ∧ Kept Nil w w' := by
  have hP : KR (w.alloc (.cells (bkl m).toArray 29)) w.heap.size m := Blo.new w _ _
  have hQ : KR ((w.alloc (.cells (bkl m).toArray 29)).alloc (.cells (bkl Bk.zero).toArray 29)) (w.heap.size + 1) Bk.zero := by
    have := Blo.new (w.alloc (.cells (bkl m).toArray 29)) 29 (bkl Bk.zero).toArray
    rwa [World.size_alloc] at this
  have hk0 := ((Kept.refl Nil w).alloc (.cells (bkl m).toArray 29)).alloc (.cells (bkl Bk.zero).toArray 29)
  have HOK := Lib.hid hm
  have HN := Lib.hid hn
  have HC := Lib.hid (clB_cl hm)
  have HCL := Lib.hid (rcl_yes m hm)
  have HBR := Lib.hid (show brM m now = if (clB m).a < now then { clB m with l := afM (clB m) (now - (clB m).a).toNat, a := now } else clB m from rfl)
  clear hm hn
  go_enter Tryd.func11, Tryd.ntmps11
  go_upto_region 1 with (fail)
  refine wp_nameE (fun W => KR W w.heap.size m ∧ KR W (w.heap.size + 1) Bk.zero ∧ Kept Nil w W) ⟨hP.kept ((Kept.refl Nil _).alloc _) (fun hf => hf), hQ, hk0⟩ ?_
  clear hP hQ hk0
  rintro W ⟨hP, hQ, hk⟩
  obtain ⟨g1, hg1⟩ : ∃ g, w.heap.size = g := ⟨_, rfl⟩
  rw [hg1] at hP hQ ⊢
  have HW := Lib.hid (show w.heap.size ≤ g1 by omega)
  have HP := Lib.hid hP
  have HQ := Lib.hid hQ
  have HK := Lib.hid hk
  clear hP hQ hk hg1
  go_wp2_with (first
    | (refine wpList_ld rfl _ (.tmp 2) rfl g1 0 rfl (bkl m) HP.out.all _ Tryd.underlying29 rfl (infBr _) ?_; simp only [Act.put, List.setIfInBounds_toArray, List.set_cons_succ, List.set_cons_zero])
    | fail)
  refine (HCL.out _).mono ?_
  rintro e w1 ⟨rfl, hk⟩
  have HP := Lib.hid (HP.out.kept hk (fun hf => hf))
  have HQ := Lib.hid (HQ.out.kept hk (fun hf => hf))
  have HK := Lib.hid (HK.out.then hk)
  clear hk
  generalize hzz : brM m now = Z at *
  have HZ := Lib.hid hzz
  clear hzz
  generalize clB m = c at *
  dsimp only
  go_upto_region 2 with (first
    | (refine wpList_st rfl 29 (.tmp 2) _ rfl g1 0 rfl (bkl c) _ rfl rfl (infBr _) 29 _ HP.out (by show 0 + 4 ≤ 4; decide) (bkl_one _) ?_; intro w2 hb2 hk2 hz2; simp only [Act.put, List.setIfInBounds_toArray, List.set_cons_succ, List.set_cons_zero])
    | fail)
  have HP := Lib.hid (show KR w2 g1 c from hb2)
  have HQ := Lib.hid (HQ.out.kept hk2 (fun hf => by have h1 : g1 + 1 = g1 := hf; omega))
  have HK := Lib.hid (HK.out.fresh hk2 (fun i hi => by have h1 := HW.out; have h2 : i = g1 := hi; omega))
  clear hb2 hk2 hz2
  have c3 := HP.out.c3
  obtain ⟨ha1, ha2⟩ := HC.out.a
  obtain ⟨hn1, hn2⟩ := HN.out
  by_cases hlt : c.a < now
  · rw [if_pos hlt] at HBR
    go_upto_region 3 with (fail)
    obtain ⟨D, hD⟩ : ∃ D : Nat, now - c.a = (D : Int) := ⟨(now - c.a).toNat, by omega⟩
    have hDt : (now - c.a).toNat = D := by omega
    have hD64 : D < 18446744073709551616 := by omega
    rw [hDt] at HBR
    obtain ⟨N1, hN1⟩ : ∃ x, IntKind.u64.wrap now = x := ⟨_, rfl⟩
    obtain ⟨N2, hN2⟩ : ∃ x, IntKind.u64.wrap c.a = x := ⟨_, rfl⟩
    have hc1 : ∀ u, (convert 2 22 (.int .i64 now)).run Tryd.prog u = .ok (.int .u64 N1) u := fun u => by rw [← hN1]; simp [convert, run_underlying Tryd.underlying2, run_underlying Tryd.underlying22, Conv.intToInt]
    have hc2 : ∀ u, (convert 2 22 (.int .i64 c.a)).run Tryd.prog u = .ok (.int .u64 N2) u := fun u => by rw [← hN2]; simp [convert, run_underlying Tryd.underlying2, run_underlying Tryd.underlying22, Conv.intToInt]
    have hsb : IntKind.u64.wrap (N1 - N2) = (D : Int) := by
      rw [← hN1, ← hN2]
      show (now % 18446744073709551616 - c.a % 18446744073709551616) % 18446744073709551616 = (D : Int)
      omega
    have HSB := Lib.hid hsb
    have haf := rafter_yes c HC.out D hD64
    obtain ⟨AF, hAF⟩ : ∃ x, afM c D = x := ⟨_, rfl⟩
    rw [hAF] at haf HBR
    have HAF := Lib.hid haf
    clear hD hDt hD64 hN1 hN2 hAF hlt ha1 ha2 hn1 hn2 haf hsb
    go_wp2_with (first
      | (refine wpList_ld rfl _ (.tmp 2) rfl g1 0 rfl (bkl c) HP.out.all _ Tryd.underlying29 rfl (infBr _) ?_; simp only [Act.put, List.setIfInBounds_toArray, List.set_cons_succ, List.set_cons_zero])
      | fail)
    rw [HSB.out]
    refine (HAF.out _).mono ?_
    rintro e w3 ⟨rfl, hk⟩
    have HP := Lib.hid (HP.out.kept hk (fun hf => hf))
    have HQ := Lib.hid (HQ.out.kept hk (fun hf => hf))
    have HK := Lib.hid (HK.out.then hk)
    clear hk hc1 hc2 c3
    dsimp only
    go_upto_region 5 with (first
      | (refine wpList_st rfl 24 (.tmp 19) _ rfl g1 2 rfl [.float .f64 AF] _ rfl rfl infFl 29 _ HP.out (by show 2 + 1 ≤ 4; decide) (one_of _ rfl) ?_; intro w4 hb4 hk4 hz4; have HP4 := Lib.hid (show KR w4 g1 { c with l := AF } from hb4); simp only [Act.put, List.setIfInBounds_toArray, List.set_cons_succ, List.set_cons_zero])
      | (refine wpList_st rfl 2 (.tmp 21) _ rfl g1 3 rfl [.int .i64 now] _ rfl rfl infI6 29 _ HP4.out (by show 3 + 1 ≤ 4; decide) (one_of _ rfl) ?_; intro w5 hb5 hk5 hz5; simp only [Act.put, List.setIfInBounds_toArray, List.set_cons_succ, List.set_cons_zero])
      | fail)
    have HP := Lib.hid (show KR w5 g1 Z by rw [HBR.out]; exact hb5)
    have hk45 := hk4.trans hk5 (fun _ _ hf => hf)
    have HQ := Lib.hid (HQ.out.kept hk45 (fun hf => by have h1 : g1 + 1 = g1 := hf; omega))
    have HK := Lib.hid (HK.out.fresh hk45 (fun i hi => by have h1 := HW.out; have h2 : i = g1 := hi; omega))
    clear hb4 hk4 hz4 hb5 hk5 hz5 hk45 HP4
    go_wp2_with (first
      | (refine wpList_ld rfl _ (.tmp 2) rfl g1 0 rfl (bkl Z) HP.out.all _ Tryd.underlying29 rfl (infBr _) ?_; simp only [Act.put, List.setIfInBounds_toArray, List.set_cons_succ, List.set_cons_zero])
      | (refine wpList_st rfl 29 (.tmp 4) _ rfl (g1 + 1) 0 rfl (bkl Z) _ rfl rfl (infBr _) 29 _ HQ.out (by show 0 + 4 ≤ 4; decide) (bkl_one _) ?_; intro w6 hb6 hk6 hz6; simp only [Act.put, List.setIfInBounds_toArray, List.set_cons_succ, List.set_cons_zero])
      | fail)
    have hQ : KR w6 (g1 + 1) Z := hb6
    refine bodyPost_ret (res_cell0 Tryd.results11 rfl hQ.all Tryd.underlying29 rfl (infBr _)) rfl ⟨by rw [HZ.out]; rfl, ?_⟩
    exact HK.out.fresh hk6 (fun i hi => by have h1 := HW.out; have h2 : i = g1 + 1 := hi; omega)
  · rw [if_neg hlt] at HBR
    go_upto_region 5 with (fail)
    have hzb := HBR.out
    have HP := Lib.hid (show KR w2 g1 Z by rw [hzb]; exact HP.out)
    clear hzb
    clear c3
    go_wp2_with (first
      | (refine wpList_ld rfl _ (.tmp 2) rfl g1 0 rfl (bkl Z) HP.out.all _ Tryd.underlying29 rfl (infBr _) ?_; simp only [Act.put, List.setIfInBounds_toArray, List.set_cons_succ, List.set_cons_zero])
      | (refine wpList_st rfl 29 (.tmp 4) _ rfl (g1 + 1) 0 rfl (bkl Z) _ rfl rfl (infBr _) 29 _ HQ.out (by show 0 + 4 ≤ 4; decide) (bkl_one _) ?_; intro w6 hb6 hk6 hz6; simp only [Act.put, List.setIfInBounds_toArray, List.set_cons_succ, List.set_cons_zero])
      | fail)
    have hQ : KR w6 (g1 + 1) Z := hb6
    refine bodyPost_ret (res_cell0 Tryd.results11 rfl hQ.all Tryd.underlying29 rfl (infBr _)) rfl ⟨by rw [HZ.out]; rfl, ?_⟩
    exact HK.out.fresh hk6 (fun i hi => by have h1 := HW.out; have h2 : i = g1 + 1 := hi; omega)
end Go.Proofs.YtiehmpiaddjhiaaDoor
/- tollref11: Take; tolllaw11.same. -/
namespace Go.Proofs.YtiehmpiaddjhiaaDoor
open Go.RowKit Go.Sort
set_option linter.unusedVariables false

theorem rk_clean {l : Nat} (h : l ≤ INFB) : rkM l = if l = INFB then 2 else 1 := by
  obtain ⟨h1, h2⟩ := clean_key h
  have e1 : ltF MXF l = decide (MXF < l) := lt_clean (by decide) h
  have e2 : ltF l NXF = false := by
    unfold ltF
    rw [h2, show keyF NXF = -9218868437227405311 by decide, decide_eq_false (by omega), Bool.and_false]
  have hM : MXF = INFB - 1 := by decide
  have hI : 0 < INFB := by decide
  unfold rkM
  rw [h1, e1, e2, hM]
  by_cases h3 : l = INFB
  · rw [if_pos h3, decide_eq_true (by omega)]; rfl
  · rw [if_neg h3, decide_eq_false (by omega)]; rfl
set_option maxRecDepth 100000 in
set_option maxHeartbeats 4000000 in
theorem rtake_yes (m : Bk) (hm : m.ok) (now : Int) (hn : -9223372036854775808 ≤ now ∧ now ≤ 9223372036854775807) (n s : Nat) (hn64 : n < 18446744073709551616) (hs : ¬ (brM m now).l < clF n → (brM m now).l ≠ INFB → Ieee.double.sub (brM m now).l (clF n) = some s) (w : World) : Calls Tryd.prog 10 #[bkv m, .int .i64 now, .float .f64 n] w fun e w' => e = .returned (.tuple #[bkv (tkM m now n s), .bool (!decide ((brM m now).l < clF n))]) ∧ Kept Nil w w' := by
  have hP : KR (w.alloc (.cells (bkl m).toArray 29)) w.heap.size m := Blo.new w _ _
  have hQ : KR ((w.alloc (.cells (bkl m).toArray 29)).alloc (.cells (bkl Bk.zero).toArray 29)) (w.heap.size + 1) Bk.zero := by
    have := Blo.new (w.alloc (.cells (bkl m).toArray 29)) 29 (bkl Bk.zero).toArray
    rwa [World.size_alloc] at this
  have hk0 := ((Kept.refl Nil w).alloc (.cells (bkl m).toArray 29)).alloc (.cells (bkl Bk.zero).toArray 29)
  have HTO := Lib.hid (rto_yes m hm now hn)
  have HCN := Lib.hid (rclean_yes n hn64)
  have hcl := brM_cl hm now hn
  have hnl := clF_le hn64
  have hlI := Nat.le_trans hcl.l hcl.b
  have hgt := gt_cl hnl hlI
  have HRK := Lib.hid (by have := rank_yes (brM m now).l (clean_of hlI); rw [rk_clean hlI] at this; exact this)
  have HTK := Lib.hid (show tkM m now n s = if (brM m now).l < clF n then brM m now else if (brM m now).l = INFB then brM m now else { brM m now with l := s } from rfl)
  have HS := Lib.hid hs
  clear hm hn hn64 hcl hnl hlI hs
  generalize hzz : brM m now = Z at *
  generalize hnn : clF n = N at *
  clear hzz hnn
  go_enter Tryd.func10, Tryd.ntmps10
  go_upto_region 1 with (fail)
  refine wp_nameE (fun W => KR W w.heap.size m ∧ KR W (w.heap.size + 1) Bk.zero ∧ Kept Nil w W) ⟨hP.kept ((Kept.refl Nil _).alloc _) (fun hf => hf), hQ, hk0⟩ ?_
  clear hP hQ hk0
  rintro W ⟨hP, hQ, hk⟩
  obtain ⟨g1, hg1⟩ : ∃ g, w.heap.size = g := ⟨_, rfl⟩
  rw [hg1] at hP hQ ⊢
  have HW := Lib.hid (show w.heap.size ≤ g1 by omega)
  have HP := Lib.hid hP
  have HQ := Lib.hid hQ
  have HK := Lib.hid hk
  clear hP hQ hk hg1
  go_wp2_with (first
    | (refine wpList_ld rfl _ (.tmp 3) rfl g1 0 rfl (bkl m) HP.out.all _ Tryd.underlying29 rfl (infBr _) ?_; simp only [Act.put, List.setIfInBounds_toArray, List.set_cons_succ, List.set_cons_zero])
    | fail)
  refine (HTO.out _).mono ?_
  rintro e w1 ⟨rfl, hk⟩
  have HP := Lib.hid (HP.out.kept hk (fun hf => hf))
  have HQ := Lib.hid (HQ.out.kept hk (fun hf => hf))
  have HK := Lib.hid (HK.out.then hk)
  clear hk
  dsimp only
  go_upto_region 2 with (first
    | (refine wpList_st rfl 29 (.tmp 3) _ rfl g1 0 rfl (bkl Z) _ rfl rfl (infBr _) 29 _ HP.out (by show 0 + 4 ≤ 4; decide) (bkl_one _) ?_; intro w2 hb2 hk2 hz2; simp only [Act.put, List.setIfInBounds_toArray, List.set_cons_succ, List.set_cons_zero])
    | fail)
  have HP := Lib.hid (show KR w2 g1 Z from hb2)
  have HQ := Lib.hid (HQ.out.kept hk2 (fun hf => by have h1 : g1 + 1 = g1 := hf; omega))
  have HK := Lib.hid (HK.out.fresh hk2 (fun i hi => by have h1 := HW.out; have h2 : i = g1 := hi; omega))
  clear hb2 hk2 hz2
  go_wp2_with (fail)
  refine (HCN.out _).mono ?_
  rintro e w3 ⟨rfl, hk⟩
  have HP := Lib.hid (HP.out.kept hk (fun hf => hf))
  have HQ := Lib.hid (HQ.out.kept hk (fun hf => hf))
  have HK := Lib.hid (HK.out.then hk)
  clear hk
  dsimp only
  have c2 := HP.out.c2
  by_cases hlt : Z.l < N
  · rw [decide_eq_true hlt] at hgt
    rw [if_pos hlt] at HTK
    have HD := Lib.hid (show decide (Z.l < N) = true from decide_eq_true hlt)
    clear hlt
    go_upto_region 4 with (fail)
    clear c2 hgt
    go_wp2_with (first
      | (refine wpList_ld rfl _ (.tmp 3) rfl g1 0 rfl (bkl Z) HP.out.all _ Tryd.underlying29 rfl (infBr _) ?_; simp only [Act.put, List.setIfInBounds_toArray, List.set_cons_succ, List.set_cons_zero])
      | (refine wpList_st rfl 29 (.tmp 6) _ rfl (g1 + 1) 0 rfl (bkl Z) _ rfl rfl (infBr _) 29 _ HQ.out (by show 0 + 4 ≤ 4; decide) (bkl_one _) ?_; intro w6 hb6 hk6 hz6; simp only [Act.put, List.setIfInBounds_toArray, List.set_cons_succ, List.set_cons_zero])
      | fail)
    have hQ : KR w6 (g1 + 1) Z := hb6
    refine bodyPost_ret (res_cell1 Tryd.results10 rfl rfl hQ.all Tryd.underlying29 rfl (infBr _)) rfl ⟨by rw [HTK.out, HD.out]; rfl, ?_⟩
    exact HK.out.fresh hk6 (fun i hi => by have h1 := HW.out; have h2 : i = g1 + 1 := hi; omega)
  · rw [decide_eq_false hlt] at hgt
    rw [if_neg hlt] at HTK
    have HD := Lib.hid (show decide (Z.l < N) = false from decide_eq_false hlt)
    have HS := Lib.hid (HS.out hlt)
    clear hlt
    by_cases hin : Z.l = INFB
    · rw [if_pos hin] at HTK HRK
      clear hin
      go_wp2_with (fail)
      refine (HRK.out _).mono ?_
      rintro e w4 ⟨rfl, hk⟩
      have HP := Lib.hid (HP.out.kept hk (fun hf => hf))
      have HQ := Lib.hid (HQ.out.kept hk (fun hf => hf))
      have HK := Lib.hid (HK.out.then hk)
      clear hk c2 hgt
      dsimp only
      go_wp2_with (first
        | (refine wpList_ld rfl _ (.tmp 3) rfl g1 0 rfl (bkl Z) HP.out.all _ Tryd.underlying29 rfl (infBr _) ?_; simp only [Act.put, List.setIfInBounds_toArray, List.set_cons_succ, List.set_cons_zero])
        | (refine wpList_st rfl 29 (.tmp 6) _ rfl (g1 + 1) 0 rfl (bkl Z) _ rfl rfl (infBr _) 29 _ HQ.out (by show 0 + 4 ≤ 4; decide) (bkl_one _) ?_; intro w6 hb6 hk6 hz6; simp only [Act.put, List.setIfInBounds_toArray, List.set_cons_succ, List.set_cons_zero])
        | fail)
      have hQ : KR w6 (g1 + 1) Z := hb6
      refine bodyPost_ret (res_cell1 Tryd.results10 rfl rfl hQ.all Tryd.underlying29 rfl (infBr _)) rfl ⟨by rw [HTK.out, HD.out]; rfl, ?_⟩
      exact HK.out.fresh hk6 (fun i hi => by have h1 := HW.out; have h2 : i = g1 + 1 := hi; omega)
    · rw [if_neg hin] at HTK HRK
      have hsub : ∀ t u, (binOp .sub t (.float .f64 Z.l) (.float .f64 N)).run Tryd.prog u = .ok (.float .f64 s) u := fun t u => run_float_arith u .sub t .f64 _ _ _ (HS.out hin)
      clear hin
      go_wp2_with (fail)
      refine (HRK.out _).mono ?_
      rintro e w4 ⟨rfl, hk⟩
      have HP := Lib.hid (HP.out.kept hk (fun hf => hf))
      have HQ := Lib.hid (HQ.out.kept hk (fun hf => hf))
      have HK := Lib.hid (HK.out.then hk)
      clear hk c2 hgt
      have c2 := HP.out.c2
      dsimp only
      go_upto_region 7 with (first
        | (refine wpList_st rfl 24 (.tmp 26) _ rfl g1 2 rfl [.float .f64 s] _ rfl rfl infFl 29 _ HP.out (by show 2 + 1 ≤ 4; decide) (one_of _ rfl) ?_; intro w5 hb5 hk5 hz5; simp only [Act.put, List.setIfInBounds_toArray, List.set_cons_succ, List.set_cons_zero])
        | fail)
      have HP := Lib.hid (show KR w5 g1 { Z with l := s } from hb5)
      have HQ := Lib.hid (HQ.out.kept hk5 (fun hf => by have h1 : g1 + 1 = g1 := hf; omega))
      have HK := Lib.hid (HK.out.fresh hk5 (fun i hi => by have h1 := HW.out; have h2 : i = g1 := hi; omega))
      clear hb5 hk5 hz5 c2
      go_wp2_with (first
        | (refine wpList_ld rfl _ (.tmp 3) rfl g1 0 rfl (bkl { Z with l := s }) HP.out.all _ Tryd.underlying29 rfl (infBr _) ?_; simp only [Act.put, List.setIfInBounds_toArray, List.set_cons_succ, List.set_cons_zero])
        | (refine wpList_st rfl 29 (.tmp 6) _ rfl (g1 + 1) 0 rfl (bkl { Z with l := s }) _ rfl rfl (infBr _) 29 _ HQ.out (by show 0 + 4 ≤ 4; decide) (bkl_one _) ?_; intro w6 hb6 hk6 hz6; simp only [Act.put, List.setIfInBounds_toArray, List.set_cons_succ, List.set_cons_zero])
        | fail)
      have hQ : KR w6 (g1 + 1) { Z with l := s } := hb6
      refine bodyPost_ret (res_cell1 Tryd.results10 rfl rfl hQ.all Tryd.underlying29 rfl (infBr _)) rfl ⟨by rw [HTK.out, HD.out]; rfl, ?_⟩
      exact HK.out.fresh hk6 (fun i hi => by have h1 := HW.out; have h2 : i = g1 + 1 := hi; omega)
set_option maxRecDepth 100000 in
set_option maxHeartbeats 4000000 in
theorem same_yes (m : Bk) (hm : m.ok) (w : World) : Calls Tryd.prog 16 #[bkv m, bkv m] w fun e w' => e = .returned (.bool true) ∧ Kept Nil w w' := by
  have hP : KB (w.alloc (.cells (bkl m).toArray 26)) w.heap.size m := Blo.new w _ _
  have hQ : KR ((w.alloc (.cells (bkl m).toArray 26)).alloc (.cells (bkl m).toArray 29)) (w.heap.size + 1) m := by
    have := Blo.new (w.alloc (.cells (bkl m).toArray 26)) 29 (bkl m).toArray
    rwa [World.size_alloc] at this
  have hk0 := ((Kept.refl Nil w).alloc (.cells (bkl m).toArray 26)).alloc (.cells (bkl m).toArray 29)
  have hal : ∀ x : Nat, x < 18446744073709551616 → ∀ w : World, Calls Tryd.prog 12 #[.float .f64 x, .float .f64 x] w fun e w' => e = .returned (.bool true) ∧ Kept Nil w w' := fun x hx w => by
    have := falike_yes x x hx hx w
    rw [decide_eq_true rfl, Bool.true_or] at this
    exact this
  have H0 := Lib.hid (hal m.r hm.r)
  have H1 := Lib.hid (hal m.b hm.b)
  have H2 := Lib.hid (hal m.l hm.l)
  clear hal hm
  go_enter Tryd.func16, Tryd.ntmps16
  go_upto_region 1 with (fail)
  refine wp_nameE (fun W => KB W w.heap.size m ∧ KR W (w.heap.size + 1) m ∧ Kept Nil w W) ⟨hP.kept ((Kept.refl Nil _).alloc _) (fun hf => hf), hQ, hk0⟩ ?_
  clear hP hQ hk0
  rintro W ⟨hP, hQ, hk⟩
  obtain ⟨g1, hg1⟩ : ∃ g, w.heap.size = g := ⟨_, rfl⟩
  rw [hg1] at hP hQ ⊢
  have HP := Lib.hid hP
  have HQ := Lib.hid hQ
  have HK := Lib.hid hk
  have c0 := hP.c0
  have d0 := hQ.c0
  clear hP hQ hk hg1
  go_wp2_with (fail)
  refine (H0.out _).mono ?_
  rintro e w1 ⟨rfl, hk⟩
  have HP := Lib.hid (HP.out.kept hk (fun hf => hf))
  have HQ := Lib.hid (HQ.out.kept hk (fun hf => hf))
  have HK := Lib.hid (HK.out.then hk)
  clear hk c0 d0
  have c0 := HP.out.c1
  have d0 := HQ.out.c1
  dsimp only
  go_wp2_with (fail)
  refine (H1.out _).mono ?_
  rintro e w2 ⟨rfl, hk⟩
  have HP := Lib.hid (HP.out.kept hk (fun hf => hf))
  have HQ := Lib.hid (HQ.out.kept hk (fun hf => hf))
  have HK := Lib.hid (HK.out.then hk)
  clear hk c0 d0
  have c0 := HP.out.c2
  have d0 := HQ.out.c2
  dsimp only
  go_wp2_with (fail)
  refine (H2.out _).mono ?_
  rintro e w3 ⟨rfl, hk⟩
  have HP := Lib.hid (HP.out.kept hk (fun hf => hf))
  have HQ := Lib.hid (HQ.out.kept hk (fun hf => hf))
  have HK := Lib.hid (HK.out.then hk)
  clear hk c0 d0
  have c0 := HP.out.c3
  have d0 := HQ.out.c3
  dsimp only
  go_wp2_with (fail)
  go_ret
  exact ⟨by first | rfl | simp, HK.out⟩
end Go.Proofs.YtiehmpiaddjhiaaDoor
