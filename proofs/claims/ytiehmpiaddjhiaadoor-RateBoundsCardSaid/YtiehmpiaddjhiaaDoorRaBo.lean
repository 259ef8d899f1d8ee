/- tolllaw11.RateBounds: the walk. -/
import Derived.Test.YtiehmpiaddjhiaaDoorMg28
import Derived.Test.YtiehmpiaddjhiaaDoorMg15
import Derived.Deep.CutRange
import Derived.Deep.CutBlock
namespace Go.Proofs.YtiehmpiaddjhiaaDoor
open Go.RowKit Go.Sort
set_option linter.unusedVariables false

/-- What has been done so far. -/
structure BdW (w0 w : World) (g r B k now t L : Nat) : Prop where
  inv : BdI r B k now t L
  blo : KB w g ⟨r, B, L, (now : Int)⟩
  ge : w0.heap.size ≤ g
  kept : Kept Nil w0 w
theorem BdW.next {w0 w w' : World} {g r B k now t L : Nat} (h : BdW w0 w g r B k now t L) (q : Kept Nil w w') : BdW w0 w' g r B k now t L := ⟨h.inv, h.blo.kept q (fun hf => hf), h.ge, h.kept.then q⟩
set_option maxRecDepth 100000 in
set_option maxHeartbeats 16000000 in
theorem rbounds_yes (a1 a2 : Int) (A : Option Addr) (n c : Nat) (ts : List TrD) (w : World) (wa1 : (Lit.int .u64 a1).wf = true) (wa2 : (Lit.int .u64 a2).wf = true) (h : Tries w A n c ts) (hG : Gl w) : Calls Tryd.prog 4 #[.int .u64 a1, .int .u64 a2, .slice A n c] w fun e w' => e = .returned (.bool true) ∧ Below w.heap.size w w' := by
  obtain ⟨x, hx, rfl⟩ := w64_of a1 wa1
  obtain ⟨y, hy, rfl⟩ := w64_of a2 wa2
  have HG := Lib.hid (show GlR w from hG)
  have hn2 := h.2.1
  have hc2 := h.2.2.1
  have HA := Lib.hid h
  have HL := Lib.hid h.1
  have HNEW := Lib.hid (show ∀ w : World, Calls Tryd.prog 6 #[.float .f64 x, .float .f64 y, .int .i64 0] w fun e w' => e = .returned (bkv ⟨clF x, clF y, clF y, 0⟩) ∧ Kept Nil w w' from fun w => by
    have := bnew_yes x y 0 hx hy (by decide) w
    unfold clB at this
    dsimp only at this
    rw [Nat.min_self] at this
    exact this)
  have HCX := Lib.hid (fclean_yes x hx)
  have HCY := Lib.hid (fclean_yes y hy)
  have hR := clF_le hx
  have hB := clF_le hy
  have f1 := cf_from x
  have f2 := cf_from y
  generalize clF x = R at *
  generalize clF y = B at *
  have hnR : (FloatKind.f64.format.order R R != some .eq) = false := (nan_self (clean_of hR)).trans (nan_clean hR)
  have hnB : (FloatKind.f64.format.order B B != some .eq) = false := (nan_self (clean_of hB)).trans (nan_clean hB)
  have HR := Lib.hid hR
  have HB := Lib.hid hB
  clear hR hB h hG hx hy wa1 wa2
  go_enter Tryd.func4, Tryd.ntmps4
  go_wp2_with (fail)
  refine (HNEW.out _).mono ?_
  rintro e w1 ⟨rfl, hk⟩
  have HK := Lib.hid hk
  clear hk
  have HN := Lib.hid (show KB (w1.alloc (.cells (bkl Bk.zero).toArray 26)) w1.heap.size Bk.zero from Blo.new w1 _ _)
  have HKA := Lib.hid (HK.out.then ((Kept.refl Nil w1).alloc (.cells (bkl Bk.zero).toArray 26)))
  dsimp only
  go_upto_region 2 with (first
    | (refine wpList_st rfl 26 (.tmp 7) _ rfl w1.heap.size 0 rfl (bkl ⟨R, B, B, 0⟩) _ rfl rfl (infBk _) 26 _ HN.out (by show 0 + 4 ≤ 4; decide) (bkl_one _) ?_; intro w2 hb2 hk2 hz2; simp only [Act.put, List.setIfInBounds_toArray, List.set_cons_succ, List.set_cons_zero])
    | fail)
  have HB7 := Lib.hid (show KB w2 w1.heap.size ⟨R, B, B, 0⟩ from hb2)
  have HGE := Lib.hid (show w.heap.size ≤ w1.heap.size from HK.out.size)
  have HK := Lib.hid (HKA.out.fresh hk2 (fun i hi => by have h1 := HGE.out; have h2 : i = w1.heap.size := hi; omega))
  obtain ⟨g7, hg7⟩ : ∃ g, w1.heap.size = g := ⟨_, rfl⟩
  rw [hg7] at HB7 HGE ⊢
  clear hb2 hk2 hz2 hg7 HN HKA
  have c0 := fun d os => (kept_grown' w2 d os).cell HB7.out.c0 (fun hf => hf)
  have c1 := fun d os => (kept_grown' w2 d os).cell HB7.out.c1 (fun hf => hf)
  have c2 := fun d os => (kept_grown' w2 d os).cell HB7.out.c2 (fun hf => hf)
  dsimp only at c0 c1 c2
  refine wp_region_quiet_below (by kernel_rfl) (by kernel_rfl) ?_
  repeat (first | go_big_quiet_step (fail) | go_big_quiet_step (exact quietK (HCX.out _)) | go_big_quiet_step (exact quietK (HCY.out _)))
  refine wpQuiet_nil ?_
  rintro u ⟨nq, hw⟩
  have HK := Lib.hid (HK.out.then (show Kept Nil w2 u by rw [hw]; exact kept_grown _ _))
  have HB7 := Lib.hid (HB7.out.kept (show Kept Nil w2 u by rw [hw]; exact kept_grown _ _) (fun hf => hf))
  clear hw c0 c1 c2 f1 f2
  go_wp2_with (fail)
  have HW0 := Lib.hid (show BdW w u g7 R B 0 0 0 B from ⟨BdI.start HR.out HB.out, HB7.out, HGE.out, HK.out⟩)
  clear HB7 HK HGE hnR hnB HNEW HCX HCY
  go_loopw [43, 8, 9] (fun i nw tk wr => ∃ k now t L : Nat, k ≤ n ∧ k ≤ 60 ∧ i = .int .i64 (k : Int) ∧ nw = .int .i64 (now : Int) ∧ tk = .float .f64 t ∧ BdW w wr g7 R B k now t L) (fun i _ _ _ => n - (intOf i).toNat)
  case atStart => exact ⟨0, 0, 0, B, Nat.zero_le _, Nat.zero_le _, rfl, rfl, rfl, HW0.out⟩
  case round =>
    obtain ⟨k, now, t, L, hk, hk60, rfl, rfl, rfl, hbo⟩ := hrel
    have HW := Lib.hid hbo
    clear hbo
    by_cases hlt : k < n
    · have hth := HA.out.kept HW.out.kept
      have hkl : k < ts.length := by rw [HL.out]; exact hlt
      obtain ⟨b, o, rfl, hce⟩ := hth.2.2.2.2 (by omega)
      obtain ⟨q0, q1⟩ := hce k hkl
      have hok := HA.out.2.2.2.1 _ (List.getElem_mem hkl)
      clear hce hth
      generalize ts[k] = tr at *
      obtain ⟨lt, nb⟩ := tr
      simp only at q0 q1 hok
      go_upto_region 8 with (fail)
      have HW := Lib.hid (HW.out.next ((Kept.refl Nil wr).alloc (.cells #[.int .u32 (lt : Int), .int .u64 (nb : Int)] 49)))
      have HCE := Lib.hid (show (wr.alloc (.cells #[.int .u32 (lt : Int), .int .u64 (nb : Int)] 49)).cell? ⟨wr.heap.size, 0, none⟩ = some (.int .u32 (lt : Int)) ∧ (wr.alloc (.cells #[.int .u32 (lt : Int), .int .u64 (nb : Int)] 49)).cell? ⟨wr.heap.size, 1, none⟩ = some (.int .u64 (nb : Int)) from ⟨(Blo.new wr _ _).cell 0, (Blo.new wr _ _).cell 1⟩)
      generalize wr.alloc (.cells #[.int .u32 (lt : Int), .int .u64 (nb : Int)] 49) = wa at *
      generalize wr.heap.size = ga at *
      clear q0 q1
      by_cases h60 : k = 60
      · have hb60 : ((k : Int) == 60) = true := by simp; omega
        have H60 := Lib.hid h60
        clear h60
        go_wp2_with fail
        refine (wakes_yes _ (HG.out.kept HW.out.kept)).mono ?_
        rintro e w9 ⟨rfl, hk9⟩
        go_wp2
        go_ret
        exact ⟨rfl, (HW.out.kept.then hk9).below (Nat.le_refl _) (fun k hf => hf.elim)⟩
      · have hb60 : ((k : Int) == 60) = false := by simp; omega
        have q0 := HCE.out.1
        have q1 := HCE.out.2
        have hnw := HW.out.inv.nw
        have HOK := Lib.hid hok
        have f3 := cf_from nb
        have h60' : k < 60 := by omega
        go_upto_region 11 with (fail)
        clear q0 q1 HCE
        obtain ⟨d, hd⟩ : ∃ d, lt % 1048576 = d := ⟨_, rfl⟩
        have hd2 : d < 1048576 := by omega
        obtain ⟨M, hM⟩ : ∃ M, now + d = M := ⟨_, rfl⟩
        have hnn : (now : Int) + (lt : Int) % 1048576 = (M : Int) := by omega
        rw [hnn]
        have HD := Lib.hid hd2
        have HM := Lib.hid hM
        have HNW := Lib.hid (show M ≤ 9223372036854775807 by omega)
        have H60 := Lib.hid h60'
        clear hnn hd2 hd hok hnw hM h60'
        have hokb : (⟨R, B, L, (now : Int)⟩ : Bk).ok := ⟨clean_of HR.out, clean_of HB.out, clean_of (Nat.le_trans HW.out.inv.kl HB.out), by show (-9223372036854775808 : Int) ≤ (now : Int) ∧ (now : Int) ≤ 9223372036854775807; have := HNW.out; have := HM.out; omega⟩
        have hni : (-9223372036854775808 : Int) ≤ (M : Int) ∧ (M : Int) ≤ 9223372036854775807 := by have := HNW.out; omega
        have HHAS := Lib.hid (by
          have := has_yes g7 ⟨R, B, L, (now : Int)⟩ hokb (M : Int) hni wa HW.out.blo
          have hbl := br_later R B L now d HR.out HB.out HW.out.inv.kl (by rw [HM.out]; exact HNW.out)
          rw [HM.out] at hbl
          rw [hbl] at this
          exact this)
        obtain ⟨L1, hL1⟩ : ∃ L1, afM ⟨R, B, L, (now : Int)⟩ d = L1 := ⟨_, rfl⟩
        rw [hL1] at HHAS
        have HL1 := Lib.hid hL1
        have HN1 := Lib.hid (show L1 ≤ B by rw [← hL1]; exact afM_le ⟨HR.out, HB.out, HW.out.inv.kl, hokb.a⟩ d)
        have HNI := Lib.hid hni
        have HWA := Lib.hid (show w.heap.size ≤ wa.heap.size from HW.out.kept.size)
        clear hL1 hokb hni
        go_wp2_with (fail)
        refine HHAS.out.mono ?_
        rintro e w3 ⟨rfl, hb3, hk3⟩
        have HGE := Lib.hid HW.out.ge
        have HK := Lib.hid (HW.out.kept.fresh hk3 (fun i hi => by have h1 := HGE.out; have h2 : i = g7 := hi; omega))
        have HB3 := Lib.hid (show KB w3 g7 ⟨R, B, L1, (M : Int)⟩ from hb3)
        have HI := Lib.hid HW.out.inv
        clear hb3 hk3 HHAS HW HWA
        have hokb : (⟨R, B, L1, (M : Int)⟩ : Bk).ok := ⟨clean_of HR.out, clean_of HB.out, clean_of (Nat.le_trans HN1.out HB.out), HNI.out⟩
        have hbr : brM ⟨R, B, L1, (M : Int)⟩ (M : Int) = ⟨R, B, L1, (M : Int)⟩ := by
          have := br_later R B L1 M 0 HR.out HB.out HN1.out HNW.out
          exact this
        obtain ⟨N, hN⟩ : ∃ N, clF nb = N := ⟨_, rfl⟩
        have HCN := Lib.hid (by have := fclean_yes nb HOK.out.2; rw [hN] at this; exact this)
        have HNL := Lib.hid (show N ≤ INFB by rw [← hN]; exact clF_le HOK.out.2)
        have hlI : L1 ≤ INFB := Nat.le_trans HN1.out HB.out
        obtain ⟨s, hs⟩ : ∃ s, ¬ L1 < N → L1 ≠ INFB → Ieee.double.sub L1 N = some s ∧ s ≤ L1 ∧ valR s * 2 ^ 53 ≤ (valR L1 - valR N) * (2 ^ 53 + 1) := by
          by_cases h1 : ¬ L1 < N ∧ L1 ≠ INFB
          · obtain ⟨s, h2⟩ := sub_fin L1 N (Nat.lt_of_le_of_ne hlI h1.2) (Nat.not_lt.1 h1.1)
            exact ⟨s, fun _ _ => h2⟩
          · exact ⟨0, fun h2 h3 => absurd ⟨h2, h3⟩ h1⟩
        have HTA := Lib.hid (by
          have := take_yes g7 ⟨R, B, L1, (M : Int)⟩ hokb (M : Int) HNI.out nb s HOK.out.2 (by rw [hbr, hN]; exact fun h1 h2 => (hs h1 h2).1) w3 HB3.out
          unfold tkM at this
          rw [hbr, hN] at this
          exact this)
        have HS := Lib.hid hs
        have hlt1 := lt_cl HNL.out hlI
        have hle1 := eq_cl HNL.out hlI
        have hgt1 := gt_cl HNL.out hlI
        have hadd := add_run HI.out.kt HNL.out
        have HLI := Lib.hid hlI
        clear hokb hbr hs hlI hN
        dsimp only
        go_wp2_with (fail)
        refine HTA.out.mono ?_
        clear HTA
        rintro e w4 ⟨rfl, hb4, hk4⟩
        have HK := Lib.hid (HK.out.fresh hk4 (fun i hi => by have h1 := HGE.out; have h2 : i = g7 := hi; omega))
        clear hk4
        dsimp only at hb4 ⊢
        by_cases hmi : L1 < N
        · rw [decide_eq_true hmi]
          rw [if_pos hmi] at hb4
          have HW := Lib.hid (show BdW w w4 g7 R B (k + 1) M t L1 from ⟨by rw [← HL1.out, ← HM.out]; exact HI.out.miss _ d HD.out, hb4, HGE.out, HK.out⟩)
          rw [decide_eq_true hmi] at hgt1
          rw [decide_eq_false (show ¬ N < L1 by omega)] at hlt1
          rw [decide_eq_false (show ¬ N = L1 by omega)] at hle1
          clear hb4 hmi hadd hgt1
          go_wp2_with (fail)
          refine (HCN.out _).mono ?_
          rintro e w5 ⟨rfl, hk5⟩
          have HW := Lib.hid (HW.out.next hk5)
          clear hk5
          dsimp only
          go_upto_region 18 with (fail)
          have e0 := HW.out.blo.c0
          have e1 := HW.out.blo.c1
          have e2 := HW.out.blo.c2
          have e3 : w5.cell? ⟨g7, 3, none⟩ = some (.int .i64 (M : Int)) := HW.out.blo.all 3 _ rfl
          dsimp only at e0 e1 e2
          have hLB : L1 ≤ B := HW.out.inv.kl
          have hLI : L1 ≤ INFB := Nat.le_trans hLB HB.out
          have hge : (FloatKind.f64.format.order L1 0 == some .gt || FloatKind.f64.format.order L1 0 == some .eq) = true := by
            rw [gt_cl hLI (Nat.zero_le _), eq_cl hLI (Nat.zero_le _)]
            rcases Nat.eq_zero_or_pos L1 with h0 | h0
            · rw [decide_eq_true h0, Bool.or_true]
            · rw [decide_eq_true h0, Bool.true_or]
          have hle : (FloatKind.f64.format.order L1 B == some .lt || FloatKind.f64.format.order L1 B == some .eq) = true := by
            rw [lt_cl hLI HB.out, eq_cl hLI HB.out]
            rcases Nat.lt_or_eq_of_le hLB with h0 | h0
            · rw [decide_eq_true h0, Bool.true_or]
            · rw [decide_eq_true h0, Bool.or_true]
          have HSG := Lib.hid (by have := fsign_yes L1 (clean_of hLI); rw [decide_eq_false (show ¬ 9223372036854775808 ≤ L1 from by (have h9 : INFB < 9223372036854775808 := (by decide)); omega)] at this; exact this)
          clear hLB hLI
          go_wp2_with (fail)
          refine (HSG.out _).mono ?_
          rintro e w6 ⟨rfl, hk6⟩
          have HW := Lib.hid (HW.out.next hk6)
          clear hk6 HSG hge hle e0 e1 e2 e3
          have e0 := HW.out.blo.c0
          have e1 := HW.out.blo.c1
          have e3 : w6.cell? ⟨g7, 3, none⟩ = some (.int .i64 (M : Int)) := HW.out.blo.all 3 _ rfl
          dsimp only at e0 e1
          dsimp only
          go_upto_region 20 with (fail)
          obtain ⟨s, hm1, hm2, hm3⟩ := HW.out.inv.last (by have := H60.out; omega)
          have HTI := Lib.hid HW.out.inv.kt
          by_cases hM0 : M = 0
          · subst hM0
            rw [show mostM R B 0 = B from rfl] at hm1
            have hcv : floatOfInt FloatKind.f64 (0 : Int) = 0 := tk_zero
            have hiz : floatBits .mul .f64 INFB (floatOfInt FloatKind.f64 (0 : Int)) = none := by rw [hcv]; exact inf_zero
            have hfin : ∀ t u, (binOp .mul t (.float .f64 B) (.float .f64 4607182418804521008)).run Tryd.prog u = .ok (.float .f64 s) u := fun t u => run_float_arith u .mul t .f64 _ _ _ hm1
            have hcmp : (FloatKind.f64.format.order t s == some .gt) = false := (gt_cl HTI.out hm2).trans (decide_eq_false (by omega))
            clear hm1 hm2 hm3
            by_cases hRI : R = INFB
            · subst hRI
              obtain ⟨nx, u1, hr1, hk1, hn1⟩ := nan_run (op := .mul) (.inr rfl) hiz 24 w6
              obtain ⟨ny, u2, hr2, hk2, hn2'⟩ := nan_run (op := .add) (.inl rfl) (add_nan (a := B) hn1) 24 u1
              have HW := Lib.hid ((HW.out.next hk1).next hk2)
              clear hk1 hk2 hn1 hn2' hcv hiz
              go_upto_region 21 with (fail)
              clear hr1 hr2
              clear e0 e1 e3
              have e1 := HW.out.blo.c1
              dsimp only at e1
              go_wp2_with (fail)
              go_roundw
              case rel => exact ⟨k + 1, 0, t, L1, by omega, by have := H60.out; omega, by go_num, rfl, rfl, HW.out⟩
              case measure => simp [intOf]; omega
            · obtain ⟨p0, hp1, hp2⟩ := mul_zero_ok (Nat.lt_of_le_of_ne HR.out hRI)
              rw [← hcv] at hp1
              have hml : ∀ t u, (binOp .mul t (.float .f64 R) (.float .f64 (floatOfInt FloatKind.f64 (0 : Int)))).run Tryd.prog u = .ok (.float .f64 p0) u := fun t u => run_float_arith u .mul t .f64 _ _ _ hp1
              have hsm := add_run HB.out hp2
              clear hp1 hp2 hRI hcv hiz
              go_wp2_with (fail)
              go_roundw
              case rel => exact ⟨k + 1, 0, t, L1, by omega, by have := H60.out; omega, by go_num, rfl, rfl, HW.out⟩
              case measure => simp [intOf]; omega
          · have hM1 : ((M : Int) == 0) = false := by simp; omega
            have hMu : M < 18446744073709551616 := by have := HNW.out; omega
            obtain ⟨p1, p2⟩ := pr_ok R M HR.out (by omega) hMu
            rw [show mostM R B M = smM B (prM R M) from if_neg hM0] at hm1
            have hml : ∀ t u, (binOp .mul t (.float .f64 R) (.float .f64 (floatOfInt FloatKind.f64 (M : Int)))).run Tryd.prog u = .ok (.float .f64 (prM R M)) u := fun t u => run_float_arith u .mul t .f64 _ _ _ p1
            have hsm := add_run HB.out p2
            have hfin : ∀ t u, (binOp .mul t (.float .f64 (smM B (prM R M))) (.float .f64 4607182418804521008)).run Tryd.prog u = .ok (.float .f64 s) u := fun t u => run_float_arith u .mul t .f64 _ _ _ hm1
            have hcmp : (FloatKind.f64.format.order t s == some .gt) = false := (gt_cl HTI.out hm2).trans (decide_eq_false (by omega))
            clear hm1 hm2 hm3 p1 p2 hMu hM0
            go_wp2_with (fail)
            go_roundw
            case rel => exact ⟨k + 1, M, t, L1, by omega, by have := H60.out; omega, by go_num, rfl, rfl, HW.out⟩
            case measure => simp [intOf]; omega
        · rw [decide_eq_false hmi]
          rw [if_neg hmi] at hb4
          obtain ⟨L2, hL2, hcon⟩ : ∃ L2, (if L1 = INFB then (⟨R, B, L1, (M : Int)⟩ : Bk) else ⟨R, B, s, (M : Int)⟩) = ⟨R, B, L2, (M : Int)⟩ ∧ ((L1 = INFB ∧ L2 = INFB) ∨ (L1 ≠ INFB ∧ L2 ≤ L1 ∧ valR L2 * 2 ^ 53 ≤ (valR L1 - valR N) * (2 ^ 53 + 1))) := by
            by_cases hin : L1 = INFB
            · exact ⟨L1, if_pos hin, .inl ⟨hin, hin⟩⟩
            · exact ⟨s, if_neg hin, .inr ⟨hin, (HS.out hmi hin).2⟩⟩
          have hb4' : KB w4 g7 (if L1 = INFB then (⟨R, B, L1, (M : Int)⟩ : Bk) else ⟨R, B, s, (M : Int)⟩) := hb4
          rw [hL2] at hb4'
          obtain ⟨t2, ht2⟩ : ∃ t2, smM t N = t2 := ⟨_, rfl⟩
          have HW := Lib.hid (show BdW w w4 g7 R B (k + 1) M t2 L2 from ⟨by
            have h8 := HI.out.hit (now : Int) d HD.out N L2 (by rw [HL1.out]; exact Nat.not_lt.1 hmi) (by rw [HL1.out]; exact hcon)
            rw [HM.out, ht2] at h8
            exact h8, hb4', HGE.out, HK.out⟩)
          rw [ht2] at hadd
          rw [decide_eq_false hmi] at hgt1
          clear hb4 hb4' hmi hlt1 hle1 ht2 hcon hL2
          go_wp2_with (fail)
          refine (HCN.out _).mono ?_
          rintro e w5a ⟨rfl, hk5⟩
          have HW := Lib.hid (HW.out.next hk5)
          clear hk5
          dsimp only
          go_wp2_with (fail)
          refine (HCN.out _).mono ?_
          rintro e w5 ⟨rfl, hk5⟩
          have HW := Lib.hid (HW.out.next hk5)
          clear hk5
          dsimp only
          go_upto_region 18 with (fail)
          have e0 := HW.out.blo.c0
          have e1 := HW.out.blo.c1
          have e2 := HW.out.blo.c2
          have e3 : w5.cell? ⟨g7, 3, none⟩ = some (.int .i64 (M : Int)) := HW.out.blo.all 3 _ rfl
          dsimp only at e0 e1 e2
          have hLB : L2 ≤ B := HW.out.inv.kl
          have hLI : L2 ≤ INFB := Nat.le_trans hLB HB.out
          have hge : (FloatKind.f64.format.order L2 0 == some .gt || FloatKind.f64.format.order L2 0 == some .eq) = true := by
            rw [gt_cl hLI (Nat.zero_le _), eq_cl hLI (Nat.zero_le _)]
            rcases Nat.eq_zero_or_pos L2 with h0 | h0
            · rw [decide_eq_true h0, Bool.or_true]
            · rw [decide_eq_true h0, Bool.true_or]
          have hle : (FloatKind.f64.format.order L2 B == some .lt || FloatKind.f64.format.order L2 B == some .eq) = true := by
            rw [lt_cl hLI HB.out, eq_cl hLI HB.out]
            rcases Nat.lt_or_eq_of_le hLB with h0 | h0
            · rw [decide_eq_true h0, Bool.true_or]
            · rw [decide_eq_true h0, Bool.or_true]
          have HSG := Lib.hid (by have := fsign_yes L2 (clean_of hLI); rw [decide_eq_false (show ¬ 9223372036854775808 ≤ L2 from by (have h9 : INFB < 9223372036854775808 := (by decide)); omega)] at this; exact this)
          clear hLB hLI
          go_wp2_with (fail)
          refine (HSG.out _).mono ?_
          rintro e w6 ⟨rfl, hk6⟩
          have HW := Lib.hid (HW.out.next hk6)
          clear hk6 HSG hge hle e0 e1 e2 e3
          have e0 := HW.out.blo.c0
          have e1 := HW.out.blo.c1
          have e3 : w6.cell? ⟨g7, 3, none⟩ = some (.int .i64 (M : Int)) := HW.out.blo.all 3 _ rfl
          dsimp only at e0 e1
          dsimp only
          go_upto_region 20 with (fail)
          obtain ⟨s, hm1, hm2, hm3⟩ := HW.out.inv.last (by have := H60.out; omega)
          have HTI := Lib.hid HW.out.inv.kt
          by_cases hM0 : M = 0
          · subst hM0
            rw [show mostM R B 0 = B from rfl] at hm1
            have hcv : floatOfInt FloatKind.f64 (0 : Int) = 0 := tk_zero
            have hiz : floatBits .mul .f64 INFB (floatOfInt FloatKind.f64 (0 : Int)) = none := by rw [hcv]; exact inf_zero
            have hfin : ∀ t u, (binOp .mul t (.float .f64 B) (.float .f64 4607182418804521008)).run Tryd.prog u = .ok (.float .f64 s) u := fun t u => run_float_arith u .mul t .f64 _ _ _ hm1
            have hcmp : (FloatKind.f64.format.order t2 s == some .gt) = false := (gt_cl HTI.out hm2).trans (decide_eq_false (by omega))
            clear hm1 hm2 hm3
            by_cases hRI : R = INFB
            · subst hRI
              obtain ⟨nx, u1, hr1, hk1, hn1⟩ := nan_run (op := .mul) (.inr rfl) hiz 24 w6
              obtain ⟨ny, u2, hr2, hk2, hn2'⟩ := nan_run (op := .add) (.inl rfl) (add_nan (a := B) hn1) 24 u1
              have HW := Lib.hid ((HW.out.next hk1).next hk2)
              clear hk1 hk2 hn1 hn2' hcv hiz
              go_upto_region 21 with (fail)
              clear hr1 hr2
              clear e0 e1 e3
              have e1 := HW.out.blo.c1
              dsimp only at e1
              go_wp2_with (fail)
              go_roundw
              case rel => exact ⟨k + 1, 0, t2, L2, by omega, by have := H60.out; omega, by go_num, rfl, rfl, HW.out⟩
              case measure => simp [intOf]; omega
            · obtain ⟨p0, hp1, hp2⟩ := mul_zero_ok (Nat.lt_of_le_of_ne HR.out hRI)
              rw [← hcv] at hp1
              have hml : ∀ t u, (binOp .mul t (.float .f64 R) (.float .f64 (floatOfInt FloatKind.f64 (0 : Int)))).run Tryd.prog u = .ok (.float .f64 p0) u := fun t u => run_float_arith u .mul t .f64 _ _ _ hp1
              have hsm := add_run HB.out hp2
              clear hp1 hp2 hRI hcv hiz
              go_wp2_with (fail)
              go_roundw
              case rel => exact ⟨k + 1, 0, t2, L2, by omega, by have := H60.out; omega, by go_num, rfl, rfl, HW.out⟩
              case measure => simp [intOf]; omega
          · have hM1 : ((M : Int) == 0) = false := by simp; omega
            have hMu : M < 18446744073709551616 := by have := HNW.out; omega
            obtain ⟨p1, p2⟩ := pr_ok R M HR.out (by omega) hMu
            rw [show mostM R B M = smM B (prM R M) from if_neg hM0] at hm1
            have hml : ∀ t u, (binOp .mul t (.float .f64 R) (.float .f64 (floatOfInt FloatKind.f64 (M : Int)))).run Tryd.prog u = .ok (.float .f64 (prM R M)) u := fun t u => run_float_arith u .mul t .f64 _ _ _ p1
            have hsm := add_run HB.out p2
            have hfin : ∀ t u, (binOp .mul t (.float .f64 (smM B (prM R M))) (.float .f64 4607182418804521008)).run Tryd.prog u = .ok (.float .f64 s) u := fun t u => run_float_arith u .mul t .f64 _ _ _ hm1
            have hcmp : (FloatKind.f64.format.order t2 s == some .gt) = false := (gt_cl HTI.out hm2).trans (decide_eq_false (by omega))
            clear hm1 hm2 hm3 p1 p2 hMu hM0
            go_wp2_with (fail)
            go_roundw
            case rel => exact ⟨k + 1, M, t2, L2, by omega, by have := H60.out; omega, by go_num, rfl, rfl, HW.out⟩
            case measure => simp [intOf]; omega
    · go_wp2_with fail
      refine (wakes_yes _ (HG.out.kept HW.out.kept)).mono ?_
      rintro e w9 ⟨rfl, hk9⟩
      go_wp2
      go_ret
      exact ⟨rfl, (HW.out.kept.then hk9).below (Nat.le_refl _) (fun k hf => hf.elim)⟩
end Go.Proofs.YtiehmpiaddjhiaaDoor
