/- tolllaw10.BpduBack: the walk. -/
import Derived.Test.YthjfeanmgaidcaaMg28
import Derived.Test.YthjfeanmgaidcaaMg29
import Derived.Test.YthjfeanmgaidcaaEthE
import Derived.Test.YthjfeanmgaidcaaEthI
import Derived.Test.YthjfeanmgaidcaaMg38
import Derived.Test.YthjfeanmgaidcaaApSt
namespace Go.Proofs.Ythjfeanmgaidcaa
open Go.RowKit Go.Sort
set_option linter.unusedVariables false

def cvB (s : List Value) : Value := match s with | [] => .slice none 0 0 | [v] => v | _ :: v :: _ => v
def lsBk (P r : List UInt8) (i : Nat) : List UInt8 := match i with | 0 => [] | 1 => P | _ => P ++ r
theorem min20B (n : Nat) : ∃ m : Nat, (if (20 : Int) < (n : Int) then (20 : Int) else (n : Int)) = (m : Int) ∧ min (n : Int) 20 = (m : Int) ∧ m ≤ n ∧ m ≤ 20 := ⟨min 20 n, by split <;> omega, by omega, by omega, by omega⟩
theorem min60B (n : Nat) : ∃ m : Nat, (if (60 : Int) < (n : Int) then (60 : Int) else (n : Int)) = (m : Int) ∧ min (n : Int) 60 = (m : Int) ∧ m ≤ n ∧ m ≤ 60 := ⟨min 60 n, by split <;> omega, by omega, by omega, by omega⟩
theorem inf_b6B (l : List UInt8) (h : l.length = 6) : (Try.prog.info? 25).map (·.size) = some (bys l).length := by rw [bys_len, h]; kernel_rfl
/-- What each operation of region 6 leaves. -/
def bkR (vP vA vC vm : Value) (N1 N nR : Nat) (T : TypeId) (cs : List Value) (i : Nat) (a : Act) (u : World) : Prop := match i with
  | 0 => a.eval (.tmp 46) = vP
  | 1 => ∃ (A : Option Addr) (n c : Nat), a.eval (.tmp 47) = .slice A n c
  | 2 => a.eval (.tmp 48) = vA
  | 3 => a.eval (.tmp 49) = vA
  | 4 => a.eval (.tmp 50) = .int .i64 (N1 : Int)
  | 5 => a.eval (.tmp 51) = .int .i64 (N : Int)
  | 6 => a.eval (.tmp 52) = vC
  | 7 => ∃ (A : Option Addr) (c : Nat), a.eval (.tmp 53) = .slice A nR c
  | 8 => a.eval (.tmp 54) = .tuple #[vm, .int .i64 0]
  | 9 => a.eval (.tmp 45) = .tuple #[vm, .int .i64 0]
  | 10 => a.eval (.tmp 55) = vm
  | 11 => a.eval (.tmp 56) = .int .i64 0
  | 12 => ∃ g, a.eval (.tmp 15) = pAt g 0
  | 13 => ∃ g, a.eval (.tmp 15) = pAt g 0 ∧ Blo u g T cs.toArray
  | 14 => a.eval (.tmp 16) = .int .i64 0
  | _ => True
structure bkW (vP vA vC vm : Value) (N1 N nR : Nat) (T : TypeId) (cs : List Value) (i : Nat) (a : Act) (u : World) : Prop where
  out : bkR vP vA vC vm N1 N nR T cs i a u
theorem bkW.kept {vP vA vC vm : Value} {N1 N nR : Nat} {T : TypeId} {cs : List Value} {i : Nat} {a : Act} {u u' : World} {F : Nat → Prop} (h : bkW vP vA vC vm N1 N nR T cs i a u) (k : Kept F u u') (hg : ∀ g, a.eval (.tmp 15) = pAt g 0 → ¬ F g) : bkW vP vA vC vm N1 N nR T cs i a u' := by
  obtain ⟨h⟩ := h
  refine ⟨?_⟩
  unfold bkR at h ⊢
  split at h <;> first | exact h | (obtain ⟨g, h1, h2⟩ := h; exact ⟨g, h1, h2.kept k (hg g h1)⟩)
theorem bkW.st {vP vA vC vm : Value} {N1 N nR : Nat} {T : TypeId} {cs : List Value} {i : Nat} {a : Act} {u u' : World} (h : bkW vP vA vC vm N1 N nR T cs i a u) (hi : i ≠ 13) : bkW vP vA vC vm N1 N nR T cs i a u' := by
  obtain ⟨h⟩ := h
  refine ⟨?_⟩
  unfold bkR at h ⊢
  split at h <;> first | exact h | exact absurd rfl hi
set_option maxRecDepth 100000 in
set_option maxHeartbeats 8000000 in
theorem bback_yes (m : Bp) (A1 : Option Addr) (n1 c1 : Nat) (bh : List UInt8) (s : List UInt8) (A2 : Option Addr) (n2 c2 : Nat) (an : List UInt8) (cu : Int) (w : World) (hm : m.ok) (hb : Byt w A1 n1 c1 bh) (hs : s.length = 6) (ha : Byt w A2 n2 c2 an) (hcu' : (Lit.int .u8 cu).wf = true) : Calls Try.prog 4 #[bpv m, .slice A1 n1 c1, .agg (bys s).toArray, .slice A2 n2 c2, .int .u8 cu] w fun e w' => e = .returned (.bool true) ∧ Below w.heap.size w w' := by
  have hcu : 0 ≤ cu ∧ cu ≤ 255 := by simp [Lit.wf, IntKind.min, IntKind.max, IntKind.signed, IntKind.bits] at hcu'; omega
  clear hcu'
  obtain ⟨s0, s1, s2, s3, s4, s5, rfl⟩ := six_of s hs
  have hP := (BPB.new w 52 m).kept ((Kept.refl Nil _).alloc (.cells (bys [s0, s1, s2, s3, s4, s5]).toArray 25)) (fun hf => hf)
  have hQ := Blo.new (w.alloc (.cells (bpl m).toArray 52)) 25 (bys [s0, s1, s2, s3, s4, s5]).toArray
  rw [World.size_alloc] at hQ
  have hk0 := ((Kept.refl Nil w).alloc (.cells (bpl m).toArray 52)).alloc (.cells (bys [s0, s1, s2, s3, s4, s5]).toArray 25)
  have HOK := Lib.hid hm
  have HBH := Lib.hid hb
  have HAN := Lib.hid ha
  have HCU := Lib.hid hcu
  clear hm hb ha hs hcu
  go_enter Try.func4, Try.ntmps4
  go_upto_region 1 with (fail)
  refine wp_nameE (fun W => BPB W w.heap.size 52 m ∧ Blo W (w.heap.size + 1) 25 (bys [s0, s1, s2, s3, s4, s5]).toArray ∧ Kept Nil w W) ⟨hP, hQ, hk0⟩ ?_
  clear hP hQ hk0
  rintro W ⟨hP, hQ, hk⟩
  obtain ⟨g5, hg5⟩ : ∃ y, w.heap.size = y := ⟨_, rfl⟩
  obtain ⟨g7, hg7⟩ : ∃ y, g5 + 1 = y := ⟨_, rfl⟩
  rw [hg5] at hP hQ ⊢
  rw [hg7] at hQ ⊢
  have HP := Lib.hid hP
  have HQ := Lib.hid hQ
  have HK := Lib.hid hk
  have HBH := Lib.hid (HBH.out.kept hk (fun _ _ hf => hf))
  have HAN := Lib.hid (HAN.out.kept hk (fun _ _ hf => hf))
  clear hP hQ hk hg5 hg7
  go_wp2_with (first | (refine wpList_ld rfl _ _ rfl g5 0 rfl (bpl m) HP.out.all _ Try.underlying52 rfl (infBp _) ?_) | fail)
  refine (bpput_yes m HOK.out _).mono ?_
  rintro e xw1 ⟨xv1, rfl, hmd⟩
  have HP := Lib.hid (HP.out.kept hmd.2 (fun hf => hf))
  have HQ := Lib.hid (HQ.out.kept hmd.2 (fun hf => hf))
  have HBH := Lib.hid (HBH.out.kept hmd.2 (fun _ _ hf => hf))
  have HAN := Lib.hid (HAN.out.kept hmd.2 (fun _ _ hf => hf))
  have HK := Lib.hid (HK.out.then hmd.2)
  obtain ⟨PA, pc, rfl, hy, -⟩ := byt_own hmd
  have HY := Lib.hid hy
  clear hmd hy
  dsimp only
  go_wp2_with (first
    | (refine wpList_ld rfl _ _ rfl g7 0 rfl (bys [s0, s1, s2, s3, s4, s5]) (Blo.row [] (bys [s0, s1, s2, s3, s4, s5]) [] (by simpa using HQ.out)) _ Try.underlying25 rfl (inf_b6B _ rfl) ?_; simp only [Act.put, List.setIfInBounds_toArray, List.set_cons_succ, List.set_cons_zero])
    | (refine wpList_ld rfl _ _ rfl g5 0 rfl (bpl m) HP.out.all _ Try.underlying52 rfl (infBp _) ?_; simp only [Act.put, List.setIfInBounds_toArray, List.set_cons_succ, List.set_cons_zero])
    | fail)
  refine (frame_yes [s0, s1, s2, s3, s4, s5] rfl m HOK.out _).mono ?_
  rintro e xw2 ⟨xv2, rfl, hmd⟩
  have HP := Lib.hid (HP.out.kept hmd.2 (fun hf => hf))
  have HQ := Lib.hid (HQ.out.kept hmd.2 (fun hf => hf))
  have HBH := Lib.hid (HBH.out.kept hmd.2 (fun _ _ hf => hf))
  have HAN := Lib.hid (HAN.out.kept hmd.2 (fun _ _ hf => hf))
  have HY := Lib.hid (HY.out.kept hmd.2 (fun _ _ hf => hf))
  have HK := Lib.hid (HK.out.then hmd.2)
  obtain ⟨FA, fc, rfl, hy, -⟩ := byt_own hmd
  have HFY := Lib.hid hy
  clear hmd hy
  dsimp only
  have hT := FB.new xw2 57 Fr.zero (.slice none 0 0) (.slice none 0 0) (.slice none 0 0)
  have hF6 : (frmB [s0, s1, s2, s3, s4, s5] m).six := by
    unfold frmB
    split
    · exact ⟨rfl, rfl, rfl, rfl⟩
    · exact Fr.zero_six
  have HF6 := Lib.hid hF6
  go_upto_region 3 with (first
    | (refine wpList_st rfl 57 (.tmp 13) _ rfl _ 0 rfl (fcs (frmB [s0, s1, s2, s3, s4, s5] m) (.slice none 0 0) (.slice FA (putB m).1.length fc) (.slice none 0 0)) _ rfl rfl (infFr _ _ _ _ HF6.out) 57 _ hT (by rw [fcs_len HF6.out, fcs_len Fr.zero_six]; decide) (fcs_one rfl rfl rfl) ?_; intro xw3 hb3 hk3 hz3; simp only [Act.put, List.setIfInBounds_toArray, List.set_cons_succ, List.set_cons_zero])
    | fail)
  have hk3 := ((Kept.refl Nil xw2).alloc (.cells (fcs Fr.zero (.slice none 0 0) (.slice none 0 0) (.slice none 0 0)).toArray 57)).fresh hk3 (fun i hi => by cases hi; exact Nat.le_refl _)
  have HF := Lib.hid (FB.of_all Fr.zero_six HF6.out hb3)
  have HP := Lib.hid (HP.out.kept hk3 (fun hf => hf))
  have HQ := Lib.hid (HQ.out.kept hk3 (fun hf => hf))
  have HBH := Lib.hid (HBH.out.kept hk3 (fun _ _ hf => hf))
  have HAN := Lib.hid (HAN.out.kept hk3 (fun _ _ hf => hf))
  have HY := Lib.hid (HY.out.kept hk3 (fun _ _ hf => hf))
  have HFY := Lib.hid (HFY.out.kept hk3 (fun _ _ hf => hf))
  have HK := Lib.hid (HK.out.then hk3)
  obtain ⟨g13, hg13⟩ : ∃ y, xw2.heap.size = y := ⟨_, rfl⟩
  rw [hg13] at HF ⊢
  clear hb3 hk3 hz3 hT hF6 hg13
  have hne : ((putB m).2 != (putB m).2) = false := by simp
  cases hmy : mayB m
  · have HE := Lib.hid (show putB m = ([], 1) by unfold putB; rw [hmy]; rfl)
    have HFZ := Lib.hid (frm_no [s0, s1, s2, s3, s4, s5] m hmy)
    clear hmy HY HFY
    rw [HFZ.out] at HF ⊢
    rw [HE.out] at HF ⊢
    go_wp2_with (first
      | (refine wpList_ld rfl _ _ rfl g13 0 rfl (fcs Fr.zero (.slice none 0 0) (.slice FA 0 fc) (.slice none 0 0)) HF.out.all _ Try.underlying57 rfl (infFr _ _ _ _ Fr.zero_six) ?_; simp only [Act.put, List.setIfInBounds_toArray, List.set_cons_succ, List.set_cons_zero])
      | fail)
    refine (is_yes Fr.zero Fr.zero_six _ _ _ _).mono ?_
    rintro e xw4 ⟨rfl, hk⟩
    rw [zero_isF]
    have HAN := Lib.hid (HAN.out.kept hk (fun _ _ hf => hf))
    have HK := Lib.hid (HK.out.then hk)
    clear hk HF HP HQ HBH
    dsimp only
    go_upto_region 19 with (fail)
    have hkc := HAN.out.2.1
    have hcc := HAN.out.2.2.1
    obtain ⟨N, hm1, hm2, hN1, hN2⟩ := min60B n2
    have hsl := run_cut_hi (P := Try.prog) Try.underlying31 inf5.1 A2 n2 c2 N (N : Int) rfl (by omega)
    have HAN := Lib.hid (HAN.out.pre (hi := N) hN1)
    obtain ⟨ay, hay⟩ : ∃ x, an.take N = x := ⟨_, rfl⟩
    rw [hay] at HAN
    have HN2 := Lib.hid hN2
    clear hN2 hay
    go_wp2_with (fail)
    clear hm1 hm2 hsl
    refine (get_yes A2 N c2 ay _ HAN.out (by have := HN2.out; omega)).mono ?_
    rintro e xw5 ⟨rfl, hk⟩
    rw [gp_get]
    have HAN := Lib.hid (HAN.out.kept hk (fun _ _ hf => hf))
    have HK := Lib.hid (HK.out.then hk)
    have HGE := Lib.hid (get_err ay)
    have HPG := Lib.hid (fun h => put_got ay h)
    have HGO := Lib.hid (getB_ok ay)
    generalize (getB ay).1 = R1 at *
    generalize (getB ay).2 = R2 at *
    clear hk
    have hB := BPB.new xw5 52 Bp.zero
    dsimp only
    go_upto_region 21 with (first
      | (refine wpList_st rfl 52 (.tmp 25) _ rfl _ 0 rfl (bpl R1) _ rfl rfl (infBp _) 52 (bpl Bp.zero) hB (by show 0 + 10 ≤ 10; decide) (bpl_one _) ?_; intro xw6 hb hk hz; simp only [Act.put, List.setIfInBounds_toArray, List.set_cons_succ, List.set_cons_zero])
      | fail)
    have HRB := Lib.hid (BPB.of_all (m := Bp.zero) (m' := R1) hb)
    have hk := ((Kept.refl Nil xw5).alloc (.cells (bpl Bp.zero).toArray 52)).fresh hk (fun i hi => by cases hi; exact Nat.le_refl _)
    have HAN := Lib.hid (HAN.out.kept hk (fun _ _ hf => hf))
    have HK := Lib.hid (HK.out.then hk)
    obtain ⟨g25, hg25⟩ : ∃ x, xw5.heap.size = x := ⟨_, rfl⟩
    rw [hg25] at HRB ⊢
    clear hb hk hz hB hg25
    by_cases hr : R2 = 0
    · have br : (R2 != 0) = false := by simp [hr]
      obtain ⟨p1, p2, p3⟩ := HPG.out hr
      have hpe : putB R1 = (forB R1, 0) := by unfold putB; rw [p1]; rfl
      have HPE := Lib.hid hpe
      have HP2 := Lib.hid p2
      have HP3 := Lib.hid p3
      clear hr p1 p2 p3 hpe HPG
      go_wp2_with (first | (refine wpList_ld rfl _ _ rfl g25 0 rfl (bpl R1) HRB.out.all _ Try.underlying52 rfl (infBp _) ?_) | fail)
      refine (bpput_yes R1 HGO.out _).mono ?_
      rintro e xw7 ⟨xv7, rfl, hmd⟩
      rw [HPE.out] at hmd ⊢
      obtain ⟨C1, cc1, rfl, hyc, -⟩ := byt_own hmd
      have HYC := Lib.hid hyc
      have HAN := Lib.hid (HAN.out.kept hmd.2 (fun _ _ hf => hf))
      have HK := Lib.hid (HK.out.then hmd.2)
      have hln : ay.length = N := HAN.out.1
      have hnn : (forB R1).length ≤ N := by have := HP3.out; omega
      have hpr := HAN.out.pre (hi := (forB R1).length) hnn
      rw [← HP2.out] at hpr
      have HPR := Lib.hid hpr
      obtain ⟨M, hM⟩ : ∃ M, (forB R1).length = M := ⟨_, rfl⟩
      rw [hM] at HYC HPR hnn
      have hcM : M ≤ c2 := by have := HAN.out.2.1; omega
      have hsl := run_cut_hi (P := Try.prog) Try.underlying31 inf5.1 A2 N c2 M (M : Int) rfl hcM
      rw [hM]
      generalize forB R1 = FB1 at *
      clear hmd hyc hpr hln hM
      dsimp only
      go_upto_region 24 with (fail)
      have hnn2 : (M : Int) ≤ (N : Int) := by omega
      have tx := fun d os => (HYC.out.kept (kept_grown' xw7 d os) (fun _ _ hf => hf)).text (P := Try.prog) Try.underlying31 Try.underlying5 Try.underlying9
      have ty := fun d os => (HPR.out.kept (kept_grown' xw7 d os) (fun _ _ hf => hf)).text (P := Try.prog) Try.underlying31 Try.underlying5 Try.underlying9
      refine wp_region_quiet_below (by kernel_rfl) (by kernel_rfl) ?_
      repeat (go_big_quiet_step (with_reducible exact quietK (rows_yes _)))
      refine wpQuiet_nil ?_
      rintro xw8 ⟨nq, hw⟩
      have HKZ := Lib.hid (HK.out.then (show Kept Nil xw7 xw8 from by rw [hw]; exact kept_grown _ _))
      clear hw tx ty hsl
      go_wp2
      go_ret
      exact ⟨rfl, HKZ.out.below (Nat.le_refl _) (fun _ hf => hf.elim)⟩
    · have br : (R2 != 0) = true := by simp [hr]
      rcases HGE.out with h | ⟨h1, h45⟩
      · exact absurd h hr
      subst h1
      have heq : (Op.equalIn 10000 52 (.agg (bpl Bp.zero).toArray) (.agg (bpl Bp.zero).toArray)).run Try.prog xw6 = .ok true xw6 := by have := eq_bp Bp.zero Bp.zero xw6; rwa [decide_eq_true rfl] at this
      clear hr HPG HGO HGE
      rcases h45 with rfl | rfl
      all_goals
        go_wp2_with (first
          | (refine wpList_ld rfl _ _ rfl g25 0 rfl (bpl Bp.zero) HRB.out.all _ Try.underlying52 rfl (infBp _) ?_; simp only [Act.put, List.setIfInBounds_toArray, List.set_cons_succ, List.set_cons_zero])
          | (refine wpList_eqS rfl _ _ _ _ rfl (bpl Bp.zero).toArray (bpl Bp.zero).toArray rfl rfl (by kernel_rfl) true heq ?_; simp only [Act.put, List.setIfInBounds_toArray, List.set_cons_succ, List.set_cons_zero])
          | fail)
        refine (rows_yes _).mono ?_
        rintro e xw7 ⟨rfl, hk⟩
        have HK := Lib.hid (HK.out.then hk)
        clear hk heq
        dsimp only
        go_wp2_with (fail)
        go_ret
        exact ⟨rfl, HK.out.below (Nat.le_refl _) (fun _ hf => hf.elim)⟩
  · have HE := Lib.hid (show putB m = (forB m, 0) by unfold putB; rw [hmy]; rfl)
    have HMY := Lib.hid hmy
    clear hmy
    rw [HE.out] at HY HF HFY ⊢
    have HGF := Lib.hid (fun r => get_form m HOK.out HMY.out r)
    obtain ⟨P, hPe⟩ : ∃ P, forB m = P := ⟨_, rfl⟩
    have HPL := Lib.hid (show P.length ≤ 36 by rw [← hPe]; exact forB_le m)
    have HPG := Lib.hid (show 4 ≤ P.length by rw [← hPe]; exact forB_ge m)
    have HPE := Lib.hid hPe
    simp only [hPe] at HY HF HFY HGF ⊢
    clear hPe hne
    have hbc := HBH.out.2.1
    have hbcc := HBH.out.2.2.1
    obtain ⟨N, hm1, hm2, hN1, hN2⟩ := min20B n1
    have hsl := run_cut_hi (P := Try.prog) Try.underlying31 inf5.1 A1 n1 c1 N (N : Int) rfl (by omega)
    have HBN := Lib.hid (HBH.out.pre (hi := N) hN1)
    have HBL := Lib.hid (show (bh.take N).length ≤ 20 by rw [List.length_take]; omega)
    obtain ⟨r, hre⟩ : ∃ r, bh.take N = r := ⟨_, rfl⟩
    rw [hre] at HBN HBL
    clear hre hN2 HBH
    go_upto_region 6 with (fail)
    refine wp_nameA fun A6 hA6 => ?_
    have HS : A6.tmps.size = 199 := by rw [hA6]; rfl
    have a11 : A6.eval (.tmp 11) = .slice PA P.length pc := by rw [hA6]; rfl
    have a1 : A6.eval (.tmp 1) = .slice A1 n1 c1 := by rw [hA6]; rfl
    have a47 : A6.eval (.tmp 47) = undef := by rw [hA6]; rfl
    have a53 : A6.eval (.tmp 53) = undef := by rw [hA6]; rfl
    have a15 : A6.eval (.tmp 15) = undef := by rw [hA6]; rfl
    have HA6 := Lib.hid hA6
    have HSL := Lib.hid hsl
    have HM1 := Lib.hid hm1
    clear hA6 hsl hm1
    refine wp_region_slots 199 (asI xw3 [46, 47, 48, 49, 50, 51, 52, 53, 54, 45, 55, 56, 15, 16] [(47, P), (53, P ++ r)] 15 52 10) (bkW (.slice PA P.length pc) (.slice A1 n1 c1) (.slice A1 N c1) (bpv m) n1 N (P ++ r).length 52 (bpl m)) (by kernel_rfl) (by kernel_rfl) (fun x u h => h.size.trans HS) ⟨fun a a' w h hr => ⟨(h 46 (of_decide_eq_true (by kernel_rfl))).symm.trans hr.out⟩,
      fun a a' w h ⟨⟨A, n, c, hr⟩⟩ => ⟨⟨A, n, c, (h 47 (of_decide_eq_true (by kernel_rfl))).symm.trans hr⟩⟩,
      fun a a' w h hr => ⟨(h 48 (of_decide_eq_true (by kernel_rfl))).symm.trans hr.out⟩,
      fun a a' w h hr => ⟨(h 49 (of_decide_eq_true (by kernel_rfl))).symm.trans hr.out⟩,
      fun a a' w h hr => ⟨(h 50 (of_decide_eq_true (by kernel_rfl))).symm.trans hr.out⟩,
      fun a a' w h hr => ⟨(h 51 (of_decide_eq_true (by kernel_rfl))).symm.trans hr.out⟩,
      fun a a' w h hr => ⟨(h 52 (of_decide_eq_true (by kernel_rfl))).symm.trans hr.out⟩,
      fun a a' w h ⟨⟨A, c, hr⟩⟩ => ⟨⟨A, c, (h 53 (of_decide_eq_true (by kernel_rfl))).symm.trans hr⟩⟩,
      fun a a' w h hr => ⟨(h 54 (of_decide_eq_true (by kernel_rfl))).symm.trans hr.out⟩,
      fun a a' w h hr => ⟨(h 45 (of_decide_eq_true (by kernel_rfl))).symm.trans hr.out⟩,
      fun a a' w h hr => ⟨(h 55 (of_decide_eq_true (by kernel_rfl))).symm.trans hr.out⟩,
      fun a a' w h hr => ⟨(h 56 (of_decide_eq_true (by kernel_rfl))).symm.trans hr.out⟩,
      fun a a' w h ⟨⟨g, hr⟩⟩ => ⟨⟨g, (h 15 (of_decide_eq_true (by kernel_rfl))).symm.trans hr⟩⟩,
      fun a a' w h ⟨⟨g, hr, hb⟩⟩ => ⟨⟨g, (h 15 (of_decide_eq_true (by kernel_rfl))).symm.trans hr, hb⟩⟩,
      fun a a' w h hr => ⟨(h 16 (of_decide_eq_true (by kernel_rfl))).symm.trans hr.out⟩, trivial⟩
      (fun u hu => asI.start (fun k s l hk => ?_) a15 hu) ?_ ?_
    · match k, hk with
      | 0, hk => cases hk; exact a47
      | 1, hk => cases hk; exact a53
      | k + 2, hk => cases hk
    refine ⟨?_, ?_, ?_, ?_, ?_, ?_, ?_, ?_, ?_, ?_, ?_, ?_, ?_, ?_, ?_, trivial⟩
    · intro a u hI hp hun
      have hsz : 46 < a.tmps.size := by rw [hI.size, HS]; decide
      refine stepS_pure (.slice PA P.length pc) ?_ ?_ ?_
      · exact exec_mv _ rfl ((hI.fr 11 (by decide)).trans a11)
      · exact hI.put 46 _ (by decide) (by decide) (by show 46 ∉ [47, 53]; decide)
      · exact ⟨eval_same a 46 _ hsz⟩
    · intro a u hI hp hun
      have e46 : a.eval (.tmp 46) = .slice PA P.length pc := (hp ⟨0, .data⟩ (by simp) rfl).out
      have hsz : 47 < a.tmps.size := by rw [hI.size, HS]; decide
      obtain ⟨v', u', hr, h1, ⟨A, c, h2⟩, h3⟩ := hI.app (by show ([47, 53] : List Nat).Nodup; decide) 0 47 P rfl (by decide) (by decide) hsz ((hun 47 rfl).trans a47) (v := .slice none 0 0) (l0 := []) (m := P) rfl (World.ownsRow_nil _ _ _ _) (fun g f' _ e => by cases e) (fun k' s' l' h => absurd h (Nat.not_lt_zero _)) (HY.out.kept hI.kept (fun _ _ hf => hf)) (by have := HPL.out; show 0 + _ ≤ _; omega) (ty := 31)
      refine stepS_val v' u' (exec_app _ _ _ rfl rfl e46 hr) h1 ⟨⟨A, P.length, c, ?_⟩⟩ (fun j hj h => h.kept h3 (fun g _ hf => by cases hf))
      exact (eval_same a 47 _ hsz).trans h2
    · intro a u hI hp hun
      have hsz : 48 < a.tmps.size := by rw [hI.size, HS]; decide
      refine stepS_pure (.slice A1 n1 c1) ?_ ?_ ?_
      · exact exec_mv _ rfl ((hI.fr 1 (by decide)).trans a1)
      · exact hI.put 48 _ (by decide) (by decide) (by show 48 ∉ [47, 53]; decide)
      · exact ⟨eval_same a 48 _ hsz⟩
    · intro a u hI hp hun
      have hsz : 49 < a.tmps.size := by rw [hI.size, HS]; decide
      refine stepS_pure (.slice A1 n1 c1) ?_ ?_ ?_
      · exact exec_mv _ rfl ((hI.fr 1 (by decide)).trans a1)
      · exact hI.put 49 _ (by decide) (by decide) (by show 49 ∉ [47, 53]; decide)
      · exact ⟨eval_same a 49 _ hsz⟩
    · intro a u hI hp hun
      have hsz : 50 < a.tmps.size := by rw [hI.size, HS]; decide
      refine stepS_pure (.int .i64 (n1 : Int)) ?_ ?_ ?_
      · exact exec_len _ _ rfl (hp ⟨3, .data⟩ (by simp) rfl).out (ln_s _ _ _ _ _)
      · exact hI.put 50 _ (by decide) (by decide) (by show 50 ∉ [47, 53]; decide)
      · exact ⟨eval_same a 50 _ hsz⟩
    · intro a u hI hp hun
      have hsz : 51 < a.tmps.size := by rw [hI.size, HS]; decide
      refine stepS_pure (.int .i64 (N : Int)) ?_ ?_ ?_
      · exact exec_min _ _ _ _ rfl (hp ⟨4, .data⟩ (by simp) rfl).out rfl (mn_s _ _ _ _ _ HM1.out)
      · exact hI.put 51 _ (by decide) (by decide) (by show 51 ∉ [47, 53]; decide)
      · exact ⟨eval_same a 51 _ hsz⟩
    · intro a u hI hp hun
      have hsz : 52 < a.tmps.size := by rw [hI.size, HS]; decide
      refine stepS_pure (.slice A1 N c1) ?_ ?_ ?_
      · exact exec_cut _ _ _ rfl Try.underlying31 (hp ⟨2, .data⟩ (by simp) rfl).out (hp ⟨5, .data⟩ (by simp) rfl).out (HSL.out u)
      · exact hI.put 52 _ (by decide) (by decide) (by show 52 ∉ [47, 53]; decide)
      · exact ⟨eval_same a 52 _ hsz⟩
    · intro a u hI hp hun
      have e52 : a.eval (.tmp 52) = .slice A1 N c1 := (hp ⟨6, .data⟩ (by simp) rfl).out
      obtain ⟨A0, n0, c0, e47⟩ : ∃ (A : Option Addr) (n c : Nat), a.eval (.tmp 47) = .slice A n c := (hp ⟨1, .data⟩ (by simp) rfl).out
      have hsz : 53 < a.tmps.size := by rw [hI.size, HS]; decide
      have e53 := (hun 53 rfl).trans a53
      obtain ⟨hrow, hng⟩ := hI.row 0 47 P rfl (by rw [e47]; intro e; cases e) (fun k' s' l' hlt hk' => by
        match k', hk' with
        | 0, _ => exact absurd hlt (Nat.lt_irrefl _)
        | 1, hk' => cases hk'; exact e53
        | k + 2, hk' => cases hk')
      obtain ⟨v', u', hr, h1, ⟨A, c, h2⟩, h3⟩ := hI.app (by show ([47, 53] : List Nat).Nodup; decide) 1 53 (P ++ r) rfl (by decide) (by decide) hsz e53 (l0 := P) (m := r) rfl hrow hng (fun k' s' l' h hk' => by
        match k', hk' with
        | 0, hk' => cases hk'; rw [e47]; intro e; cases e
        | k + 1, _ => omega) (HBN.out.kept hI.kept (fun _ _ hf => hf)) (by have := HPL.out; have := HBL.out; have := HBN.out.1; omega) (ty := 31)
      refine stepS_val v' u' (exec_app _ _ _ rfl rfl e52 hr) h1 ⟨⟨A, c, ?_⟩⟩ (fun j hj h => h.kept h3 (fun g e => hng g 0 e))
      exact (eval_same a 53 _ hsz).trans h2
    · intro a u hI hp hun
      obtain ⟨A0, c0, e53⟩ : ∃ (A : Option Addr) (c : Nat), a.eval (.tmp 53) = .slice A (P ++ r).length c := (hp ⟨7, .data⟩ (by simp) rfl).out
      obtain ⟨hrow, hng⟩ := hI.row 1 53 (P ++ r) rfl (by rw [e53]; intro e; cases e) (fun k' s' l' hlt hk' => by
        match k', hk' with
        | 0, _ => omega
        | 1, _ => omega
        | k + 2, hk' => cases hk')
      rw [e53] at hrow
      obtain ⟨A', c', e', hy, -⟩ := Byt.of_own hrow
      cases e'
      have hsz : 54 < a.tmps.size := by rw [hI.size, HS]; decide
      refine stepS_call 15 #[.slice A0 (P ++ r).length c0] ?_ ?_
      · simp [execOp, go_sem]
        have e53' := ev_simp e53
        rw [List.length_append] at e53'
        exact e53'
      have hgy := get_yes A0 (P ++ r).length c0 (P ++ r) u hy (by have := HPL.out; have := HBL.out; rw [List.length_append]; omega)
      rw [gp_get, HGF.out r] at hgy
      refine hgy.mono ?_
      rintro e w' ⟨rfl, hk⟩
      refine ⟨_, rfl, (hI.next hk).put 54 _ (by decide) (by decide) (by show 54 ∉ [47, 53]; decide), ⟨eval_same a 54 _ hsz⟩, fun j _ h => h.kept hk (fun _ _ hf => hf)⟩
    · intro a u hI hp hun
      have hsz : 45 < a.tmps.size := by rw [hI.size, HS]; decide
      refine stepS_pure (.tuple #[bpv m, .int .i64 0]) ?_ ?_ ?_
      · exact exec_mv _ rfl (hp ⟨8, .data⟩ (by simp) rfl).out
      · exact hI.put 45 _ (by decide) (by decide) (by show 45 ∉ [47, 53]; decide)
      · exact ⟨eval_same a 45 _ hsz⟩
    · intro a u hI hp hun
      have hsz : 55 < a.tmps.size := by rw [hI.size, HS]; decide
      refine stepS_pure (bpv m) ?_ ?_ ?_
      · exact exec_ex _ _ rfl (hp ⟨9, .data⟩ (by simp) rfl).out (exS_0 _ _ _)
      · exact hI.put 55 _ (by decide) (by decide) (by show 55 ∉ [47, 53]; decide)
      · exact ⟨eval_same a 55 _ hsz⟩
    · intro a u hI hp hun
      have hsz : 56 < a.tmps.size := by rw [hI.size, HS]; decide
      refine stepS_pure (.int .i64 0) ?_ ?_ ?_
      · exact exec_ex _ _ rfl (hp ⟨9, .data⟩ (by simp) rfl).out (exS_1 _ _ _)
      · exact hI.put 56 _ (by decide) (by decide) (by show 56 ∉ [47, 53]; decide)
      · exact ⟨eval_same a 56 _ hsz⟩
    · intro a u hI hp hun
      have hsz : 15 < a.tmps.size := by rw [hI.size, HS]; decide
      exact stepS_val (pAt u.heap.size 0) (u.alloc (.cells (bpl Bp.zero).toArray 52)) (by kernel_rfl) (hI.alloc (by show 15 ∉ [47, 53]; decide) (by decide) hsz _ rfl) ⟨⟨_, eval_same a 15 _ hsz⟩⟩ (fun j _ h => h.kept ((Kept.refl Nil u).alloc _) (fun _ _ hf => hf))
    · intro a u hI hp hun
      obtain ⟨g, e15⟩ : ∃ g, a.eval (.tmp 15) = pAt g 0 := (hp ⟨12, .data⟩ (by simp) rfl).out
      have e55 : a.eval (.tmp 55) = bpv m := (hp ⟨10, .data⟩ (by simp) rfl).out
      obtain ⟨hg1, hg2, cs, hcl, hb⟩ := hI.al g 0 e15
      refine stepS_st _ _ _ rfl rfl e15 (bpl m) e55 rfl (infBp _) hb (by rw [hcl]; show 0 + 10 ≤ 10; decide) (bpl_one m) fun u' hbl hk hz => ?_
      have hbl' : Blo u' g 52 (bpl m).toArray := by
        rw [List.take_zero, List.nil_append, show 0 + (bpl m).length = cs.length by rw [hcl]; rfl, List.drop_length, List.append_nil] at hbl
        exact hbl
      exact ⟨hI.store hk hz e15 (bpl m) rfl hbl', ⟨⟨g, e15, hbl'⟩⟩, fun j hj h => h.st hj⟩
    · intro a u hI hp hun
      have hsz : 16 < a.tmps.size := by rw [hI.size, HS]; decide
      refine stepS_pure (.int .i64 0) ?_ ?_ ?_
      · exact exec_as _ rfl (hp ⟨11, .data⟩ (by simp) rfl).out
      · exact hI.put 16 _ (by decide) (by decide) (by show 16 ∉ [47, 53]; decide)
      · exact ⟨eval_same a 16 _ hsz⟩
    intro a xw4 hI hR
    obtain ⟨g15, e15, hb15⟩ := (hR 13 _ rfl).out
    obtain ⟨A7, n7, c7, e47⟩ : ∃ (A : Option Addr) (n c : Nat), a.eval (.tmp 47) = .slice A n c := (hR 1 _ rfl).out
    obtain ⟨A8, c8, e53⟩ : ∃ (A : Option Addr) (c : Nat), a.eval (.tmp 53) = .slice A (P ++ r).length c := (hR 7 _ rfl).out
    have ha := act_eq a A6 [(46, .slice PA P.length pc), (47, .slice A7 n7 c7), (48, .slice A1 n1 c1), (49, .slice A1 n1 c1), (50, .int .i64 (n1 : Int)), (51, .int .i64 (N : Int)), (52, .slice A1 N c1), (53, .slice A8 (P ++ r).length c8), (54, .tuple #[bpv m, .int .i64 0]), (45, .tuple #[bpv m, .int .i64 0]), (55, bpv m), (56, .int .i64 0), (15, pAt g15 0), (16, .int .i64 0)] hI.size hI.defs (show ([46, 47, 48, 49, 50, 51, 52, 53, 54, 45, 55, 56, 15, 16] : List Nat).Nodup by decide) (fun p hp => by
        rw [HS]
        have h1 : p.1 ∈ [46, 47, 48, 49, 50, 51, 52, 53, 54, 45, 55, 56, 15, 16] := List.mem_map_of_mem (f := Prod.fst) hp
        simp at h1
        omega) (fun p hp => by
        simp only [List.mem_cons, List.not_mem_nil, or_false] at hp
        rcases hp with rfl | rfl | rfl | rfl | rfl | rfl | rfl | rfl | rfl | rfl | rfl | rfl | rfl | rfl
        · exact (hR 0 _ rfl).out
        · exact e47
        · exact (hR 2 _ rfl).out
        · exact (hR 3 _ rfl).out
        · exact (hR 4 _ rfl).out
        · exact (hR 5 _ rfl).out
        · exact (hR 6 _ rfl).out
        · exact e53
        · exact (hR 8 _ rfl).out
        · exact (hR 9 _ rfl).out
        · exact (hR 10 _ rfl).out
        · exact (hR 11 _ rfl).out
        · exact e15
        · exact (hR 14 _ rfl).out) (fun d hd => hI.fr d hd)
    have hk := hI.kept
    have HG15 := Lib.hid (show BPB xw4 g15 52 m from hb15)
    have HP := Lib.hid (HP.out.kept hk (fun hf => hf))
    have HQ := Lib.hid (HQ.out.kept hk (fun hf => hf))
    have HAN := Lib.hid (HAN.out.kept hk (fun _ _ hf => hf))
    have HY := Lib.hid (HY.out.kept hk (fun _ _ hf => hf))
    have HFY := Lib.hid (HFY.out.kept hk (fun _ _ hf => hf))
    have HF := Lib.hid (HF.out.kept hk (fun hf => hf))
    have HK := Lib.hid (HK.out.then hk)
    clear hI hR hk hb15 e15 e47 e53 a1 a11 a15 a47 a53 HBN HBL HS HSL HM1
    subst ha
    have hA6 := HA6.out
    clear HA6
    subst hA6
    clear hbc hbcc hm2
    simp only [List.foldl_cons, List.foldl_nil, pAt]
    simp only [Act.put, List.setIfInBounds_toArray, List.set_cons_succ, List.set_cons_zero]
    have hp4 := HPG.out
    have hp0 : ((P.length : Int) == 0) = false := by rw [beq_eq_false_iff_ne]; omega
    have heq : (Op.equalIn 10000 52 (.agg (bpl m).toArray) (.agg (bpl m).toArray)).run Try.prog xw4 = .ok true xw4 := by have := eq_bp m m xw4; rwa [decide_eq_true rfl] at this
    go_upto_region 9 with (first
      | (refine wpList_ld rfl _ (.tmp 15) rfl g15 0 rfl (bpl m) HG15.out.all _ Try.underlying52 rfl (infBp _) ?_; simp only [Act.put, List.setIfInBounds_toArray, List.set_cons_succ, List.set_cons_zero])
      | (refine wpList_ld rfl _ (.tmp 5) rfl g5 0 rfl (bpl m) HP.out.all _ Try.underlying52 rfl (infBp _) ?_; simp only [Act.put, List.setIfInBounds_toArray, List.set_cons_succ, List.set_cons_zero])
      | (refine wpList_neS rfl _ _ _ _ rfl (bpl m).toArray (bpl m).toArray rfl rfl (by kernel_rfl) true heq ?_; simp only [Act.put, List.setIfInBounds_toArray, List.set_cons_succ, List.set_cons_zero])
      | fail)
    clear heq hp0
    obtain ⟨hc1, hc2⟩ := HCU.out
    obtain ⟨κ, hκ, hκ2⟩ : ∃ K : Nat, cu % (P.length : Int) = (K : Int) ∧ K < P.length := by
      have h1 := Int.emod_nonneg cu (show (P.length : Int) ≠ 0 by omega)
      have h2 := Int.emod_lt_of_pos cu (show (0 : Int) < P.length by omega)
      exact ⟨(cu % (P.length : Int)).toNat, by omega, by omega⟩
    have hsl := run_cut_hi (P := Try.prog) Try.underlying31 inf5.1 PA P.length pc κ (κ : Int) rfl (by have := HY.out.2.1; omega)
    have hyk := HY.out.pre (hi := κ) (Nat.le_of_lt hκ2)
    have HKP := Lib.hid hκ2
    clear hκ2
    go_wp2_with (fail)
    clear hsl hκ hc1 hc2
    have hgy := get_yes PA κ pc (P.take κ) xw4 hyk (by have := HPL.out; have := HKP.out; omega)
    rw [gp_get, ← HPE.out, get_cut m HOK.out HMY.out κ (by rw [HPE.out]; exact HKP.out)] at hgy
    refine hgy.mono ?_
    rintro e xw5 ⟨rfl, hk⟩
    have HP := Lib.hid (HP.out.kept hk (fun hf => hf))
    have HQ := Lib.hid (HQ.out.kept hk (fun hf => hf))
    have HG15 := Lib.hid (HG15.out.kept hk (fun hf => hf))
    have HAN := Lib.hid (HAN.out.kept hk (fun _ _ hf => hf))
    have HFY := Lib.hid (HFY.out.kept hk (fun _ _ hf => hf))
    have HF := Lib.hid (HF.out.kept hk (fun hf => hf))
    have HK := Lib.hid (HK.out.then hk)
    clear hk hgy hyk HY
    have hB := BPB.new xw5 52 Bp.zero
    dsimp only
    go_upto_region 12 with (first
      | (refine wpList_st rfl 52 (.tmp 17) _ rfl _ 0 rfl (bpl Bp.zero) _ rfl rfl (infBp _) 52 (bpl Bp.zero) hB (by show 0 + 10 ≤ 10; decide) (bpl_one _) ?_; intro xw6 hb hk hz; simp only [Act.put, List.setIfInBounds_toArray, List.set_cons_succ, List.set_cons_zero])
      | fail)
    have hk := ((Kept.refl Nil xw5).alloc (.cells (bpl Bp.zero).toArray 52)).fresh hk (fun i hi => by cases hi; exact Nat.le_refl _)
    have HP := Lib.hid (HP.out.kept hk (fun hf => hf))
    have HQ := Lib.hid (HQ.out.kept hk (fun hf => hf))
    have HG15 := Lib.hid (HG15.out.kept hk (fun hf => hf))
    have HAN := Lib.hid (HAN.out.kept hk (fun _ _ hf => hf))
    have HFY := Lib.hid (HFY.out.kept hk (fun _ _ hf => hf))
    have HF := Lib.hid (HF.out.kept hk (fun hf => hf))
    have HK := Lib.hid (HK.out.then hk)
    clear hb hk hz hB
    have hFB := frm_is [s0, s1, s2, s3, s4, s5] m HMY.out
    have hFok := frm_ok [s0, s1, s2, s3, s4, s5] rfl m HMY.out
    obtain ⟨hFp, hFl⟩ := frm_put [s0, s1, s2, s3, s4, s5] rfl m HMY.out
    obtain ⟨hFg, hFe⟩ := frm_get [s0, s1, s2, s3, s4, s5] rfl m HMY.out
    have hFi := frm_isF [s0, s1, s2, s3, s4, s5] m HMY.out
    rw [HPE.out] at hFB
    have hm0 := HGF.out []
    rw [List.append_nil] at hm0
    have HM0 := Lib.hid hm0
    obtain ⟨F, hF⟩ : ∃ F, frmB [s0, s1, s2, s3, s4, s5] m = F := ⟨_, rfl⟩
    rw [hF] at hFB hFok hFp hFl hFg hFe hFi HF HF6 ⊢
    clear hF
    have HFt := Lib.hid (show F.t = [] by rw [hFB])
    have HFb := Lib.hid (show F.b = P by rw [hFB])
    have HFr := Lib.hid (show F.r = [] by rw [hFB])
    have HFs := Lib.hid (show F.s = [s0, s1, s2, s3, s4, s5] by rw [hFB])
    have HFI := Lib.hid (show FrIn xw6 F (.slice none 0 0) (.slice FA P.length fc) (.slice none 0 0) from ⟨hFok, ⟨none, 0, 0, rfl, by rw [HFt.out]; exact Tags.nil _⟩, ⟨FA, _, fc, rfl, by rw [HFb.out]; exact HFY.out⟩, ⟨none, 0, 0, rfl, by rw [HFr.out]; exact ⟨rfl, Nat.le_refl _, by decide, fun h => absurd h (Nat.lt_irrefl _)⟩⟩, by rw [HFt.out]; exact Nat.zero_le _, by rw [HFb.out]; have := HPL.out; omega, by rw [HFr.out]; exact Nat.zero_le _⟩)
    have HFP := Lib.hid hFp
    have HFL := Lib.hid hFl
    have HFG := Lib.hid hFg
    have HFE := Lib.hid hFe
    have HIS := Lib.hid hFi
    have HIS2 := Lib.hid hFi
    clear hFB hFok hFp hFl hFg hFe hFi hm0 HFY HGF hp4
    go_wp2_with (first
      | (refine wpList_ld rfl _ _ rfl g13 0 rfl (fcs F (.slice none 0 0) (.slice FA P.length fc) (.slice none 0 0)) HF.out.all _ Try.underlying57 rfl (infFr _ _ _ _ HF6.out) ?_; simp only [Act.put, List.setIfInBounds_toArray, List.set_cons_succ, List.set_cons_zero])
      | fail)
    refine (put_yes F _ _ _ xw6 HFI.out).mono ?_
    rintro e xw7 ⟨xv7, rfl, hmd⟩
    rw [HFP.out]
    have HP := Lib.hid (HP.out.kept hmd.2 (fun hf => hf))
    have HQ := Lib.hid (HQ.out.kept hmd.2 (fun hf => hf))
    have HG15 := Lib.hid (HG15.out.kept hmd.2 (fun hf => hf))
    have HAN := Lib.hid (HAN.out.kept hmd.2 (fun _ _ hf => hf))
    have HF := Lib.hid (HF.out.kept hmd.2 (fun hf => hf))
    have HK := Lib.hid (HK.out.then hmd.2)
    obtain ⟨XA, xc, rfl, hy, -⟩ := byt_own hmd
    have HXY := Lib.hid hy
    clear hmd hy HFP HFI
    obtain ⟨X, hX⟩ : ∃ X, (putM F).1 = X := ⟨_, rfl⟩
    rw [hX] at HXY HFL HFG HFE ⊢
    clear hX
    dsimp only
    go_upto_region 13 with (fail)
    go_wp2_with (fail)
    refine (eget_yes XA X.length xc X _ HXY.out (by have := HFL.out; omega)).mono ?_
    rintro e xw8 ⟨yt, yb, yr, rfl, hnf, hk⟩
    rw [HFG.out] at hnf ⊢
    rw [HFE.out]
    have HNF := Lib.hid hnf
    have HP := Lib.hid (HP.out.kept hk (fun hf => hf))
    have HQ := Lib.hid (HQ.out.kept hk (fun hf => hf))
    have HG15 := Lib.hid (HG15.out.kept hk (fun hf => hf))
    have HAN := Lib.hid (HAN.out.kept hk (fun _ _ hf => hf))
    have HF := Lib.hid (HF.out.kept hk (fun hf => hf))
    have HK := Lib.hid (HK.out.then hk)
    clear hnf hk HXY HFL HFG HFE
    have hT := FB.new xw8 57 Fr.zero (.slice none 0 0) (.slice none 0 0) (.slice none 0 0)
    dsimp only
    go_upto_region 14 with (first
      | (refine wpList_st rfl 57 (.tmp 21) _ rfl _ 0 rfl (fcs F yt yb yr) _ rfl rfl (infFr _ _ _ _ HF6.out) 57 _ hT (by rw [fcs_len HF6.out, fcs_len Fr.zero_six]; decide) HNF.out.ones ?_; intro xw9 hb hk hz; simp only [Act.put, List.setIfInBounds_toArray, List.set_cons_succ, List.set_cons_zero])
      | fail)
    have hk := ((Kept.refl Nil xw8).alloc (.cells (fcs Fr.zero (.slice none 0 0) (.slice none 0 0) (.slice none 0 0)).toArray 57)).fresh hk (fun i hi => by cases hi; exact Nat.le_refl _)
    have HF21 := Lib.hid (FB.of_all Fr.zero_six HF6.out hb)
    have HP := Lib.hid (HP.out.kept hk (fun hf => hf))
    have HQ := Lib.hid (HQ.out.kept hk (fun hf => hf))
    have HG15 := Lib.hid (HG15.out.kept hk (fun hf => hf))
    have HAN := Lib.hid (HAN.out.kept hk (fun _ _ hf => hf))
    have HF := Lib.hid (HF.out.kept hk (fun hf => hf))
    have HNF := Lib.hid (HNF.out.kept hk)
    have HK := Lib.hid (HK.out.then hk)
    obtain ⟨g21, hg21⟩ : ∃ x, xw8.heap.size = x := ⟨_, rfl⟩
    rw [hg21] at HF21 ⊢
    clear hb hk hz hT hg21
    obtain ⟨BA, bn, bc, rfl, hby, -⟩ := HNF.out.b
    obtain ⟨TA, tn, tc, rfl, hty, -⟩ := HNF.out.t
    obtain ⟨RA, rn, rc, rfl, -, -⟩ := HNF.out.r
    rw [HFb.out] at hby
    rw [HFt.out] at hty
    have HBY := Lib.hid hby
    have HTN := Lib.hid (show tn = 0 from hty.len.symm)
    clear hby hty HNF
    have cb := HF21.out.cb HF6.out
    go_wp2_with (fail)
    have hgy := get_yes BA bn bc P xw9 HBY.out (by have := HPL.out; have := HBY.out.1; omega)
    rw [gp_get, HM0.out] at hgy
    refine hgy.mono ?_
    rintro e xw10 ⟨rfl, hk⟩
    have HP := Lib.hid (HP.out.kept hk (fun hf => hf))
    have HQ := Lib.hid (HQ.out.kept hk (fun hf => hf))
    have HG15 := Lib.hid (HG15.out.kept hk (fun hf => hf))
    have HAN := Lib.hid (HAN.out.kept hk (fun _ _ hf => hf))
    have HF := Lib.hid (HF.out.kept hk (fun hf => hf))
    have HF21 := Lib.hid (HF21.out.kept hk (fun hf => hf))
    have HK := Lib.hid (HK.out.then hk)
    clear hgy hk cb HBY HM0
    have hB := BPB.new xw10 52 Bp.zero
    dsimp only
    go_upto_region 15 with (first
      | (refine wpList_st rfl 52 (.tmp 23) _ rfl _ 0 rfl (bpl m) _ rfl rfl (infBp _) 52 (bpl Bp.zero) hB (by show 0 + 10 ≤ 10; decide) (bpl_one _) ?_; intro xw11 hb hk hz; simp only [Act.put, List.setIfInBounds_toArray, List.set_cons_succ, List.set_cons_zero])
      | fail)
    have HG23 := Lib.hid (BPB.of_all (m := Bp.zero) (m' := m) hb)
    have hk := ((Kept.refl Nil xw10).alloc (.cells (bpl Bp.zero).toArray 52)).fresh hk (fun i hi => by cases hi; exact Nat.le_refl _)
    have HP := Lib.hid (HP.out.kept hk (fun hf => hf))
    have HQ := Lib.hid (HQ.out.kept hk (fun hf => hf))
    have HAN := Lib.hid (HAN.out.kept hk (fun _ _ hf => hf))
    have HF := Lib.hid (HF.out.kept hk (fun hf => hf))
    have HF21 := Lib.hid (HF21.out.kept hk (fun hf => hf))
    have HK := Lib.hid (HK.out.then hk)
    obtain ⟨g23, hg23⟩ : ∃ x, xw10.heap.size = x := ⟨_, rfl⟩
    rw [hg23] at HG23 ⊢
    clear hb hk hz hB hg23
    have htn := HTN.out
    subst htn
    clear HTN
    have heq : (Op.equalIn 10000 52 (.agg (bpl m).toArray) (.agg (bpl m).toArray)).run Try.prog xw11 = .ok true xw11 := by have := eq_bp m m xw11; rwa [decide_eq_true rfl] at this
    go_wp2_with (first
      | (refine wpList_ld rfl _ (.tmp 23) rfl g23 0 rfl (bpl m) HG23.out.all _ Try.underlying52 rfl (infBp _) ?_; simp only [Act.put, List.setIfInBounds_toArray, List.set_cons_succ, List.set_cons_zero])
      | (refine wpList_ld rfl _ (.tmp 5) rfl g5 0 rfl (bpl m) HP.out.all _ Try.underlying52 rfl (infBp _) ?_; simp only [Act.put, List.setIfInBounds_toArray, List.set_cons_succ, List.set_cons_zero])
      | (refine wpList_neS rfl _ _ _ _ rfl (bpl m).toArray (bpl m).toArray rfl rfl (by kernel_rfl) true heq ?_; simp only [Act.put, List.setIfInBounds_toArray, List.set_cons_succ, List.set_cons_zero])
      | (refine wpList_ld rfl _ (.tmp 13) rfl g13 0 rfl (fcs F (.slice none 0 0) (.slice FA P.length fc) (.slice none 0 0)) HF.out.all _ Try.underlying57 rfl (infFr _ _ _ _ HF6.out) ?_; simp only [Act.put, List.setIfInBounds_toArray, List.set_cons_succ, List.set_cons_zero])
      | fail)
    refine (is_yes F HF6.out _ _ _ _).mono ?_
    rintro e xw12 ⟨rfl, hk⟩
    rw [HIS.out]
    have HQ := Lib.hid (HQ.out.kept hk (fun hf => hf))
    have HAN := Lib.hid (HAN.out.kept hk (fun _ _ hf => hf))
    have HF21 := Lib.hid (HF21.out.kept hk (fun hf => hf))
    have HK := Lib.hid (HK.out.then hk)
    clear hk heq HP HF HG15 HG23 HIS
    dsimp only
    go_wp2_with (first
      | (refine wpList_ld rfl _ (.tmp 21) rfl g21 0 rfl (fcs F (.slice TA 0 tc) (.slice BA bn bc) (.slice RA rn rc)) HF21.out.all _ Try.underlying57 rfl (infFr _ _ _ _ HF6.out) ?_; simp only [Act.put, List.setIfInBounds_toArray, List.set_cons_succ, List.set_cons_zero])
      | fail)
    refine (is_yes F HF6.out _ _ _ _).mono ?_
    rintro e xw13 ⟨rfl, hk⟩
    rw [HIS2.out]
    have HQ := Lib.hid (HQ.out.kept hk (fun hf => hf))
    have HAN := Lib.hid (HAN.out.kept hk (fun _ _ hf => hf))
    have HF21 := Lib.hid (HF21.out.kept hk (fun hf => hf))
    have HK := Lib.hid (HK.out.then hk)
    clear hk HIS2
    have ct := HF21.out.ct HF6.out
    have heq : (Op.equalIn 10000 26 (.agg (bys F.s).toArray) (.agg (bys [s0, s1, s2, s3, s4, s5]).toArray)).run Try.prog xw13 = .ok true xw13 := by
      have := eq_mac F.s [s0, s1, s2, s3, s4, s5] HF6.out.s rfl xw13
      rw [HFs.out] at this ⊢
      rwa [beq_self_eq_true] at this
    dsimp only
    go_upto_region 19 with (first
      | (refine wpList_ld rfl _ (.tmp 124) rfl g21 6 rfl (bys F.s) (HF21.out.rs HF6.out) _ Try.underlying26 rfl (by rw [bys_len, HF6.out.s]; exact infm) ?_; simp only [Act.put, List.setIfInBounds_toArray, List.set_cons_succ, List.set_cons_zero])
      | (refine wpList_ld rfl _ (.tmp 7) rfl g7 0 rfl (bys [s0, s1, s2, s3, s4, s5]) (Blo.row [] (bys [s0, s1, s2, s3, s4, s5]) [] (by simpa using HQ.out)) _ Try.underlying25 rfl (inf_b6B _ rfl) ?_; simp only [Act.put, List.setIfInBounds_toArray, List.set_cons_succ, List.set_cons_zero])
      | (refine wpList_neS rfl _ _ _ _ rfl (bys F.s).toArray (bys [s0, s1, s2, s3, s4, s5]).toArray rfl rfl (by kernel_rfl) true heq ?_; simp only [Act.put, List.setIfInBounds_toArray, List.set_cons_succ, List.set_cons_zero])
      | fail)
    clear ct heq HF21 HQ HF6 HFt HFb HFr HFs HPL HPG HPE HMY
    have hkc := HAN.out.2.1
    have hcc := HAN.out.2.2.1
    obtain ⟨N, hm1, hm2, hN1, hN2⟩ := min60B n2
    have hsl := run_cut_hi (P := Try.prog) Try.underlying31 inf5.1 A2 n2 c2 N (N : Int) rfl (by omega)
    have HAN := Lib.hid (HAN.out.pre (hi := N) hN1)
    obtain ⟨ay, hay⟩ : ∃ x, an.take N = x := ⟨_, rfl⟩
    rw [hay] at HAN
    have HN2 := Lib.hid hN2
    clear hN2 hay
    go_wp2_with (fail)
    clear hm1 hm2 hsl
    refine (get_yes A2 N c2 ay _ HAN.out (by have := HN2.out; omega)).mono ?_
    rintro e xw5 ⟨rfl, hk⟩
    rw [gp_get]
    have HAN := Lib.hid (HAN.out.kept hk (fun _ _ hf => hf))
    have HK := Lib.hid (HK.out.then hk)
    have HGE := Lib.hid (get_err ay)
    have HPG := Lib.hid (fun h => put_got ay h)
    have HGO := Lib.hid (getB_ok ay)
    generalize (getB ay).1 = R1 at *
    generalize (getB ay).2 = R2 at *
    clear hk
    have hB := BPB.new xw5 52 Bp.zero
    dsimp only
    go_upto_region 21 with (first
      | (refine wpList_st rfl 52 (.tmp 25) _ rfl _ 0 rfl (bpl R1) _ rfl rfl (infBp _) 52 (bpl Bp.zero) hB (by show 0 + 10 ≤ 10; decide) (bpl_one _) ?_; intro xw6 hb hk hz; simp only [Act.put, List.setIfInBounds_toArray, List.set_cons_succ, List.set_cons_zero])
      | fail)
    have HRB := Lib.hid (BPB.of_all (m := Bp.zero) (m' := R1) hb)
    have hk := ((Kept.refl Nil xw5).alloc (.cells (bpl Bp.zero).toArray 52)).fresh hk (fun i hi => by cases hi; exact Nat.le_refl _)
    have HAN := Lib.hid (HAN.out.kept hk (fun _ _ hf => hf))
    have HK := Lib.hid (HK.out.then hk)
    obtain ⟨g25, hg25⟩ : ∃ x, xw5.heap.size = x := ⟨_, rfl⟩
    rw [hg25] at HRB ⊢
    clear hb hk hz hB hg25
    by_cases hr : R2 = 0
    · have br : (R2 != 0) = false := by simp [hr]
      obtain ⟨p1, p2, p3⟩ := HPG.out hr
      have hpe : putB R1 = (forB R1, 0) := by unfold putB; rw [p1]; rfl
      have HPE := Lib.hid hpe
      have HP2 := Lib.hid p2
      have HP3 := Lib.hid p3
      clear hr p1 p2 p3 hpe HPG
      go_wp2_with (first | (refine wpList_ld rfl _ _ rfl g25 0 rfl (bpl R1) HRB.out.all _ Try.underlying52 rfl (infBp _) ?_) | fail)
      refine (bpput_yes R1 HGO.out _).mono ?_
      rintro e xw7 ⟨xv7, rfl, hmd⟩
      rw [HPE.out] at hmd ⊢
      obtain ⟨C1, cc1, rfl, hyc, -⟩ := byt_own hmd
      have HYC := Lib.hid hyc
      have HAN := Lib.hid (HAN.out.kept hmd.2 (fun _ _ hf => hf))
      have HK := Lib.hid (HK.out.then hmd.2)
      have hln : ay.length = N := HAN.out.1
      have hnn : (forB R1).length ≤ N := by have := HP3.out; omega
      have hpr := HAN.out.pre (hi := (forB R1).length) hnn
      rw [← HP2.out] at hpr
      have HPR := Lib.hid hpr
      obtain ⟨M, hM⟩ : ∃ M, (forB R1).length = M := ⟨_, rfl⟩
      rw [hM] at HYC HPR hnn
      have hcM : M ≤ c2 := by have := HAN.out.2.1; omega
      have hsl := run_cut_hi (P := Try.prog) Try.underlying31 inf5.1 A2 N c2 M (M : Int) rfl hcM
      rw [hM]
      generalize forB R1 = FB1 at *
      clear hmd hyc hpr hln hM
      dsimp only
      go_upto_region 24 with (fail)
      have hnn2 : (M : Int) ≤ (N : Int) := by omega
      have tx := fun d os => (HYC.out.kept (kept_grown' xw7 d os) (fun _ _ hf => hf)).text (P := Try.prog) Try.underlying31 Try.underlying5 Try.underlying9
      have ty := fun d os => (HPR.out.kept (kept_grown' xw7 d os) (fun _ _ hf => hf)).text (P := Try.prog) Try.underlying31 Try.underlying5 Try.underlying9
      refine wp_region_quiet_below (by kernel_rfl) (by kernel_rfl) ?_
      repeat (go_big_quiet_step (with_reducible exact quietK (rows_yes _)))
      refine wpQuiet_nil ?_
      rintro xw8 ⟨nq, hw⟩
      have HKZ := Lib.hid (HK.out.then (show Kept Nil xw7 xw8 from by rw [hw]; exact kept_grown _ _))
      clear hw tx ty hsl
      go_wp2
      go_ret
      exact ⟨rfl, HKZ.out.below (Nat.le_refl _) (fun _ hf => hf.elim)⟩
    · have br : (R2 != 0) = true := by simp [hr]
      rcases HGE.out with h | ⟨h1, h45⟩
      · exact absurd h hr
      subst h1
      have heq : (Op.equalIn 10000 52 (.agg (bpl Bp.zero).toArray) (.agg (bpl Bp.zero).toArray)).run Try.prog xw6 = .ok true xw6 := by have := eq_bp Bp.zero Bp.zero xw6; rwa [decide_eq_true rfl] at this
      clear hr HPG HGO HGE
      rcases h45 with rfl | rfl
      all_goals
        go_wp2_with (first
          | (refine wpList_ld rfl _ _ rfl g25 0 rfl (bpl Bp.zero) HRB.out.all _ Try.underlying52 rfl (infBp _) ?_; simp only [Act.put, List.setIfInBounds_toArray, List.set_cons_succ, List.set_cons_zero])
          | (refine wpList_eqS rfl _ _ _ _ rfl (bpl Bp.zero).toArray (bpl Bp.zero).toArray rfl rfl (by kernel_rfl) true heq ?_; simp only [Act.put, List.setIfInBounds_toArray, List.set_cons_succ, List.set_cons_zero])
          | fail)
        refine (rows_yes _).mono ?_
        rintro e xw7 ⟨rfl, hk⟩
        have HK := Lib.hid (HK.out.then hk)
        clear hk heq
        dsimp only
        go_wp2_with (fail)
        go_ret
        exact ⟨rfl, HK.out.below (Nat.le_refl _) (fun _ hf => hf.elim)⟩
end Go.Proofs.Ythjfeanmgaidcaa
