/- tollref10: contract of Put. -/
import Derived.Test.YtbkjobmjapbmpaaBrC
import Derived.Test.YtbkjobmjapbmpaaMg12
namespace Go.Proofs.Ytbkjobmjapbmpaa
open Go.RowKit Go.Sort
set_option linter.unusedVariables false

theorem putB_bad (m : Bp) (h : mayB m = false) : putB m = ([], 1) := by unfold putB; rw [h]; rfl
theorem putB_good (m : Bp) (h : mayB m = true) : putB m = (forB m, 0) := by unfold putB; rw [h]; rfl
theorem may_two (m : Bp) (h : m.kd = 2) : mayB m = decide (m = Bp.chg) := by unfold mayB; rw [if_neg (by omega), if_pos h]
theorem may_13 (m : Bp) (h : m.kd = 1 ∨ m.kd = 3) : mayB m = decide (m.ag < m.ma) := by unfold mayB; rw [if_pos h]
theorem may_no (m : Bp) (h1 : m.kd ≠ 1) (h2 : m.kd ≠ 2) (h3 : m.kd ≠ 3) : mayB m = false := by unfold mayB; rw [if_neg (by omega), if_neg h2]
theorem beM1 (x : Nat) : beM 1 x = [UInt8.ofNat x] := by simp [beM, List.range_succ]
theorem beM40 : beM 4 0 = [0, 0, 0, 0] := by decide
theorem beM4r : beM 4 514 = [0, 0, 2, 2] := by decide
set_option maxRecDepth 100000 in
set_option maxHeartbeats 8000000 in
theorem bput_yes (m : Bp) (hm : m.ok) (w : World) : Calls Try.prog 12 #[bpv m] w fun e w' => BytE w e w' (putB m) := by
  have hP := bp_box w 39 m
  have HOK := Lib.hid hm
  clear hm
  go_enter Try.func12, Try.ntmps12
  go_upto_region 1 with (fail)
  refine wp_nameE (fun W => BPB W w.heap.size 39 m ∧ Kept Nil w W) hP ?_
  clear hP
  rintro W ⟨hP, hk⟩
  have HP := Lib.hid hP
  have HK := Lib.hid hk
  obtain ⟨gm, hgm⟩ : ∃ x, w.heap.size = x := ⟨_, rfl⟩
  rw [hgm] at HP ⊢
  have HGM := Lib.hid hgm
  clear hP hk hgm
  have c0 := HP.out.c0
  have c1 := HP.out.c1
  have c2 := HP.out.c2
  have c3 := HP.out.c3
  have c4 := HP.out.c4
  have c5 := HP.out.c5
  have c6 := HP.out.c6
  have c7 := HP.out.c7
  have c8 := HP.out.c8
  have c9 := HP.out.c9
  by_cases h2 : m.kd = 2
  · have b2 : (m.kd == 2) = true := by simp [h2]
    have hmy := may_two m h2
    by_cases z0 : m.fl = 0
    · have q0 : ((m.fl : Int) != 0) = false := by simp [z0]
      by_cases z1 : m.ro = 0
      · have q1 : ((m.ro : Int) != 0) = false := by simp [z1]
        by_cases z2 : m.br = 0
        · have q2 : ((m.br : Int) != 0) = false := by simp [z2]
          by_cases z3 : m.co = 0
          · have q3 : ((m.co : Int) != 0) = false := by simp [z3]
            by_cases z4 : m.po = 0
            · have q4 : ((m.po : Int) != 0) = false := by simp [z4]
              by_cases z5 : m.ag = 0
              · have q5 : ((m.ag : Int) != 0) = false := by simp [z5]
                by_cases z6 : m.ma = 0
                · have q6 : ((m.ma : Int) != 0) = false := by simp [z6]
                  by_cases z7 : m.he = 0
                  · have q7 : ((m.he : Int) != 0) = false := by simp [z7]
                    by_cases z8 : m.de = 0
                    · have q8 : ((m.de : Int) != 0) = false := by simp [z8]
                      have HM := Lib.hid (show putB m = ([0, 0, 0, 128], 0) by
                        have e : m = Bp.chg := by cases m; simp_all [Bp.chg]
                        rw [putB_good m (by rw [hmy, decide_eq_true e]), e]
                        rfl)
                      clear hmy h2 z0 z1 z2 z3 z4 z5 z6 z7 z8
                      go_wp2_with (fail)
                      go_ret2
                      refine ⟨_, by rw [HM.out]; rfl, ?_⟩
                      rw [HM.out]
                      have hmd := made_of (w := W) (w' := W.alloc (.cells (bys [0, 0, 0, 128]).toArray 5)) (W := 4) (l := [0, 0, 0, 128]) rfl (by decide) (Blo.new W _ _) ((Kept.refl Nil W).alloc _)
                      exact ⟨own_mono hmd.1 HK.out.size, HK.out.then hmd.2⟩
                    · have q8 : ((m.de : Int) != 0) = true := by simp; omega
                      have HM := Lib.hid (putB_bad m (by rw [hmy]; exact decide_eq_false (fun e => z8 (by rw [e]; rfl))))
                      clear hmy h2 z0 z1 z2 z3 z4 z5 z6 z7 z8
                      go_wp2_with (fail)
                      go_ret2
                      exact ⟨_, by rw [HM.out]; rfl, by rw [HM.out]; exact World.ownsRow_nil _ _ _ _, HK.out⟩
                  · have q7 : ((m.he : Int) != 0) = true := by simp; omega
                    have HM := Lib.hid (putB_bad m (by rw [hmy]; exact decide_eq_false (fun e => z7 (by rw [e]; rfl))))
                    clear hmy h2 z0 z1 z2 z3 z4 z5 z6 z7
                    go_wp2_with (fail)
                    go_ret2
                    exact ⟨_, by rw [HM.out]; rfl, by rw [HM.out]; exact World.ownsRow_nil _ _ _ _, HK.out⟩
                · have q6 : ((m.ma : Int) != 0) = true := by simp; omega
                  have HM := Lib.hid (putB_bad m (by rw [hmy]; exact decide_eq_false (fun e => z6 (by rw [e]; rfl))))
                  clear hmy h2 z0 z1 z2 z3 z4 z5 z6
                  go_wp2_with (fail)
                  go_ret2
                  exact ⟨_, by rw [HM.out]; rfl, by rw [HM.out]; exact World.ownsRow_nil _ _ _ _, HK.out⟩
              · have q5 : ((m.ag : Int) != 0) = true := by simp; omega
                have HM := Lib.hid (putB_bad m (by rw [hmy]; exact decide_eq_false (fun e => z5 (by rw [e]; rfl))))
                clear hmy h2 z0 z1 z2 z3 z4 z5
                go_wp2_with (fail)
                go_ret2
                exact ⟨_, by rw [HM.out]; rfl, by rw [HM.out]; exact World.ownsRow_nil _ _ _ _, HK.out⟩
            · have q4 : ((m.po : Int) != 0) = true := by simp; omega
              have HM := Lib.hid (putB_bad m (by rw [hmy]; exact decide_eq_false (fun e => z4 (by rw [e]; rfl))))
              clear hmy h2 z0 z1 z2 z3 z4
              go_wp2_with (fail)
              go_ret2
              exact ⟨_, by rw [HM.out]; rfl, by rw [HM.out]; exact World.ownsRow_nil _ _ _ _, HK.out⟩
          · have q3 : ((m.co : Int) != 0) = true := by simp; omega
            have HM := Lib.hid (putB_bad m (by rw [hmy]; exact decide_eq_false (fun e => z3 (by rw [e]; rfl))))
            clear hmy h2 z0 z1 z2 z3
            go_wp2_with (fail)
            go_ret2
            exact ⟨_, by rw [HM.out]; rfl, by rw [HM.out]; exact World.ownsRow_nil _ _ _ _, HK.out⟩
        · have q2 : ((m.br : Int) != 0) = true := by simp; omega
          have HM := Lib.hid (putB_bad m (by rw [hmy]; exact decide_eq_false (fun e => z2 (by rw [e]; rfl))))
          clear hmy h2 z0 z1 z2
          go_wp2_with (fail)
          go_ret2
          exact ⟨_, by rw [HM.out]; rfl, by rw [HM.out]; exact World.ownsRow_nil _ _ _ _, HK.out⟩
      · have q1 : ((m.ro : Int) != 0) = true := by simp; omega
        have HM := Lib.hid (putB_bad m (by rw [hmy]; exact decide_eq_false (fun e => z1 (by rw [e]; rfl))))
        clear hmy h2 z0 z1
        go_wp2_with (fail)
        go_ret2
        exact ⟨_, by rw [HM.out]; rfl, by rw [HM.out]; exact World.ownsRow_nil _ _ _ _, HK.out⟩
    · have q0 : ((m.fl : Int) != 0) = true := by simp; omega
      have HM := Lib.hid (putB_bad m (by rw [hmy]; exact decide_eq_false (fun e => z0 (by rw [e]; rfl))))
      clear hmy h2 z0
      go_wp2_with (fail)
      go_ret2
      exact ⟨_, by rw [HM.out]; rfl, by rw [HM.out]; exact World.ownsRow_nil _ _ _ _, HK.out⟩
  · have b2 : (m.kd == 2) = false := by simp [h2]
    by_cases h13 : m.kd = 1 ∨ m.kd = 3
    · have hmy := may_13 m h13
      by_cases hag : m.ag < m.ma
      · have HM := Lib.hid (putB_good m (by rw [hmy, decide_eq_true hag]))
        have HB := Lib.hid (show ((UInt8.ofNat m.fl).toNat : Int) = (m.fl : Int) by have := HOK.out.fl; rw [UInt8.toNat_ofNat']; omega)
        have hia : ¬ (m.ma : Int) ≤ (m.ag : Int) := by omega
        rcases h13 with h1 | h1
        · have b1 : (m.kd != 1) = false := by simp [h1]
          have b3 : (m.kd == 3) = false := by simp [h1]
          rw [← HB.out] at c1
          clear h2 hmy hag
          go_upto_region 8 with (fail)
          refine wp_nameE (fun V => Blo V W.heap.size 5 (bys [0, 0, 0, 0, UInt8.ofNat m.fl]).toArray ∧ Kept Nil W V) ⟨Blo.new W _ _, (Kept.refl Nil W).alloc _⟩ ?_
          rintro V ⟨hb, hk⟩
          obtain ⟨gv, hgv⟩ : ∃ x, W.heap.size = x := ⟨_, rfl⟩
          have HGV := Lib.hid hgv
          rw [hgv] at hb ⊢
          have c0 := hk.cell c0 (fun hf => hf)
          clear c1 c2 c3 c4 c5 c6 c7 c8 c9 hia hgv
          have hmd : Made W V (.slice (some ⟨gv, 0, none⟩) 5 5) [0, 0, 0, 0, UInt8.ofNat m.fl] := by
            have := HGV.out
            subst this
            exact made_of (W := 5) rfl (by decide) hb hk
          clear hb hk
          go_upto_region 11 with (fail)
          clear c0
          have HMD := Lib.hid hmd
          clear hmd
          obtain ⟨L0, hL0⟩ : ∃ L, [0, 0, 0, 0, UInt8.ofNat m.fl] = L := ⟨_, rfl⟩
          have HL0 := Lib.hid hL0
          have HN0 := Lib.hid (show L0.length = 5 by rw [← hL0]; rfl)
          rw [hL0] at HMD
          clear hL0
          have c2 := (HP.out.kept HMD.out.2 (fun hf => hf)).c2
          have hbb := HOK.out.ro
          go_wp2_with (fail)
          refine (blay8 W (.slice (some ⟨gv, 0, none⟩) 5 5) L0 m.ro _ HMD.out (by have := HOK.out.ro; omega) (by have := HN0.out; omega)).mono ?_
          rintro e xw0 ⟨xv0, rfl, hmd⟩
          have HMD := Lib.hid hmd
          obtain ⟨L1, hL⟩ : ∃ L, L0 ++ beM 8 m.ro = L := ⟨_, rfl⟩
          have HL1 := Lib.hid hL
          have HN1 := Lib.hid (show L1.length = 13 by rw [← hL, List.length_append, HN0.out, beM_len])
          rw [hL] at HMD
          clear hmd hL c2 hbb
          dsimp only
          have c4 := (HP.out.kept HMD.out.2 (fun hf => hf)).c4
          have hbb := HOK.out.co
          go_wp2_with (fail)
          refine (blay4 W xv0 L1 m.co _ HMD.out (by have := HOK.out.co; omega) (by have := HN1.out; omega)).mono ?_
          rintro e xw1 ⟨xv1, rfl, hmd⟩
          have HMD := Lib.hid hmd
          obtain ⟨L2, hL⟩ : ∃ L, L1 ++ beM 4 m.co = L := ⟨_, rfl⟩
          have HL2 := Lib.hid hL
          have HN2 := Lib.hid (show L2.length = 17 by rw [← hL, List.length_append, HN1.out, beM_len])
          rw [hL] at HMD
          clear hmd hL c4 hbb
          dsimp only
          have c3 := (HP.out.kept HMD.out.2 (fun hf => hf)).c3
          have hbb := HOK.out.br
          go_wp2_with (fail)
          refine (blay8 W xv1 L2 m.br _ HMD.out (by have := HOK.out.br; omega) (by have := HN2.out; omega)).mono ?_
          rintro e xw2 ⟨xv2, rfl, hmd⟩
          have HMD := Lib.hid hmd
          obtain ⟨L3, hL⟩ : ∃ L, L2 ++ beM 8 m.br = L := ⟨_, rfl⟩
          have HL3 := Lib.hid hL
          have HN3 := Lib.hid (show L3.length = 25 by rw [← hL, List.length_append, HN2.out, beM_len])
          rw [hL] at HMD
          clear hmd hL c3 hbb
          dsimp only
          have c5 := (HP.out.kept HMD.out.2 (fun hf => hf)).c5
          have hbb := HOK.out.po
          go_wp2_with (fail)
          refine (blay2 W xv2 L3 m.po _ HMD.out (by have := HOK.out.po; omega) (by have := HN3.out; omega)).mono ?_
          rintro e xw3 ⟨xv3, rfl, hmd⟩
          have HMD := Lib.hid hmd
          obtain ⟨L4, hL⟩ : ∃ L, L3 ++ beM 2 m.po = L := ⟨_, rfl⟩
          have HL4 := Lib.hid hL
          have HN4 := Lib.hid (show L4.length = 27 by rw [← hL, List.length_append, HN3.out, beM_len])
          rw [hL] at HMD
          clear hmd hL c5 hbb
          dsimp only
          have c6 := (HP.out.kept HMD.out.2 (fun hf => hf)).c6
          have hbb := HOK.out.ag
          go_wp2_with (fail)
          refine (blay2 W xv3 L4 m.ag _ HMD.out (by have := HOK.out.ag; omega) (by have := HN4.out; omega)).mono ?_
          rintro e xw4 ⟨xv4, rfl, hmd⟩
          have HMD := Lib.hid hmd
          obtain ⟨L5, hL⟩ : ∃ L, L4 ++ beM 2 m.ag = L := ⟨_, rfl⟩
          have HL5 := Lib.hid hL
          have HN5 := Lib.hid (show L5.length = 29 by rw [← hL, List.length_append, HN4.out, beM_len])
          rw [hL] at HMD
          clear hmd hL c6 hbb
          dsimp only
          have c7 := (HP.out.kept HMD.out.2 (fun hf => hf)).c7
          have hbb := HOK.out.ma
          go_wp2_with (fail)
          refine (blay2 W xv4 L5 m.ma _ HMD.out (by have := HOK.out.ma; omega) (by have := HN5.out; omega)).mono ?_
          rintro e xw5 ⟨xv5, rfl, hmd⟩
          have HMD := Lib.hid hmd
          obtain ⟨L6, hL⟩ : ∃ L, L5 ++ beM 2 m.ma = L := ⟨_, rfl⟩
          have HL6 := Lib.hid hL
          have HN6 := Lib.hid (show L6.length = 31 by rw [← hL, List.length_append, HN5.out, beM_len])
          rw [hL] at HMD
          clear hmd hL c7 hbb
          dsimp only
          have c8 := (HP.out.kept HMD.out.2 (fun hf => hf)).c8
          have hbb := HOK.out.he
          go_wp2_with (fail)
          refine (blay2 W xv5 L6 m.he _ HMD.out (by have := HOK.out.he; omega) (by have := HN6.out; omega)).mono ?_
          rintro e xw6 ⟨xv6, rfl, hmd⟩
          have HMD := Lib.hid hmd
          obtain ⟨L7, hL⟩ : ∃ L, L6 ++ beM 2 m.he = L := ⟨_, rfl⟩
          have HL7 := Lib.hid hL
          have HN7 := Lib.hid (show L7.length = 33 by rw [← hL, List.length_append, HN6.out, beM_len])
          rw [hL] at HMD
          clear hmd hL c8 hbb
          dsimp only
          have c9 := (HP.out.kept HMD.out.2 (fun hf => hf)).c9
          have hbb := HOK.out.de
          go_wp2_with (fail)
          refine (blay2 W xv6 L7 m.de _ HMD.out (by have := HOK.out.de; omega) (by have := HN7.out; omega)).mono ?_
          rintro e xw7 ⟨xv7, rfl, hmd⟩
          have HMD := Lib.hid hmd
          obtain ⟨L8, hL⟩ : ∃ L, L7 ++ beM 2 m.de = L := ⟨_, rfl⟩
          have HL8 := Lib.hid hL
          have HN8 := Lib.hid (show L8.length = 35 by rw [← hL, List.length_append, HN7.out, beM_len])
          rw [hL] at HMD
          clear hmd hL c9 hbb
          dsimp only
          have c0 := (HP.out.kept HMD.out.2 (fun hf => hf)).c0
          have HEQ := Lib.hid (show L8 = forB m by
            rw [← HL8.out, ← HL7.out, ← HL6.out, ← HL5.out, ← HL4.out, ← HL3.out, ← HL2.out, ← HL1.out, ← HL0.out]
            simp [forB, fstB, fldB, endB, h1, beM1, beM40, beM4r])
          clear h1
          go_wp2
          go_ret2
          refine ⟨_, by rw [HM.out]; rfl, ?_⟩
          rw [HM.out]
          have hmd := HMD.out
          rw [HEQ.out] at hmd
          exact ⟨own_mono hmd.1 HK.out.size, HK.out.then hmd.2⟩
        · have b1 : (m.kd != 1) = true := by simp [h1]
          have b3 : (m.kd == 3) = true := by simp [h1]
          have b4 : (m.kd != 3) = false := by simp [h1]
          rw [← HB.out] at c1
          clear h2 hmy hag
          go_upto_region 8 with (fail)
          refine wp_nameE (fun V => Blo V W.heap.size 5 (bys [0, 0, 0, 0, UInt8.ofNat m.fl]).toArray ∧ Kept Nil W V) ⟨Blo.new W _ _, (Kept.refl Nil W).alloc _⟩ ?_
          rintro V ⟨hb, hk⟩
          obtain ⟨gv, hgv⟩ : ∃ x, W.heap.size = x := ⟨_, rfl⟩
          have HGV := Lib.hid hgv
          rw [hgv] at hb ⊢
          have c0 := hk.cell c0 (fun hf => hf)
          clear c1 c2 c3 c4 c5 c6 c7 c8 c9 hia hgv
          have HBV := Lib.hid hb
          clear hb
          go_upto_region 11 with (first
            | (refine wpList_st rfl 5 (.tmp 74) _ rfl gv 2 rfl [.int .u8 ((2 : UInt8).toNat : Int)] _ rfl rfl infU' 5 (bys [0, 0, 0, 0, UInt8.ofNat m.fl]) HBV.out (by rw [bys_len]; show 2 + 1 ≤ 5; decide) (bys_one [2]) ?_; intro V1 hb1 hk1 hz1; simp only [Act.put, List.setIfInBounds_toArray, List.set_cons_succ, List.set_cons_zero])
            | (refine wpList_st rfl 5 (.tmp 76) _ rfl gv 3 rfl [.int .u8 ((2 : UInt8).toNat : Int)] _ rfl rfl infU' 5 (bys [0, 0, 2, 0, UInt8.ofNat m.fl]) hb1 (by rw [bys_len]; show 3 + 1 ≤ 5; decide) (bys_one [2]) ?_; intro V2 hb2 hk2 hz2; simp only [Act.put, List.setIfInBounds_toArray, List.set_cons_succ, List.set_cons_zero])
            | fail)
          have hmd : Made W V2 (.slice (some ⟨gv, 0, none⟩) 5 5) [0, 0, 2, 2, UInt8.ofNat m.fl] := by
            have hk3 := (hk.fresh hk1 (fun i hi => by cases hi; exact Nat.le_of_eq HGV.out)).fresh hk2 (fun i hi => by cases hi; exact Nat.le_of_eq HGV.out)
            have := HGV.out
            subst this
            exact made_of (W := 5) rfl (by decide) hb2 hk3
          clear hb1 hk1 hz1 hb2 hk2 hz2 hk HBV c0
          have HMD := Lib.hid hmd
          clear hmd
          obtain ⟨L0, hL0⟩ : ∃ L, [0, 0, 2, 2, UInt8.ofNat m.fl] = L := ⟨_, rfl⟩
          have HL0 := Lib.hid hL0
          have HN0 := Lib.hid (show L0.length = 5 by rw [← hL0]; rfl)
          rw [hL0] at HMD
          clear hL0
          have c2 := (HP.out.kept HMD.out.2 (fun hf => hf)).c2
          have hbb := HOK.out.ro
          go_wp2_with (fail)
          refine (blay8 W (.slice (some ⟨gv, 0, none⟩) 5 5) L0 m.ro _ HMD.out (by have := HOK.out.ro; omega) (by have := HN0.out; omega)).mono ?_
          rintro e xw0 ⟨xv0, rfl, hmd⟩
          have HMD := Lib.hid hmd
          obtain ⟨L1, hL⟩ : ∃ L, L0 ++ beM 8 m.ro = L := ⟨_, rfl⟩
          have HL1 := Lib.hid hL
          have HN1 := Lib.hid (show L1.length = 13 by rw [← hL, List.length_append, HN0.out, beM_len])
          rw [hL] at HMD
          clear hmd hL c2 hbb
          dsimp only
          have c4 := (HP.out.kept HMD.out.2 (fun hf => hf)).c4
          have hbb := HOK.out.co
          go_wp2_with (fail)
          refine (blay4 W xv0 L1 m.co _ HMD.out (by have := HOK.out.co; omega) (by have := HN1.out; omega)).mono ?_
          rintro e xw1 ⟨xv1, rfl, hmd⟩
          have HMD := Lib.hid hmd
          obtain ⟨L2, hL⟩ : ∃ L, L1 ++ beM 4 m.co = L := ⟨_, rfl⟩
          have HL2 := Lib.hid hL
          have HN2 := Lib.hid (show L2.length = 17 by rw [← hL, List.length_append, HN1.out, beM_len])
          rw [hL] at HMD
          clear hmd hL c4 hbb
          dsimp only
          have c3 := (HP.out.kept HMD.out.2 (fun hf => hf)).c3
          have hbb := HOK.out.br
          go_wp2_with (fail)
          refine (blay8 W xv1 L2 m.br _ HMD.out (by have := HOK.out.br; omega) (by have := HN2.out; omega)).mono ?_
          rintro e xw2 ⟨xv2, rfl, hmd⟩
          have HMD := Lib.hid hmd
          obtain ⟨L3, hL⟩ : ∃ L, L2 ++ beM 8 m.br = L := ⟨_, rfl⟩
          have HL3 := Lib.hid hL
          have HN3 := Lib.hid (show L3.length = 25 by rw [← hL, List.length_append, HN2.out, beM_len])
          rw [hL] at HMD
          clear hmd hL c3 hbb
          dsimp only
          have c5 := (HP.out.kept HMD.out.2 (fun hf => hf)).c5
          have hbb := HOK.out.po
          go_wp2_with (fail)
          refine (blay2 W xv2 L3 m.po _ HMD.out (by have := HOK.out.po; omega) (by have := HN3.out; omega)).mono ?_
          rintro e xw3 ⟨xv3, rfl, hmd⟩
          have HMD := Lib.hid hmd
          obtain ⟨L4, hL⟩ : ∃ L, L3 ++ beM 2 m.po = L := ⟨_, rfl⟩
          have HL4 := Lib.hid hL
          have HN4 := Lib.hid (show L4.length = 27 by rw [← hL, List.length_append, HN3.out, beM_len])
          rw [hL] at HMD
          clear hmd hL c5 hbb
          dsimp only
          have c6 := (HP.out.kept HMD.out.2 (fun hf => hf)).c6
          have hbb := HOK.out.ag
          go_wp2_with (fail)
          refine (blay2 W xv3 L4 m.ag _ HMD.out (by have := HOK.out.ag; omega) (by have := HN4.out; omega)).mono ?_
          rintro e xw4 ⟨xv4, rfl, hmd⟩
          have HMD := Lib.hid hmd
          obtain ⟨L5, hL⟩ : ∃ L, L4 ++ beM 2 m.ag = L := ⟨_, rfl⟩
          have HL5 := Lib.hid hL
          have HN5 := Lib.hid (show L5.length = 29 by rw [← hL, List.length_append, HN4.out, beM_len])
          rw [hL] at HMD
          clear hmd hL c6 hbb
          dsimp only
          have c7 := (HP.out.kept HMD.out.2 (fun hf => hf)).c7
          have hbb := HOK.out.ma
          go_wp2_with (fail)
          refine (blay2 W xv4 L5 m.ma _ HMD.out (by have := HOK.out.ma; omega) (by have := HN5.out; omega)).mono ?_
          rintro e xw5 ⟨xv5, rfl, hmd⟩
          have HMD := Lib.hid hmd
          obtain ⟨L6, hL⟩ : ∃ L, L5 ++ beM 2 m.ma = L := ⟨_, rfl⟩
          have HL6 := Lib.hid hL
          have HN6 := Lib.hid (show L6.length = 31 by rw [← hL, List.length_append, HN5.out, beM_len])
          rw [hL] at HMD
          clear hmd hL c7 hbb
          dsimp only
          have c8 := (HP.out.kept HMD.out.2 (fun hf => hf)).c8
          have hbb := HOK.out.he
          go_wp2_with (fail)
          refine (blay2 W xv5 L6 m.he _ HMD.out (by have := HOK.out.he; omega) (by have := HN6.out; omega)).mono ?_
          rintro e xw6 ⟨xv6, rfl, hmd⟩
          have HMD := Lib.hid hmd
          obtain ⟨L7, hL⟩ : ∃ L, L6 ++ beM 2 m.he = L := ⟨_, rfl⟩
          have HL7 := Lib.hid hL
          have HN7 := Lib.hid (show L7.length = 33 by rw [← hL, List.length_append, HN6.out, beM_len])
          rw [hL] at HMD
          clear hmd hL c8 hbb
          dsimp only
          have c9 := (HP.out.kept HMD.out.2 (fun hf => hf)).c9
          have hbb := HOK.out.de
          go_wp2_with (fail)
          refine (blay2 W xv6 L7 m.de _ HMD.out (by have := HOK.out.de; omega) (by have := HN7.out; omega)).mono ?_
          rintro e xw7 ⟨xv7, rfl, hmd⟩
          have HMD := Lib.hid hmd
          obtain ⟨L8, hL⟩ : ∃ L, L7 ++ beM 2 m.de = L := ⟨_, rfl⟩
          have HL8 := Lib.hid hL
          have HN8 := Lib.hid (show L8.length = 35 by rw [← hL, List.length_append, HN7.out, beM_len])
          rw [hL] at HMD
          clear hmd hL c9 hbb
          dsimp only
          have c0 := (HP.out.kept HMD.out.2 (fun hf => hf)).c0
          obtain ⟨i0, hi, hz0, hz1, hz2⟩ := info_parts Try.infb
          have HY := Lib.hid (show Byt (xw7.alloc (.cells (bys [0]).toArray 5)) (some ⟨xw7.heap.size, 0, none⟩) 1 1 [0] from byt_lit xw7 [0] 5 (bys [0]).toArray rfl 1 rfl _ rfl (by decide))
          have hka := (Kept.refl Nil xw7).alloc (.cells (bys [0]).toArray 5)
          have HO := Lib.hid (own_kept HMD.out.1 hka (fun _ _ hf => hf))
          have HKA := Lib.hid hka
          have HSZ := Lib.hid (show W.heap.size ≤ (xw7.alloc (.cells (bys [0]).toArray 5)).heap.size from by have := HMD.out.2.size; simp; omega)
          clear hka
          go_upto_region 21 with (at_builtin; refine wpList_any rfl _ _ 31 rfl W.heap.size 5 i0 (.int .u8 0) Try.underlying31 hi hz0 hz1 hz2 rfl xv7 L8.length (bys L8) rfl HO.out (some ⟨xw7.heap.size, 0, none⟩) 1 1 [0] rfl HY.out (by have := HN8.out; omega) HSZ.out ?_; intro xv8 xw8 hown' hgrow hob; simp only [Act.put, List.setIfInBounds_toArray, List.set_cons_succ, List.set_cons_zero])
          have HMD := Lib.hid (made_appB HMD.out HKA.out hown' hgrow rfl rfl)
          clear hown' hgrow hob HO HY HKA HSZ c0 b1 b3 b4 b2
          have HEQ := Lib.hid (show L8 ++ [0] = forB m by
            rw [← HL8.out, ← HL7.out, ← HL6.out, ← HL5.out, ← HL4.out, ← HL3.out, ← HL2.out, ← HL1.out, ← HL0.out]
            simp [forB, fstB, fldB, endB, h1, beM1, beM40, beM4r])
          clear h1
          go_wp2
          go_ret2
          refine ⟨_, by rw [HM.out]; rfl, ?_⟩
          rw [HM.out]
          have hmd := HMD.out
          rw [HEQ.out] at hmd
          exact ⟨own_mono hmd.1 HK.out.size, HK.out.then hmd.2⟩
      · have HM := Lib.hid (putB_bad m (by rw [hmy, decide_eq_false hag]))
        have hia : (m.ma : Int) ≤ (m.ag : Int) := by omega
        rcases h13 with h1 | h1
        · have b1 : (m.kd != 1) = false := by simp [h1]
          clear h1 h2 hmy hag
          go_wp2_with (fail)
          go_ret2
          exact ⟨_, by rw [HM.out]; rfl, by rw [HM.out]; exact World.ownsRow_nil _ _ _ _, HK.out⟩
        · have b1 : (m.kd != 1) = true := by simp [h1]
          have b4 : (m.kd != 3) = false := by simp [h1]
          clear h1 h2 hmy hag
          go_wp2_with (fail)
          go_ret2
          exact ⟨_, by rw [HM.out]; rfl, by rw [HM.out]; exact World.ownsRow_nil _ _ _ _, HK.out⟩
    · have b1 : (m.kd != 1) = true := by simp; omega
      have b4 : (m.kd != 3) = true := by simp; omega
      have HM := Lib.hid (putB_bad m (may_no m (by omega) h2 (by omega)))
      clear h2 h13
      go_wp2_with (fail)
      go_ret2
      exact ⟨_, by rw [HM.out]; rfl, by rw [HM.out]; exact World.ownsRow_nil _ _ _ _, HK.out⟩
end Go.Proofs.Ytbkjobmjapbmpaa
