/- Package bpdu: Put. -/
import Derived.Test.YthjfeanmgaidcaaBpD
namespace Go.Proofs.Ythjfeanmgaidcaa
open Go.RowKit Go.Sort
set_option linter.unusedVariables false

/-- What Put answers. -/
def BytE (w : World) (e : Ending) (w' : World) (r : List UInt8 × Int) : Prop := ∃ v, e = .returned (.tuple #[v, .int .i64 r.2]) ∧ Made w w' v r.1
theorem forB_1 (m : Bp) (h : m.kd = 1) : forB m = [] ++ beM 4 0 ++ fldB m := by simp [forB, fstB, endB, h]
theorem forB_2 (m : Bp) (h : m.kd = 2) : forB m = [] ++ beM 4 128 := by simp [forB, fstB, h]
theorem forB_3 (m : Bp) (h : m.kd = 3) : forB m = [] ++ beM 4 514 ++ fldB m ++ [0] := by simp [forB, fstB, endB, h]
set_option maxRecDepth 100000 in
set_option maxHeartbeats 4000000 in
theorem bpput_yes (m : Bp) (hm : m.ok) (w : World) : Calls Try.prog 13 #[bpv m] w fun e w' => BytE w e w' (putB m) := by
  have hP := bp_box w 52 m
  have HOK := Lib.hid hm
  clear hm
  go_enter Try.func13, Try.ntmps13
  go_upto_region 1 with (fail)
  refine wp_nameE (fun W => BPB W w.heap.size 52 m ∧ Kept Nil w W) hP ?_
  clear hP
  rintro W ⟨hP, hk⟩
  obtain ⟨gm, hgm⟩ : ∃ x, w.heap.size = x := ⟨_, rfl⟩
  rw [hgm] at hP ⊢
  have HP := Lib.hid hP
  have HK := Lib.hid hk
  clear hP hk hgm
  go_wp2_with (first | (refine wpList_ld rfl _ _ rfl gm 0 rfl (bpl m) HP.out.all _ Try.underlying52 rfl (infBp m) ?_) | fail)
  refine (maybe_yes m _).mono ?_
  rintro e w1 ⟨rfl, hk1⟩
  have HP := Lib.hid (HP.out.kept hk1 (fun hf => hf))
  have HK := Lib.hid (HK.out.then hk1)
  clear hk1
  cases hmb : mayB m
  · have HM := Lib.hid (show putB m = ([], 1) by unfold putB; rw [hmb]; rfl)
    clear hmb
    go_wp2
    go_ret2
    refine ⟨_, by rw [HM.out]; rfl, ?_, HK.out⟩
    rw [HM.out]
    exact World.ownsRow_nil _ _ _ _
  · have HM := Lib.hid (show putB m = (forB m, 0) by unfold putB; rw [hmb]; rfl)
    have HMB := Lib.hid hmb
    clear hmb
    go_wp2_with (fail)
    refine (Lay_yes _).mono ?_
    rintro e w2 ⟨rfl, hp2, hk2⟩
    have HX := Lib.hid (HP.out.kept hk2 (fun hf => hf))
    have HK2 := Lib.hid (HK.out.then hk2)
    obtain ⟨g, hg⟩ : ∃ x, w1.heap.size = x := ⟨_, rfl⟩
    have hgw : w.heap.size ≤ g := by have := HK.out.size; omega
    have HGM := Lib.hid (show ¬ foot g (.slice none 0 0) gm from by
      have := HP.out.lt
      rintro (h | h)
      · omega
      · cases h)
    rw [hg] at hp2 ⊢
    have HGW := Lib.hid hgw
    have HPD := Lib.hid hp2
    have HZ := Lib.hid (show g ≤ w2.heap.size by have := hk2.size; omega)
    clear hp2 hk2 hg hgw HP HK
    have c0 := HX.out.c0
    have h123 : m.kd = 1 ∨ m.kd = 2 ∨ m.kd = 3 := by
      have := HMB.out
      unfold mayB at this
      split at this
      · omega
      · split at this
        · omega
        · cases this
    rcases h123 with h1 | h1 | h1
    · have b1 : (m.kd == 1) = true := by simp [h1]
      have HKP := Lib.hid (padI_keeps g g w2.heap.size (.slice none 0 0) (lsA [] (beM 4 0) (fldB m)))
      have HST := Lib.hid (padI_start (w := w2) (lsA [] (beM 4 0) (fldB m)) HPD.out rfl HZ.out)
      go_upto_region 6 with (fail)
      refine wp_region_acts (foot g (.slice none 0 0)) [2, 4] (fun i vl => (vl.toArray, if i = 1 then 22 else 5)) (fun i => undef) (padI g g w2.heap.size (.slice none 0 0) (lsA [] (beM 4 0) (fldB m))) (pvE g) 5 (by kernel_rfl) (by kernel_rfl) HKP.out HST.out ?_
      simp only [List.take_succ_cons, List.take_zero, List.drop_succ_cons, List.drop_zero]
      refine tLex_quiets 1 rfl (by kernel_rfl) ?_
      simp only [List.take_succ_cons, List.take_zero, List.drop_succ_cons, List.drop_zero]
      apply Exists.intro
      refine ⟨?hq1, ?hv1, ?ht1⟩
      case hq1 =>
        intro V hV
        clear hV
        repeat (go_big_quiet_step (fail))
        exact wpQuiet_nil rfl
      case hv1 => exact ⟨trivial, trivial⟩
      case ht1 =>
        refine tLex_make (#[.int .u32 0], 22) rfl rfl rfl rfl (fun u => ?hm1) ?_
        case hm1 => simp [execOp, mkVal, Instr.buildSlice, go_sem]
        intro q1 hg1 hL1
        simp only [Act.put, mkVal, List.setIfInBounds_toArray, List.set_cons_succ, List.set_cons_zero]
        refine tLex_act 25 #[.pointer (some ⟨g, 0, none⟩), .slice (some ⟨q1, 0, none⟩) 1 1] (fun u => ?he2) rfl rfl _ rfl ?hc2 ?_
        case he2 => simp [execOp, go_sem, mkVal]
        case hc2 =>
          intro D u hu hI hdd
          obtain ⟨d1, d2⟩ := hdd _ _ ⟨_, List.mem_cons_of_mem _ (List.mem_cons_of_mem _ (List.mem_cons_self ..)), rfl⟩ (mput_same _ _ _)
          exact padI_four (n := 1) [0] hu hI d1 d2 rfl rfl (by show _ = _ ++ _; rw [beAll1]; rfl) (by simp [lsA, lsT]) (by simp) 
        rintro r2 hr2
        have hr2 : r2 = .pointer (some ⟨g, 0, none⟩) := hr2
        subst hr2
        simp only [Act.put, List.setIfInBounds_toArray, List.set_cons_succ, List.set_cons_zero]
        refine tLex_quiets 1 rfl (by kernel_rfl) ?_
        simp only [List.take_succ_cons, List.take_zero, List.drop_succ_cons, List.drop_zero]
        apply Exists.intro
        refine ⟨?hq2, ?hv2, ?ht2⟩
        case hq2 =>
          intro V hV
          refine wpQuiet_ld rfl _ _ rfl gm 0 rfl (bpl m) (fun w' hw => row_grown (Row.kept HX.out.all hV HGM.out) hw) _ Try.underlying52 rfl (infBp m) ?_
          simp only [Act.put, List.setIfInBounds_toArray, List.set_cons_succ, List.set_cons_zero]
          exact wpQuiet_nil rfl
        case hv2 => exact ⟨trivial, trivial⟩
        case ht2 =>
          refine tLex_act 39 #[.pointer (some ⟨g, 0, none⟩), bpv m] (fun u => ?he3) rfl rfl _ rfl ?hc3 ?_
          case he3 => simp [execOp, go_sem, mkVal, bpv]
          case hc3 =>
            intro D u hu hI hdd
            exact padI_of (fldB m) (.pointer (some ⟨g, 0, none⟩)) hu hI rfl (fun v2 hp2 hB2 => layf_yes g g v2 _ m HOK.out u hp2 hB2 (by simp [lsA, lsT, beM_len]))
          rintro r3 hr3
          have hr3 : r3 = .pointer (some ⟨g, 0, none⟩) := hr3
          subst hr3
          simp only [Act.put, List.setIfInBounds_toArray, List.set_cons_succ, List.set_cons_zero]
          intro w3 hs
          obtain ⟨v3, hp3, _, hn3, _, _⟩ := hs.know
          have hk3 : Kept (foot g (.slice none 0 0)) w2 w3 := hs.kept
          clear hs HKP HST
          have HPE := Lib.hid (show Padd w3 g g v3 (forB m) from by rw [forB_1 m h1]; exact hp3)
          have HKE := Lib.hid hk3
          clear hp3 hk3 hn3 HPD HX HGM c0 h1
          try simp only [List.setIfInBounds_toArray, List.set_cons_succ, List.set_cons_zero]
          go_wp2_with (fail)
          refine (Done_yes _ _ _ _ _ HPE.out (by have := forB_le m; omega)).mono ?_
          rintro e w4 ⟨v4, rfl, hmd⟩
          have HMD := Lib.hid hmd
          clear hmd HPE
          go_wp2
          go_ret2
          refine ⟨_, by rw [HM.out]; rfl, ?_, ?_⟩
          · rw [HM.out]
            exact own_mono HMD.out.1 (Nat.le_trans HK2.out.size HKE.out.size)
          · exact (HK2.out.fresh HKE.out (fun i hi => by
              rcases hi with rfl | hi
              · exact HGW.out
              · cases hi)).then HMD.out.2
    · have b1 : (m.kd == 1) = false := by simp [h1]
      have b2 : (m.kd == 2) = true := by simp [h1]
      go_upto_region 8 with (fail)
      go_wp2_with (fail)
      refine (PFour_lit g g _ [] [128] w2 22 HPD.out HZ.out (by simp) (by simp)).mono ?_
      rintro e w3 ⟨v3, rfl, hp3, hk3, hn3⟩
      rw [beAll1] at hp3
      have HPE := Lib.hid (show Padd w3 g g v3 (forB m) from by rw [forB_2 m h1]; exact hp3)
      have HKE := Lib.hid hk3
      clear hp3 hk3 hn3 HPD HX HGM c0 h1
      try simp only [List.setIfInBounds_toArray, List.set_cons_succ, List.set_cons_zero]
      go_wp2_with (fail)
      refine (Done_yes _ _ _ _ _ HPE.out (by have := forB_le m; omega)).mono ?_
      rintro e w4 ⟨v4, rfl, hmd⟩
      have HMD := Lib.hid hmd
      clear hmd HPE
      go_wp2
      go_ret2
      refine ⟨_, by rw [HM.out]; rfl, ?_, ?_⟩
      · rw [HM.out]
        exact own_mono HMD.out.1 (Nat.le_trans HK2.out.size HKE.out.size)
      · exact (HK2.out.fresh HKE.out (fun i hi => by
          rcases hi with rfl | hi
          · exact HGW.out
          · cases hi)).then HMD.out.2
    · have b1 : (m.kd == 1) = false := by simp [h1]
      have b2 : (m.kd == 2) = false := by simp [h1]
      have b3 : (m.kd == 3) = true := by simp [h1]
      have HKP := Lib.hid (padI_keeps g g w2.heap.size (.slice none 0 0) (lsT [] (beM 4 514) (fldB m) [0]))
      have HST := Lib.hid (padI_start (w := w2) (lsT [] (beM 4 514) (fldB m) [0]) HPD.out rfl HZ.out)
      go_upto_region 10 with (fail)
      refine wp_region_acts (foot g (.slice none 0 0)) [2, 4, 6] (fun i vl => (vl.toArray, if i = 1 then 22 else 5)) (fun i => undef) (padI g g w2.heap.size (.slice none 0 0) (lsT [] (beM 4 514) (fldB m) [0])) (pvE g) 7 (by kernel_rfl) (by kernel_rfl) HKP.out HST.out ?_
      simp only [List.take_succ_cons, List.take_zero, List.drop_succ_cons, List.drop_zero]
      refine tLex_quiets 1 rfl (by kernel_rfl) ?_
      simp only [List.take_succ_cons, List.take_zero, List.drop_succ_cons, List.drop_zero]
      apply Exists.intro
      refine ⟨?hq3, ?hv3, ?ht3⟩
      case hq3 =>
        intro V hV
        clear hV
        repeat (go_big_quiet_step (fail))
        exact wpQuiet_nil rfl
      case hv3 => exact ⟨trivial, trivial⟩
      case ht3 =>
        refine tLex_make (#[.int .u32 514], 22) rfl rfl rfl rfl (fun u => ?hm1) ?_
        case hm1 => simp [execOp, mkVal, Instr.buildSlice, go_sem]
        intro q1 hg1 hL1
        simp only [Act.put, mkVal, List.setIfInBounds_toArray, List.set_cons_succ, List.set_cons_zero]
        refine tLex_act 25 #[.pointer (some ⟨g, 0, none⟩), .slice (some ⟨q1, 0, none⟩) 1 1] (fun u => ?he2) rfl rfl _ rfl ?hc2 ?_
        case he2 => simp [execOp, go_sem, mkVal]
        case hc2 =>
          intro D u hu hI hdd
          obtain ⟨d1, d2⟩ := hdd _ _ ⟨_, List.mem_cons_of_mem _ (List.mem_cons_of_mem _ (List.mem_cons_self ..)), rfl⟩ (mput_same _ _ _)
          exact padI_four (n := 1) [514] hu hI d1 d2 rfl rfl (by show _ = _ ++ _; rw [beAll1]; rfl) (by simp [lsA, lsT]) (by simp) 
        rintro r2 hr2
        have hr2 : r2 = .pointer (some ⟨g, 0, none⟩) := hr2
        subst hr2
        simp only [Act.put, List.setIfInBounds_toArray, List.set_cons_succ, List.set_cons_zero]
        refine tLex_quiets 1 rfl (by kernel_rfl) ?_
        simp only [List.take_succ_cons, List.take_zero, List.drop_succ_cons, List.drop_zero]
        apply Exists.intro
        refine ⟨?hq4, ?hv4, ?ht4⟩
        case hq4 =>
          intro V hV
          refine wpQuiet_ld rfl _ _ rfl gm 0 rfl (bpl m) (fun w' hw => row_grown (Row.kept HX.out.all hV HGM.out) hw) _ Try.underlying52 rfl (infBp m) ?_
          simp only [Act.put, List.setIfInBounds_toArray, List.set_cons_succ, List.set_cons_zero]
          exact wpQuiet_nil rfl
        case hv4 => exact ⟨trivial, trivial⟩
        case ht4 =>
          refine tLex_act 39 #[.pointer (some ⟨g, 0, none⟩), bpv m] (fun u => ?he3) rfl rfl _ rfl ?hc3 ?_
          case he3 => simp [execOp, go_sem, mkVal, bpv]
          case hc3 =>
            intro D u hu hI hdd
            exact padI_of (fldB m) (.pointer (some ⟨g, 0, none⟩)) hu hI rfl (fun v2 hp2 hB2 => layf_yes g g v2 _ m HOK.out u hp2 hB2 (by simp [lsA, lsT, beM_len]))
          rintro r3 hr3
          have hr3 : r3 = .pointer (some ⟨g, 0, none⟩) := hr3
          subst hr3
          simp only [Act.put, List.setIfInBounds_toArray, List.set_cons_succ, List.set_cons_zero]
          refine tLex_make (#[.int .u8 0], 5) rfl rfl rfl rfl (fun u => ?hm4) ?_
          case hm4 => simp [execOp, mkVal, Instr.buildSlice, go_sem]
          intro q4 hg4 hL4
          simp only [Act.put, mkVal, List.setIfInBounds_toArray, List.set_cons_succ, List.set_cons_zero]
          refine tLex_act 24 #[.pointer (some ⟨g, 0, none⟩), .slice (some ⟨q4, 0, none⟩) 1 1] (fun u => ?he5) rfl rfl _ rfl ?hc5 ?_
          case he5 => simp [execOp, go_sem, mkVal]
          case hc5 =>
            intro D u hu hI hdd
            obtain ⟨d1, d2⟩ := hdd _ _ ⟨_, List.mem_cons_of_mem _ (List.mem_cons_of_mem _ (List.mem_cons_self ..)), rfl⟩ (mput_same _ _ _)
            exact padI_byte (n := 1) [0] hu hI d1 d2 rfl rfl (by show _ = _ ++ _; rw [beAll1]; rfl) (by simp [lsT, beM_len, fldB_len]) (by simp)
          rintro r5 hr5
          have hr5 : r5 = .pointer (some ⟨g, 0, none⟩) := hr5
          subst hr5
          simp only [Act.put, List.setIfInBounds_toArray, List.set_cons_succ, List.set_cons_zero]
          intro w3 hs
          obtain ⟨v3, hp3, _, hn3, _, _⟩ := hs.know
          have hk3 : Kept (foot g (.slice none 0 0)) w2 w3 := hs.kept
          clear hs HKP HST
          have HPE := Lib.hid (show Padd w3 g g v3 (forB m) from by rw [forB_3 m h1]; exact hp3)
          have HKE := Lib.hid hk3
          clear hp3 hk3 hn3 HPD HX HGM c0 h1
          try simp only [List.setIfInBounds_toArray, List.set_cons_succ, List.set_cons_zero]
          go_wp2_with (fail)
          refine (Done_yes _ _ _ _ _ HPE.out (by have := forB_le m; omega)).mono ?_
          rintro e w4 ⟨v4, rfl, hmd⟩
          have HMD := Lib.hid hmd
          clear hmd HPE
          go_wp2
          go_ret2
          refine ⟨_, by rw [HM.out]; rfl, ?_, ?_⟩
          · rw [HM.out]
            exact own_mono HMD.out.1 (Nat.le_trans HK2.out.size HKE.out.size)
          · exact (HK2.out.fresh HKE.out (fun i hi => by
              rcases hi with rfl | hi
              · exact HGW.out
              · cases hi)).then HMD.out.2
end Go.Proofs.Ythjfeanmgaidcaa
