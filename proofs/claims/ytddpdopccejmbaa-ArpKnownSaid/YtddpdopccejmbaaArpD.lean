/- Package arp: contract of Bytes. -/
import Derived.Test.YtddpdopccejmbaaArpC
import Derived.Test.YtddpdopccejmbaaRegJ
namespace Go.Proofs.Ytddpdopccejmbaa
open Go.RowKit Go.Sort
set_option linter.unusedVariables false

def formP (p : Pk) : List UInt8 := headL ++ beAll 2 [p.o] ++ p.f ++ beAll 4 [p.x] ++ p.t ++ beAll 4 [p.y]
def bytesP (p : Pk) : List UInt8 := if mayP p = true then formP p else []
theorem formP_len {p : Pk} (h : p.ok) : (formP p).length = 28 := by
  simp only [formP, List.length_append, beAll_len, h.f, h.t, headL, List.length_cons, List.length_nil]
/-- What the pad holds, act by act. -/
def lsP (p : Pk) (i : Nat) : List UInt8 :=
  if i ≤ 1 then [] else if i = 2 then headL else if i = 3 then headL ++ beAll 2 [p.o] else if i = 4 then headL ++ beAll 2 [p.o] ++ p.f else if i = 5 then headL ++ beAll 2 [p.o] ++ p.f ++ beAll 4 [p.x]
  else if i = 6 then headL ++ beAll 2 [p.o] ++ p.f ++ beAll 4 [p.x] ++ p.t else formP p
theorem lsP_len {p : Pk} (h : p.ok) (i : Nat) : (lsP p i).length ≤ 28 := by
  have hf := formP_len h
  unfold lsP
  split
  · simp
  · split
    · simp [headL]
    · split
      · simp [headL, beAll_len]
      · split
        · simp [headL, beAll_len, h.f]
        · split
          · simp [headL, beAll_len, h.f]
          · split
            · simp [headL, beAll_len, h.f, h.t]
            · omega
theorem infEl16 : (Try.prog.info? 45).map (·.size) = some 1 := by kernel_rfl
set_option maxRecDepth 100000 in
set_option maxHeartbeats 4000000 in
theorem pbytes_yes (p : Pk) (hp : p.ok) (w : World) : Calls Try.prog 24 #[pkv p] w fun e w' => ∃ v, e = .returned v ∧ Made w w' v (bytesP p) := by
  have hP := PB.new w 49 p
  have hk := (Kept.refl Nil w).alloc (.cells (pcs p).toArray 49)
  go_enter Try.func24, Try.ntmps24
  go_upto_region 1 with (fail)
  refine wp_nameE (fun W => PB W w.heap.size 49 p ∧ Kept Nil w W) ⟨hP, hk⟩ ?_
  clear hP hk
  rintro W ⟨hP, hk⟩
  have HK := Lib.hid hk
  have HP := Lib.hid hP
  clear hP hk
  go_wp2_with (first | (refine wpList_ld rfl _ _ rfl w.heap.size 0 rfl (pcs p) HP.out.all _ Try.underlying49 rfl (infP p hp) ?_) | fail)
  refine (pmay_yes p hp _).mono ?_
  rintro e w1 ⟨rfl, hk1⟩
  have HP1 := Lib.hid (HP.out.kept hk1 (fun hf => hf))
  have HK1 := Lib.hid (HK.out.then hk1)
  clear hk1 HP HK
  cases hm : mayP p
  · have HM := Lib.hid (show bytesP p = [] by unfold bytesP; rw [hm]; rfl)
    clear hm
    go_wp2
    go_ret
    refine ⟨_, rfl, ?_, HK1.out⟩
    rw [HM.out]
    exact World.ownsRow_nil _ _ _ _
  · have HM := Lib.hid (show bytesP p = formP p by unfold bytesP; rw [hm]; rfl)
    clear hm
    go_wp2_with (fail)
    refine (ahead_yes _).mono ?_
    rintro e w2 ⟨rfl, hk2⟩
    have HN2 := Lib.hid (Blo.new w2 22 (bys o6).toArray)
    go_wp2_with (first | (refine wpList_st rfl _ (.tmp 3) _ rfl _ 0 rfl (bys headL) _ rfl rfl (infN headL rfl) 22 (bys o6) HN2.out (by decide) (bys_one _) ?_; intro w3 hb3 hk3 hz3) | fail)
    have hk23 := ((Kept.refl Nil w2).alloc (.cells (bys o6).toArray 22)).fresh hk3 (fun i hi => by cases hi; exact Nat.le_refl _)
    have HP3 := Lib.hid ((HP1.out.kept hk2 (fun hf => hf)).kept hk23 (fun hf => hf))
    have HK3 := Lib.hid ((HK1.out.then hk2).then hk23)
    have HB3 := Lib.hid (byt_row (l := headL) (Blo.row [] (bys headL) [] (by simpa using blo_six hb3 rfl)) (by decide) 6 rfl)
    obtain ⟨gm, hgm⟩ : ∃ gm, w2.heap.size = gm := ⟨_, rfl⟩
    rw [hgm] at HB3 ⊢
    clear hb3 hk3 hz3 hk23 hk2 HN2 HP1 HK1 hgm
    have HKP := Lib.hid (padJ_keeps w3.heap.size (lsP p))
    have HST := Lib.hid (padJ_nil w3 (lsP p))
    have HOK := Lib.hid hp
    have HLE := Lib.hid (lsP_len hp)
    obtain ⟨d0, d1, d2, d3, d4, d5, hd⟩ := six_of p.f hp.f
    obtain ⟨e0, e1, e2, e3, e4, e5, he⟩ := six_of p.t hp.t
    have hrf := HP3.out.rf
    have hrt := HP3.out.rt hp
    rw [hd] at hrf
    rw [he] at hrt
    have HRF := Lib.hid hrf
    have HRT := Lib.hid hrt
    have HD := Lib.hid hd
    have HE := Lib.hid he
    clear hp hrf hrt hd he
    refine wp_region_acts Nil [0, 2, 6, 10, 14, 18, 22] (fun i vl => if i = 5 then (vl.toArray, 45) else if i = 9 then (#[.int .u8 (d0.toNat : Int), .int .u8 (d1.toNat : Int), .int .u8 (d2.toNat : Int), .int .u8 (d3.toNat : Int), .int .u8 (d4.toNat : Int), .int .u8 (d5.toNat : Int)], 23) else if i = 17 then (#[.int .u8 (e0.toNat : Int), .int .u8 (e1.toNat : Int), .int .u8 (e2.toNat : Int), .int .u8 (e3.toNat : Int), .int .u8 (e4.toNat : Int), .int .u8 (e5.toNat : Int)], 23) else (vl.toArray, 46)) (fun i => undef) (padJ w3.heap.size (lsP p)) padP 23 (by kernel_rfl) (by kernel_rfl) HKP.out HST.out ?_
    simp only [List.take_succ_cons, List.take_zero, List.drop_succ_cons, List.drop_zero]
    refine tLex_act 50 #[] (fun u => ?hea) rfl rfl _ (padP_0 _) ?hca ?_
    case hea => simp [execOp, go_sem]
    case hca =>
      intro D u hu hI hdd
      exact padJ_lay hu hI rfl _
    rintro r0 ⟨g, rfl⟩
    simp only [Act.put, List.setIfInBounds_toArray, List.set_cons_succ, List.set_cons_zero]
    refine tLex_quiets 1 rfl (by kernel_rfl) ?_
    simp only [List.take_succ_cons, List.take_zero, List.drop_succ_cons, List.drop_zero]
    apply Exists.intro
    refine ⟨?hq1, ?hv1, ?ht1⟩
    case hq1 =>
      intro V hV
      clear hV
      repeat (go_big_quiet_step (fail))
      exact wpQuiet_nil rfl
    case hv1 => exact ⟨trivial, trivial⟩
    case ht1 =>
      refine tLex_act 51 #[.pointer (some ⟨g, 0, none⟩), .slice (some ⟨gm, 0, none⟩) 6 6] (fun u => ?heb) rfl rfl _ (padP_0 _) ?hcb ?_
      case heb => simp [execOp, go_sem]
      case hcb =>
        intro D u hu hI hdd
        exact padJ_src headL hu hI (by simp) HB3.out rfl (by have := HLE.out 1; show (lsP p 1).length + 6 ≤ _; omega) _
      rintro r1 ⟨g1, rfl⟩
      simp only [Act.put, List.setIfInBounds_toArray, List.set_cons_succ, List.set_cons_zero]
      refine tLex_quiets 2 rfl (by kernel_rfl) ?_
      simp only [List.take_succ_cons, List.take_zero, List.drop_succ_cons, List.drop_zero]
      apply Exists.intro
      refine ⟨?hq3, ?hv3, ?ht3⟩
      case hq3 =>
        intro V hV
        have e9 := fun d os => ((HP3.out.kept hV (fun hf => hf)).kept (kept_grown' V d os) (fun hf => hf)).co
        clear hV
        repeat (go_big_quiet_step (fail))
        exact wpQuiet_nil rfl
      case hv3 => exact ⟨trivial, trivial, trivial⟩
      case ht3 =>
        refine tLex_make (#[.int .u16 (p.o : Int)], 45) rfl rfl rfl rfl (fun u => ?hm3) ?_
        case hm3 => simp [execOp, mkVal, Instr.buildSlice, go_sem]
        intro q3 hg hL
        simp only [Act.put, mkVal, List.setIfInBounds_toArray, List.set_cons_succ, List.set_cons_zero]
        refine tLex_act 52 #[.pointer (some ⟨g1, 0, none⟩), .slice (some ⟨q3, 0, none⟩) 1 1] (fun u => ?he3) rfl rfl _ (padP_0 _) ?hc3 ?_
        case he3 => simp [execOp, go_sem, mkVal]
        case hc3 =>
          intro D u hu hI hdd
          obtain ⟨d1, d2⟩ := hdd _ _ ⟨_, List.mem_cons_of_mem _ (List.mem_cons_of_mem _ (List.mem_cons_self ..)), rfl⟩ (mput_same _ _ _)
          exact padJ_two (n := 1) [p.o] hu hI (by simp) d1 d2 rfl rfl rfl (by have := HLE.out 2; show (lsP p 2).length + _ ≤ _; simp; omega) (by have := HOK.out.o; simp; omega) _
        rintro r2 ⟨g2, rfl⟩
        simp only [Act.put, List.setIfInBounds_toArray, List.set_cons_succ, List.set_cons_zero]
        refine tLex_quiets 2 rfl (by kernel_rfl) ?_
        simp only [List.take_succ_cons, List.take_zero, List.drop_succ_cons, List.drop_zero]
        apply Exists.intro
        refine ⟨?hq4, ?hv4, ?ht4⟩
        case hq4 =>
          intro V hV
          go_big_quiet_step (fail)
          refine wpQuiet_ld rfl _ _ rfl w.heap.size 1 rfl [.int .u8 (d0.toNat : Int), .int .u8 (d1.toNat : Int), .int .u8 (d2.toNat : Int), .int .u8 (d3.toNat : Int), .int .u8 (d4.toNat : Int), .int .u8 (d5.toNat : Int)] (fun w' hw => row_grown (Row.kept HRF.out hV (fun hf => hf)) hw) _ Try.underlying23 rfl infA6 ?_
          simp only [Act.put, List.setIfInBounds_toArray, List.set_cons_succ, List.set_cons_zero]
          exact wpQuiet_nil rfl
        case hv4 => exact ⟨trivial, trivial, trivial⟩
        case ht4 =>
          refine tLex_make (#[.int .u8 (d0.toNat : Int), .int .u8 (d1.toNat : Int), .int .u8 (d2.toNat : Int), .int .u8 (d3.toNat : Int), .int .u8 (d4.toNat : Int), .int .u8 (d5.toNat : Int)], 23) rfl rfl rfl rfl (fun u => ?hm4) ?_
          case hm4 => simp [execOp, mkVal, Instr.buildSlice, go_sem]
          intro q4 hg hL
          simp only [Act.put, mkVal, List.setIfInBounds_toArray, List.set_cons_succ, List.set_cons_zero]
          refine tLex_act 53 #[.pointer (some ⟨g2, 0, none⟩), .slice (some ⟨q4, 0, none⟩) 1 1] (fun u => ?he4) rfl rfl _ (padP_0 _) ?hc4 ?_
          case he4 => simp [execOp, go_sem, mkVal]
          case hc4 =>
            intro D u hu hI hdd
            obtain ⟨d1, d2⟩ := hdd _ _ ⟨_, List.mem_cons_of_mem _ (List.mem_cons_of_mem _ (List.mem_cons_self ..)), rfl⟩ (mput_same _ _ _)
            exact padJ_mac p.f HOK.out.f hu hI (by simp) d1 d2 (by rw [HD.out]; rfl) rfl (by have := HLE.out 3; show (lsP p 3).length + _ ≤ _; omega) _
          rintro r3 ⟨g3, rfl⟩
          simp only [Act.put, List.setIfInBounds_toArray, List.set_cons_succ, List.set_cons_zero]
          refine tLex_quiets 2 rfl (by kernel_rfl) ?_
          simp only [List.take_succ_cons, List.take_zero, List.drop_succ_cons, List.drop_zero]
          apply Exists.intro
          refine ⟨?hq5, ?hv5, ?ht5⟩
          case hq5 =>
            intro V hV
            have e9 := fun d os => ((HP3.out.kept hV (fun hf => hf)).kept (kept_grown' V d os) (fun hf => hf)).cx HOK.out
            clear hV
            repeat (go_big_quiet_step (fail))
            exact wpQuiet_nil rfl
          case hv5 => exact ⟨trivial, trivial, trivial⟩
          case ht5 =>
            refine tLex_make (#[.int .u32 (p.x : Int)], 46) rfl rfl rfl rfl (fun u => ?hm5) ?_
            case hm5 => simp [execOp, mkVal, Instr.buildSlice, go_sem]
            intro q5 hg hL
            simp only [Act.put, mkVal, List.setIfInBounds_toArray, List.set_cons_succ, List.set_cons_zero]
            refine tLex_act 54 #[.pointer (some ⟨g3, 0, none⟩), .slice (some ⟨q5, 0, none⟩) 1 1] (fun u => ?he5) rfl rfl _ (padP_0 _) ?hc5 ?_
            case he5 => simp [execOp, go_sem, mkVal]
            case hc5 =>
              intro D u hu hI hdd
              obtain ⟨d1, d2⟩ := hdd _ _ ⟨_, List.mem_cons_of_mem _ (List.mem_cons_of_mem _ (List.mem_cons_self ..)), rfl⟩ (mput_same _ _ _)
              exact padJ_four (n := 1) [p.x] hu hI (by simp) d1 d2 rfl rfl rfl (by have := HLE.out 4; show (lsP p 4).length + _ ≤ _; simp; omega) (by have := HOK.out.x; simp; omega) _
            rintro r4 ⟨g4, rfl⟩
            simp only [Act.put, List.setIfInBounds_toArray, List.set_cons_succ, List.set_cons_zero]
            refine tLex_quiets 2 rfl (by kernel_rfl) ?_
            simp only [List.take_succ_cons, List.take_zero, List.drop_succ_cons, List.drop_zero]
            apply Exists.intro
            refine ⟨?hq6, ?hv6, ?ht6⟩
            case hq6 =>
              intro V hV
              go_big_quiet_step (fail)
              refine wpQuiet_ld rfl _ _ rfl w.heap.size 8 rfl [.int .u8 (e0.toNat : Int), .int .u8 (e1.toNat : Int), .int .u8 (e2.toNat : Int), .int .u8 (e3.toNat : Int), .int .u8 (e4.toNat : Int), .int .u8 (e5.toNat : Int)] (fun w' hw => row_grown (Row.kept HRT.out hV (fun hf => hf)) hw) _ Try.underlying23 rfl infA6 ?_
              simp only [Act.put, List.setIfInBounds_toArray, List.set_cons_succ, List.set_cons_zero]
              exact wpQuiet_nil rfl
            case hv6 => exact ⟨trivial, trivial, trivial⟩
            case ht6 =>
              refine tLex_make (#[.int .u8 (e0.toNat : Int), .int .u8 (e1.toNat : Int), .int .u8 (e2.toNat : Int), .int .u8 (e3.toNat : Int), .int .u8 (e4.toNat : Int), .int .u8 (e5.toNat : Int)], 23) rfl rfl rfl rfl (fun u => ?hm6) ?_
              case hm6 => simp [execOp, mkVal, Instr.buildSlice, go_sem]
              intro q6 hg hL
              simp only [Act.put, mkVal, List.setIfInBounds_toArray, List.set_cons_succ, List.set_cons_zero]
              refine tLex_act 53 #[.pointer (some ⟨g4, 0, none⟩), .slice (some ⟨q6, 0, none⟩) 1 1] (fun u => ?he6) rfl rfl _ (padP_0 _) ?hc6 ?_
              case he6 => simp [execOp, go_sem, mkVal]
              case hc6 =>
                intro D u hu hI hdd
                obtain ⟨d1, d2⟩ := hdd _ _ ⟨_, List.mem_cons_of_mem _ (List.mem_cons_of_mem _ (List.mem_cons_self ..)), rfl⟩ (mput_same _ _ _)
                exact padJ_mac p.t HOK.out.t hu hI (by simp) d1 d2 (by rw [HE.out]; rfl) rfl (by have := HLE.out 5; show (lsP p 5).length + _ ≤ _; omega) _
              rintro r5 ⟨g5, rfl⟩
              simp only [Act.put, List.setIfInBounds_toArray, List.set_cons_succ, List.set_cons_zero]
              refine tLex_quiets 2 rfl (by kernel_rfl) ?_
              simp only [List.take_succ_cons, List.take_zero, List.drop_succ_cons, List.drop_zero]
              apply Exists.intro
              refine ⟨?hq7, ?hv7, ?ht7⟩
              case hq7 =>
                intro V hV
                have e9 := fun d os => ((HP3.out.kept hV (fun hf => hf)).kept (kept_grown' V d os) (fun hf => hf)).cy HOK.out
                clear hV
                repeat (go_big_quiet_step (fail))
                exact wpQuiet_nil rfl
              case hv7 => exact ⟨trivial, trivial, trivial⟩
              case ht7 =>
                refine tLex_make (#[.int .u32 (p.y : Int)], 46) rfl rfl rfl rfl (fun u => ?hm7) ?_
                case hm7 => simp [execOp, mkVal, Instr.buildSlice, go_sem]
                intro q7 hg hL
                simp only [Act.put, mkVal, List.setIfInBounds_toArray, List.set_cons_succ, List.set_cons_zero]
                refine tLex_act 54 #[.pointer (some ⟨g5, 0, none⟩), .slice (some ⟨q7, 0, none⟩) 1 1] (fun u => ?he7) rfl rfl _ (padP_0 _) ?hc7 ?_
                case he7 => simp [execOp, go_sem, mkVal]
                case hc7 =>
                  intro D u hu hI hdd
                  obtain ⟨d1, d2⟩ := hdd _ _ ⟨_, List.mem_cons_of_mem _ (List.mem_cons_of_mem _ (List.mem_cons_self ..)), rfl⟩ (mput_same _ _ _)
                  exact padJ_four (n := 1) [p.y] hu hI (by simp) d1 d2 rfl rfl rfl (by have := HLE.out 6; show (lsP p 6).length + _ ≤ _; simp; omega) (by have := HOK.out.y; simp; omega) _
                rintro r6 ⟨g6, rfl⟩
                simp only [Act.put, List.setIfInBounds_toArray, List.set_cons_succ, List.set_cons_zero]
                intro w4 hs
                obtain ⟨_, _, h3⟩ := hs.know
                rcases h3 with h3 | ⟨g7, v7, hall, hpd, _⟩
                · cases h3
                · have hg7 := hall (.pointer (some ⟨g6, 0, none⟩)) (by simp)
                  injection hg7 with hg7
                  injection hg7 with hg7
                  injection hg7 with hg7 _ _
                  subst hg7
                  have HPD := Lib.hid (show Padd w4 w3.heap.size g6 v7 (formP p) from hpd)
                  have HK4 := Lib.hid (HK3.out.then hs.kept)
                  have HW := Lib.hid (show w.heap.size ≤ w4.heap.size from HK4.out.size)
                  clear hall hpd hs HP3 HB3 HKP HST HLE HRF HRT HD HE
                  go_wp2_with fail
                  refine (Done_yes _ _ _ _ _ HPD.out (by rw [formP_len HOK.out]; decide)).mono ?_
                  rintro e w5 ⟨v5, rfl, hm5⟩
                  have HM5 := Lib.hid hm5
                  clear hm5
                  go_wp2
                  go_ret
                  rw [HM.out]
                  exact ⟨_, rfl, own_mono HM5.out.1 HW.out, HK4.out.then HM5.out.2⟩
end Go.Proofs.Ytddpdopccejmbaa
