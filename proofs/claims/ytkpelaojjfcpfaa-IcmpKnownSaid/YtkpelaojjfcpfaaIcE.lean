/- Package icmp: contract of Put. -/
import Derived.Test.YtkpelaojjfcpfaaIcH
import Derived.Test.YtkpelaojjfcpfaaInL
import Derived.Test.YtkpelaojjfcpfaaPadC
import Derived.Test.YtkpelaojjfcpfaaRegJ
import Derived.Test.YtkpelaojjfcpfaaEthT
namespace Go.Proofs.Ytkpelaojjfcpfaa
open Go.RowKit Go.Sort
set_option linter.unusedVariables false

/-- What has been laid behind so many calls. -/
def lsI (m : Ms) : Nat → List UInt8
  | 0 => []
  | 1 => []
  | 2 => beAll 1 [m.t.toNat, m.c.toNat]
  | 3 => beAll 1 [m.t.toNat, m.c.toNat] ++ beAll 2 [0]
  | 4 => beAll 1 [m.t.toNat, m.c.toNat] ++ beAll 2 [0] ++ m.rest
  | _ => beAll 1 [m.t.toNat, m.c.toNat] ++ beAll 2 [0] ++ m.rest ++ m.b
theorem lsI_len (m : Ms) (i : Nat) : (lsI m i).length ≤ 8 + m.b.length := by
  unfold lsI
  split <;> simp only [List.length_append, beAll_len, List.length_cons, List.length_nil, Ms.rest] <;> omega
theorem lsI_all (m : Ms) : lsI m 5 = rawM m 0 := by
  show beAll 1 [m.t.toNat, m.c.toNat] ++ beAll 2 [0] ++ m.rest ++ m.b = _
  have h1 : beAll 1 [m.t.toNat, m.c.toNat] = [m.t, m.c] := beAll_bytes [m.t, m.c]
  rw [h1, beAll_two]
  rfl
theorem raw_set (m : Ms) (S : Nat) : ((rawM m 0).set 2 (UInt8.ofNat (S / 256))).set 3 (UInt8.ofNat S) = rawM m S := rfl
set_option maxRecDepth 100000 in
set_option maxHeartbeats 16000000 in
theorem icput_yes (m : Ms) (A : Option Addr) (n c : Nat) (w : World) (hy : Byt w A n c m.b) (hn : n ≤ 1099511627776) :
    Calls Try.prog 12 #[msv m A n c] w fun e w' => ∃ v, e = .returned (.tuple #[v, .int .i64 (putI m).2]) ∧ Made w w' v (putI m).1 := by
  have hP := MB.new w 25 m A n c
  have hk := (Kept.refl Nil w).alloc (.cells (ics m A n c).toArray 25)
  have hyl := hy.1
  have HPU := Lib.hid (show putI m = if 65515 < 8 + n then ([], 3) else (rawM m (sumM (rawM m 0)), 0) by rw [← hyl]; rfl)
  have HY := Lib.hid hy
  have HYL := Lib.hid hyl
  generalize putI m = R at *
  clear hy hyl
  unfold msv
  go_enter Try.func12, Try.ntmps12
  go_upto_region 1 with (fail)
  refine wp_nameE (fun W => MB W w.heap.size 25 m A n c ∧ Kept Nil w W) ⟨hP, hk⟩ ?_
  clear hP hk
  rintro W ⟨hP, hk⟩
  have c6 := hP.c6
  have HP := Lib.hid hP
  have HK := Lib.hid hk
  obtain ⟨gh, hgh⟩ : ∃ g, w.heap.size = g := ⟨_, rfl⟩
  rw [hgh] at HP c6 ⊢
  have HGH := Lib.hid (show w.heap.size ≤ gh by omega)
  clear hP hk hgh
  by_cases hl : 65515 < 8 + n
  · have hl' : (65515 : Int) < 8 + (n : Int) := by omega
    have HRR := Lib.hid (show R = ([], 3) by rw [HPU.out, if_pos hl])
    clear hl HPU
    go_wp2
    go_ret2
    exact ⟨.slice none 0 0, by rw [HRR.out]; rfl, by rw [HRR.out]; exact World.ownsRow_nil _ _ _ _, HK.out⟩
  · have hl' : ¬ (65515 : Int) < 8 + (n : Int) := by omega
    have HRR := Lib.hid (show R = (rawM m (sumM (rawM m 0)), 0) by rw [HPU.out, if_neg hl])
    have HN := Lib.hid (show n ≤ 65507 by omega)
    clear hl HPU
    have HKP := Lib.hid (padJ_keeps W.heap.size (lsI m))
    have HST := Lib.hid (padJ_nil W (lsI m))
    have HLL := Lib.hid (show ∀ i, (lsI m i).length ≤ 65515 from fun i => by have := lsI_len m i; have := HN.out; have := HYL.out; omega)
    have HY3 := Lib.hid (HY.out.kept HK.out (fun _ _ hf => hf))
    have HR4 := Lib.hid (show Byt W (some ⟨gh, 2, none⟩) 4 4 m.rest from byt_row HP.out.rr (by simp [Ms.rest]) 4 rfl)
    go_upto_region 3 with (fail)
    refine wp_region_acts Nil [0, 6, 8, 11, 14] (fun i vl => if i = 5 then (vl.toArray, 5) else (vl.toArray, 35)) (fun i => undef) (padJ W.heap.size (lsI m)) padP 15 (by kernel_rfl) (by kernel_rfl) HKP.out HST.out ?_
    simp only [List.take_succ_cons, List.take_zero, List.drop_succ_cons, List.drop_zero]
    refine tLex_act 28 #[] (fun u => ?hea) rfl rfl _ (padP_0 _) ?hca ?_
    case hea => simp [execOp, go_sem]
    case hca =>
      intro D u hu hI hdd
      exact padJ_lay hu hI rfl _
    rintro r0 ⟨g, rfl⟩
    simp only [Act.put, List.setIfInBounds_toArray, List.set_cons_succ, List.set_cons_zero]
    refine tLex_quiets 4 rfl (by kernel_rfl) ?_
    simp only [List.take_succ_cons, List.take_zero, List.drop_succ_cons, List.drop_zero]
    apply Exists.intro
    refine ⟨?hqA, ?hvA, ?htA⟩
    case hqA =>
      intro V hV
      have hbV : Hid (MB V gh 25 m A n c) := HP.out.kept hV (fun hf => hf)
      have ec0 := fun d os => (MB.kept hbV.out (kept_grown' V d os) (fun hf => hf)).c0
      have ec1 := fun d os => (MB.kept hbV.out (kept_grown' V d os) (fun hf => hf)).c1
      clear hV
      repeat (go_big_quiet_step (fail))
      exact wpQuiet_nil rfl
    case hvA => exact ⟨trivial, trivial, trivial, trivial, trivial⟩
    refine tLex_make (#[.int .u8 (m.t.toNat : Int), .int .u8 (m.c.toNat : Int)], 5) rfl rfl rfl rfl (fun u => ?hmA) ?_
    case hmA => simp [execOp, mkVal, Instr.buildSlice, go_sem]
    intro qa hg hL
    simp only [Act.put, mkVal, List.setIfInBounds_toArray, List.set_cons_succ, List.set_cons_zero]
    refine tLex_act 29 #[.pointer (some ⟨g, 0, none⟩), .slice (some ⟨qa, 0, none⟩) 2 2] (fun u => ?heB) rfl rfl _ (padP_0 _) ?hcB ?_
    case heB => simp [execOp, go_sem, mkVal]
    case hcB =>
      intro D u hu hI hdd
      obtain ⟨d1, d2⟩ := hdd _ _ ⟨_, List.mem_cons_of_mem _ (List.mem_cons_of_mem _ (List.mem_cons_self ..)), rfl⟩ (mput_same _ _ _)
      exact padJ_byte (n := 2) [m.t.toNat, m.c.toNat] hu hI (by simp) d1 d2 rfl rfl rfl (by have := HLL.out 1; show (lsI m 1).length + _ ≤ _; simp; omega) (by intro x hx; simp only [List.mem_cons, List.not_mem_nil, or_false] at hx; rcases hx with rfl | rfl <;> exact UInt8.toNat_lt _) _
    rintro rg1 ⟨g1, rfl⟩
    simp only [Act.put, List.setIfInBounds_toArray, List.set_cons_succ, List.set_cons_zero]
    refine tLex_make (#[.int .u16 0], 35) rfl rfl rfl rfl (fun u => ?hmC) ?_
    case hmC => simp [execOp, mkVal, Instr.buildSlice, go_sem]
    intro qc hg hL
    simp only [Act.put, mkVal, List.setIfInBounds_toArray, List.set_cons_succ, List.set_cons_zero]
    refine tLex_act 30 #[.pointer (some ⟨g1, 0, none⟩), .slice (some ⟨qc, 0, none⟩) 1 1] (fun u => ?heD) rfl rfl _ (padP_0 _) ?hcD ?_
    case heD => simp [execOp, go_sem, mkVal]
    case hcD =>
      intro D u hu hI hdd
      obtain ⟨d1, d2⟩ := hdd _ _ ⟨_, List.mem_cons_of_mem _ (List.mem_cons_of_mem _ (List.mem_cons_self ..)), rfl⟩ (mput_same _ _ _)
      exact padJ_two (n := 1) [0] hu hI (by simp) d1 d2 rfl rfl rfl (by have := HLL.out 2; show (lsI m 2).length + _ ≤ _; simp; omega) (by intro x hx; simp only [List.mem_cons, List.not_mem_nil, or_false] at hx; rcases hx with rfl; decide) _
    rintro rg2 ⟨g2, rfl⟩
    simp only [Act.put, List.setIfInBounds_toArray, List.set_cons_succ, List.set_cons_zero]
    refine tLex_quiets 2 rfl (by kernel_rfl) ?_
    simp only [List.take_succ_cons, List.take_zero, List.drop_succ_cons, List.drop_zero]
    apply Exists.intro
    refine ⟨?hqE, ?hvE, ?htE⟩
    case hqE =>
      intro V hV
      have hbV : Hid (MB V gh 25 m A n c) := HP.out.kept hV (fun hf => hf)
      clear hV
      repeat (go_big_quiet_step (fail))
      exact wpQuiet_nil rfl
    case hvE => exact ⟨trivial, trivial, trivial⟩
    refine tLex_act 29 #[.pointer (some ⟨g2, 0, none⟩), .slice (some ⟨gh, 2, none⟩) 4 4] (fun u => ?heF) rfl rfl _ (padP_0 _) ?hcF ?_
    case heF => simp [execOp, go_sem]
    case hcF =>
      intro D u hu hI hdd
      exact padJ_src m.rest hu hI (by simp) HR4.out rfl (by have := HLL.out 3; have := HN.out; show (lsI m 3).length + _ ≤ _; omega) _
    rintro rg3 ⟨g3, rfl⟩
    simp only [Act.put, List.setIfInBounds_toArray, List.set_cons_succ, List.set_cons_zero]
    refine tLex_quiets 2 rfl (by kernel_rfl) ?_
    simp only [List.take_succ_cons, List.take_zero, List.drop_succ_cons, List.drop_zero]
    apply Exists.intro
    refine ⟨?hqG, ?hvG, ?htG⟩
    case hqG =>
      intro V hV
      have hbV : Hid (MB V gh 25 m A n c) := HP.out.kept hV (fun hf => hf)
      have ec6 := fun d os => (MB.kept hbV.out (kept_grown' V d os) (fun hf => hf)).c6
      clear hV
      repeat (go_big_quiet_step (fail))
      exact wpQuiet_nil rfl
    case hvG => exact ⟨trivial, trivial, trivial⟩
    refine tLex_act 29 #[.pointer (some ⟨g3, 0, none⟩), .slice A n c] (fun u => ?heH) rfl rfl _ (padP_0 _) ?hcH ?_
    case heH => simp [execOp, go_sem]
    case hcH =>
      intro D u hu hI hdd
      exact padJ_src m.b hu hI (by simp) HY3.out rfl (by have := HLL.out 4; have := HN.out; show (lsI m 4).length + _ ≤ _; omega) _
    rintro rg4 ⟨g4, rfl⟩
    simp only [Act.put, List.setIfInBounds_toArray, List.set_cons_succ, List.set_cons_zero]
    intro w4 hs
    obtain ⟨v, hall, hpd, -⟩ := padJ_at hs.know (g := g4) (by simp)
    have hpd : Padd w4 W.heap.size g4 v (lsI m 5) := hpd
    rw [lsI_all m] at hpd
    have hk34 : Kept Nil W w4 := hs.kept
    have HPD := Lib.hid hpd
    have HK4 := Lib.hid (HK.out.then hk34)
    have HL4 := Lib.hid (rawM_len m 0)
    have HS3 := Lib.hid (show w.heap.size ≤ W.heap.size from HK.out.size)
    clear hs hall hpd hk34
    have hl21 : (rawM m 0).length ≤ 65515 := by rw [HL4.out, HYL.out]; have := HN.out; omega
    have HL21 := Lib.hid hl21
    have hS6 : sumM (rawM m 0) < 65536 := by unfold sumM; omega
    obtain ⟨SM, hSM⟩ : ∃ x, sumM (rawM m 0) = x := ⟨_, rfl⟩
    rw [hSM] at hS6 HRR
    have HSM := Lib.hid hSM
    have HS6 := Lib.hid hS6
    clear hSM hS6 hl21 HP HK HY HR4 HY3 HKP HST HLL c6
    go_wp2_with (fail)
    refine (Done_yes _ g4 v _ _ HPD.out (by have := HL21.out; omega)).mono ?_
    rintro e w5 ⟨v5, rfl, hm5⟩
    obtain ⟨A5, c5, rfl, hy5, -⟩ := byt_own hm5
    have HPD5 := Lib.hid (HPD.out.kept hm5.2 (fun _ _ hf => hf))
    have HK5 := Lib.hid (HK4.out.then hm5.2)
    have HB5 := Lib.hid hy5
    clear hm5 hy5 HPD HK4
    go_wp2_with (fail)
    refine (isum_yes A5 _ c5 _ _ HB5.out (by have := HL21.out; omega)).mono ?_
    rintro e w6 ⟨rfl, hk6⟩
    rw [HSM.out]
    have HPD6 := Lib.hid (HPD5.out.kept hk6 (fun _ _ hf => hf))
    have HK6 := Lib.hid (HK5.out.then hk6)
    clear hk6 HPD5 HK5 HB5
    go_wp2_with (fail)
    refine (Fill_ok _ g4 v _ 2 SM _ HPD6.out (by have := HL21.out; omega) (by rw [HL4.out]; omega) HS6.out).mono ?_
    rintro e w7 ⟨rfl, hp7, hk7⟩
    rw [raw_set m SM] at hp7
    have HK7 := Lib.hid (HK6.out.fresh hk7 (fun i hi => by have := HPD6.out.foot_ge i hi; have := HS3.out; omega))
    have HPD7 := Lib.hid hp7
    have HL7 := Lib.hid (rawM_len m SM)
    clear hp7 hk7 HPD6 HK6
    go_wp2_with (fail)
    refine (Done_yes _ g4 v _ _ HPD7.out (by rw [HL7.out, HYL.out]; have := HN.out; omega)).mono ?_
    rintro e w8 ⟨v8, rfl, hm8⟩
    have HM8 := Lib.hid hm8
    clear hm8 HPD7
    go_wp2
    go_ret2
    rw [HRR.out]
    exact ⟨v8, rfl, own_mono HM8.out.1 HK7.out.size, HK7.out.then HM8.out.2⟩
end Go.Proofs.Ytkpelaojjfcpfaa
