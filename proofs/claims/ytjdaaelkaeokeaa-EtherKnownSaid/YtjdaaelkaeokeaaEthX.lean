/- tolllaw04.EtherKnown: the walk. -/
import Derived.Test.YtjdaaelkaeokeaaEthXb
namespace Go.Proofs.Ytjdaaelkaeokeaa
open Go.RowKit Go.Sort
set_option linter.unusedVariables false

set_option maxRecDepth 100000 in
set_option maxHeartbeats 16000000 in
theorem eknown_yes (w : World) : Calls Try.prog 8 #[] w fun e w' => e = .returned (.bool true) ∧ Below w.heap.size w w' := by
  go_enter Try.func8, Try.ntmps8
  go_wp2_with (refine wpList_mkB rfl _ _ rfl 11 (by decide) rfl rfl ?_; intro w1 b1 HB1 HL1 HK1)
  refine (eget_yes _ 11 _ _ _ HB1.out (by decide)).mono ?_
  rintro e w2 ⟨vt, vb, vr, rfl, hnf, hk⟩
  rw [g_short b1 HL1.out] at hnf ⊢
  have HK := Lib.hid (HK1.out.then hk)
  have HN := Lib.hid hnf
  have HFN := Lib.hid (FB.new w2 28 Fr.zero nilv nilv nilv)
  clear hk hnf
  go_wp2_with (first
    | (refine wpList_st rfl _ (.tmp 2) _ rfl _ 0 rfl (fcs Fr.zero vt vb vr) _ rfl rfl infF 28 _ HFN.out (by rw [fcs_len Fr.zero_six, fcs_len Fr.zero_six]; omega) HN.out.ones ?_; intro w3 hb3 hk3 hz3; have HK3 := Lib.hid (HK.out.then (((Kept.refl Nil w2).alloc (.cells (fcs Fr.zero nilv nilv nilv).toArray 28)).fresh hk3 (fun i hi => by cases hi; exact Nat.le_refl _))); clear hb3 hk3 hz3)
    | (refine wpList_mkB rfl _ _ rfl 65536 (by decide) rfl rfl ?_; intro w4 b4 HB4 HL4 HK4))
  refine (eget_yes _ 65536 _ _ _ HB4.out (by decide)).mono ?_
  rintro e w5 ⟨ut, ub, ur, rfl, hnf, hk⟩
  rw [g_long b4 HL4.out] at hnf ⊢
  have HK5 := Lib.hid ((HK3.out.then HK4.out).then hk)
  have HN5 := Lib.hid hnf
  have HFN5 := Lib.hid (FB.new w5 28 Fr.zero nilv nilv nilv)
  clear hk hnf
  clear HB1 HL1 HK1 HK HN HFN HK3 HB4 HL4 HK4
  go_wp2_with (refine wpList_st rfl _ (.tmp 4) _ rfl _ 0 rfl (fcs Fr.zero ut ub ur) _ rfl rfl infF 28 _ HFN5.out (by rw [fcs_len Fr.zero_six, fcs_len Fr.zero_six]; omega) HN5.out.ones ?_; intro w6 hb6 hk6 hz6; have HK6 := Lib.hid (HK5.out.then (((Kept.refl Nil w5).alloc (.cells (fcs Fr.zero nilv nilv nilv).toArray 28)).fresh hk6 (fun i hi => by cases hi; exact Nat.le_refl _))); clear hb6 hk6 hz6)
  clear HN5 HFN5 HK5
  refine (kp4 w6).mono ?_
  rintro e w7 ⟨A7, n7, c7, rfl, hk7⟩
  have HK7 := Lib.hid (HK6.out.then hk7)
  clear hk7 HK6
  go_wp2_with (fail)
  refine (kp5 _ _ _ _ (tags_lit w7 [t1] _ _ rfl 1 rfl _ rfl (by decide) (by intro x hx; simp at hx; subst hx; exact t1_ok))).mono ?_
  rintro e w8 ⟨A8, n8, c8, rfl, hk8⟩
  have HK8 := Lib.hid ((HK7.out.alloc _).then hk8)
  clear hk8 HK7
  go_wp2_with (fail)
  refine (kp6 _ _ _ _ (tags_lit w8 [t1, t1] _ _ rfl 2 rfl _ rfl (by decide) (by intro x hx; simp at hx; subst hx; exact t1_ok))).mono ?_
  rintro e w9 ⟨A9, n9, c9, rfl, hk9⟩
  have HK9 := Lib.hid ((HK8.out.alloc _).then hk9)
  clear hk9 HK8
  go_wp2_with (fail)
  refine (kp7 _).mono ?_
  rintro e w10 ⟨A10, n10, c10, rfl, hk10⟩
  have HK10 := Lib.hid (HK9.out.then hk10)
  clear hk10 HK9
  go_wp2_with (refine wpList_mkB rfl _ _ rfl 1498 (by decide) rfl rfl ?_; intro u11 b11 HB11 HL11 HU11)
  refine (kp8 _ _ _ _ _ HB11.out HL11.out).mono ?_
  rintro e w11 ⟨A11, n11, c11, rfl, hk11⟩
  have HK11 := Lib.hid ((HK10.out.then HU11.out).then hk11)
  clear hk11 HK10 HB11 HL11 HU11
  go_wp2_with (refine wpList_mkB rfl _ _ rfl 1497 (by decide) rfl rfl ?_; intro u12 b12 HB12 HL12 HU12)
  refine (kp9 _ _ _ _ _ HB12.out HL12.out).mono ?_
  rintro e w12 ⟨A12, n12, c12, rfl, hk12⟩
  have HK12 := Lib.hid ((HK11.out.then HU12.out).then hk12)
  clear hk12 HK11 HB12 HL12 HU12
  go_wp2_with (fail)
  refine (kp10 _).mono ?_
  rintro e w13 ⟨A13, n13, c13, rfl, hk13⟩
  have HK13 := Lib.hid (HK12.out.then hk13)
  clear hk13 HK12
  go_wp2_with (refine wpList_mkB rfl _ _ rfl 1493 (by decide) rfl rfl ?_; intro u14 b14 HB14 HL14 HU14)
  refine (kp11 _ _ _ _ _ HB14.out HL14.out).mono ?_
  rintro e w14 ⟨A14, n14, c14, rfl, hk14⟩
  have HK14 := Lib.hid ((HK13.out.then HU14.out).then hk14)
  clear hk14 HK13 HB14 HL14 HU14
  go_wp2_with (refine wpList_mkB rfl _ _ rfl 65526 (by decide) rfl rfl ?_; intro u15 b15 HB15 HL15 HU15)
  refine (kp12 _ _ _ _ _ HB15.out HL15.out).mono ?_
  rintro e w15 ⟨A15, n15, c15, rfl, hk15⟩
  have HK15 := Lib.hid ((HK14.out.then HU15.out).then hk15)
  clear hk15 HK14 HB15 HL15 HU15
  go_wp2_with (fail)
  refine (kp13 _ _ _ _ (byt_lit w15 [1] _ _ rfl 1 rfl _ rfl (by decide))).mono ?_
  rintro e w16 ⟨A16, n16, c16, rfl, hk16⟩
  have HK16 := Lib.hid ((HK15.out.alloc _).then hk16)
  clear hk16 HK15
  go_wp2_with (fail)
  refine (kp14 _).mono ?_
  rintro e w17 ⟨A17, n17, c17, rfl, hk17⟩
  have HK17 := Lib.hid (HK16.out.then hk17)
  clear hk17 HK16
  go_wp2_with (refine wpList_mkB rfl _ _ rfl 65525 (by decide) rfl rfl ?_; intro u18 b18 HB18 HL18 HU18)
  refine (kp15 _ _ _ _ _ HB18.out HL18.out).mono ?_
  rintro e w18 ⟨A18, c18, rfl, hk18⟩
  have HK18 := Lib.hid ((HK17.out.then HU18.out).then hk18)
  clear hk18 HK17 HB18 HL18 HU18
  go_wp2_with (fail)
  refine (kc0 _).mono ?_
  rintro e w19 ⟨rfl, hk19⟩
  have HK19 := Lib.hid (HK18.out.then hk19)
  clear hk19 HK18
  go_wp2_with (fail)
  refine (kc1 _).mono ?_
  rintro e w20 ⟨rfl, hk20⟩
  have HK20 := Lib.hid (HK19.out.then hk20)
  clear hk20 HK19
  go_wp2_with (fail)
  refine (kc2 _).mono ?_
  rintro e w21 ⟨rfl, hk21⟩
  have HK21 := Lib.hid (HK20.out.then hk21)
  clear hk21 HK20
  go_wp2_with (fail)
  refine (kc3 _).mono ?_
  rintro e w22 ⟨rfl, hk22⟩
  have HK22 := Lib.hid (HK21.out.then hk22)
  clear hk22 HK21
  go_wp2_with (fail)
  refine (kc4 _).mono ?_
  rintro e w23 ⟨rfl, hk23⟩
  have HK23 := Lib.hid (HK22.out.then hk23)
  clear hk23 HK22
  go_wp2_with (fail)
  refine (kc5 _).mono ?_
  rintro e w24 ⟨rfl, hk24⟩
  have HK24 := Lib.hid (HK23.out.then hk24)
  clear hk24 HK23
  go_wp2_with (fail)
  refine (kc6 _).mono ?_
  rintro e w25 ⟨rfl, hk25⟩
  have HK25 := Lib.hid (HK24.out.then hk25)
  clear hk25 HK24
  go_wp2_with (fail)
  refine (kc7 _).mono ?_
  rintro e w26 ⟨rfl, hk26⟩
  have HK26 := Lib.hid (HK25.out.then hk26)
  clear hk26 HK25
  go_wp2_with (fail)
  refine (kc8 _).mono ?_
  rintro e w27 ⟨rfl, hk27⟩
  have HK27 := Lib.hid (HK26.out.then hk27)
  clear hk27 HK26
  go_wp2_with (fail)
  refine (kc9 _).mono ?_
  rintro e w28 ⟨rfl, hk28⟩
  have HK28 := Lib.hid (HK27.out.then hk28)
  clear hk28 HK27
  go_wp2_with (fail)
  refine (kc10 _).mono ?_
  rintro e w29 ⟨rfl, hk29⟩
  have HK29 := Lib.hid (HK28.out.then hk29)
  clear hk29 HK28
  go_wp2_with (fail)
  refine (kc11 _).mono ?_
  rintro e w30 ⟨rfl, hk30⟩
  have HK30 := Lib.hid (HK29.out.then hk30)
  clear hk30 HK29
  go_wp2_with (fail)
  refine (tells_yes _).mono ?_
  rintro e w99 ⟨rfl, hk99⟩
  have HK99 := Lib.hid (HK30.out.then hk99)
  clear hk99 HK30
  go_wp2
  go_ret
  exact ⟨rfl, HK99.out.below (Nat.le_refl _) (fun _ hf => hf.elim)⟩
end Go.Proofs.Ytjdaaelkaeokeaa
