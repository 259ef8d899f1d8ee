/- Texts that belong together, one behind the other: DhN, DhY. Conditions: those of each. -/
import Derived.Test.YthjfeanmgaidcaaMg21
import Derived.Test.YthjfeanmgaidcaaMg27
/- tolllaw09: contract of same, of a message with itself. -/
namespace Go.Proofs.Ythjfeanmgaidcaa
open Go.RowKit Go.Sort
set_option linter.unusedVariables false

set_option maxRecDepth 100000 in
set_option maxHeartbeats 8000000 in
theorem same_yes (h : Dh) (vh vo vb vh' vo' vb' : Value) (w : World) (hI : RfIn w h vh vo vb) (hJ : RfIn w h vh' vo' vb') : Calls Try.prog 9 #[rfv vh vo vb, rfv vh' vo' vb'] w fun e w' => e = .returned (.bool true) ∧ Kept Nil w w' := by
  have hk := ((Kept.refl Nil w).alloc (.cells #[vh, vo, vb] 43)).alloc (.cells #[vh', vo', vb'] 43)
  have hP := (Blo.new w 43 #[vh, vo, vb]).alloc (.cells #[vh', vo', vb'] 43)
  have hQ : Blo ((w.alloc (.cells #[vh, vo, vb] 43)).alloc (.cells #[vh', vo', vb'] 43)) (w.heap.size + 1) 43 #[vh', vo', vb'] := Blo.at_new (by simp)
  go_enter Try.func9, Try.ntmps9
  go_upto_region 1 with (fail)
  refine wp_nameE (fun W => Blo W w.heap.size 43 #[vh, vo, vb] ∧ Blo W (w.heap.size + 1) 43 #[vh', vo', vb'] ∧ Kept Nil w W) ⟨hP, hQ, hk⟩ ?_
  clear hP hQ hk
  rintro W ⟨hP, hQ, hk⟩
  obtain ⟨g2, hg2⟩ : ∃ g, w.heap.size = g := ⟨_, rfl⟩
  rw [hg2] at hP hQ ⊢
  obtain ⟨g3, hg3⟩ : ∃ g, g2 + 1 = g := ⟨_, rfl⟩
  rw [hg3] at hQ ⊢
  have HI := hI.nil hk
  have HJ := hJ.nil hk
  have HK := Lib.hid hk
  obtain ⟨⟨A1, n1, c1, rfl, h1⟩, ⟨A2, n, c2, rfl, h2⟩, ⟨A3, n3, c3, rfl, h3⟩⟩ := HI
  obtain ⟨⟨B1, m1, d1, rfl, k1⟩, ⟨B2, m2, d2, rfl, k2⟩, ⟨B3, m3, d3, rfl, k3⟩⟩ := HJ
  obtain rfl : m2 = n := by rw [← k2.len, h2.len]
  have H1 := Lib.hid h1
  have H2 := Lib.hid h2
  have H3 := Lib.hid h3
  have K1 := Lib.hid k1
  have K2 := Lib.hid k2
  have K3 := Lib.hid k3
  have HL := Lib.hid h2.len
  have hnc := h2.lt.1
  have hcc := h2.lt.2
  have hnd := k2.lt.1
  have hdd := k2.lt.2
  have HP := Lib.hid hP
  have HQ := Lib.hid hQ
  have p0 := hP.cell 0
  have p1 := hP.cell 1
  have p2 := hP.cell 2
  have q0 := hQ.cell 0
  have q1 := hQ.cell 1
  have q2 := hQ.cell 2
  simp at p0 p1 p2 q0 q1 q2
  have b1 : (headB h == headB h) = true := by simp
  have b2 : (h.bh == h.bh) = true := by simp
  clear hP hQ hk hI hJ h1 h2 h3 k1 k2 k3 hg2 hg3
  go_upto_region 3 with (first
    | (go_at_call 34; first
        | (refine (equal A1 B1 n1 c1 m1 d1 (headB h) (headB h) _ H1.out K1.out).mono ?_; rintro e w' ⟨rfl, rfl⟩)
        | (refine (equal A3 B3 n3 c3 m3 d3 h.bh h.bh _ H3.out K3.out).mono ?_; rintro e w' ⟨rfl, rfl⟩))
    | fail)
  go_wp2
  go_loopw [32] (fun i wr => ∃ k : Nat, k ≤ m2 ∧ i = .int .i64 (k : Int) ∧ Kept Nil W wr) (fun i _ => m2 - (intOf i).toNat)
  case atStart => exact ⟨0, Nat.zero_le _, rfl, Kept.refl _ _⟩
  case round =>
    clear p0 p1 p2 q0 q1 q2
    obtain ⟨k, hk, rfl, hkp⟩ := hrel
    by_cases hlt : k < m2
    · have hkl : k < h.os.length := by rw [HL.out]; exact hlt
      obtain ⟨b, o, A', m, c', rfl, hrow, hby, -⟩ := (H2.out.kept hkp (fun _ _ hf => hf)).at hkl
      obtain ⟨b', o', D', m', e', rfl, hrow', hby', -⟩ := (K2.out.kept hkp (fun _ _ hf => hf)).at hkl
      generalize h.os[k] = op at *
      obtain ⟨oc, ov⟩ := op
      have HKP := Lib.hid hkp
      have HPR := HP.out.kept hkp (fun hf => hf)
      have HQR := HQ.out.kept hkp (fun hf => hf)
      go_upto_region 6 with (fail)
      have p1 := fun d os => HPR.gcell 1 d os
      have q1 := fun d os => HQR.gcell 1 d os
      have r0 := fun (d : Nat) (os : Array Obj) => (kept_grown' wr d os).cell (hrow 0 _ rfl) (fun hf => hf)
      have r1 := fun (d : Nat) (os : Array Obj) => (kept_grown' wr d os).cell (hrow 1 _ rfl) (fun hf => hf)
      have s0 := fun (d : Nat) (os : Array Obj) => (kept_grown' wr d os).cell (hrow' 0 _ rfl) (fun hf => hf)
      have s1 := fun (d : Nat) (os : Array Obj) => (kept_grown' wr d os).cell (hrow' 1 _ rfl) (fun hf => hf)
      simp at p1 q1
      simp only [Nat.add_zero] at r0 s0
      have HB := Lib.hid hby
      have HB' := Lib.hid hby'
      have EQ := Lib.hid (fun (d : Nat) (os : Array Obj) => (quietS (equal A' D' m c' m' e' ov ov (grow (redrawn wr d) os) (HB.out.kept (kept_grown' wr d os) (fun _ _ hf => hf)) (HB'.out.kept (kept_grown' wr d os) (fun _ _ hf => hf)))))
      have b3 : (ov == ov) = true := by simp
      clear hrow hrow' hby hby' hkp HPR HQR
      refine wp_region_quiet_below (by kernel_rfl) (by kernel_rfl) ?_
      repeat (go_big_quiet_step (exact EQ.out _ _))
      refine wpQuiet_nil ?_
      rintro wz ⟨nq, hw⟩
      have HKZ := Lib.hid (HKP.out.then (show Kept Nil wr wz from by rw [hw]; exact kept_grown _ _))
      clear hw
      go_wp2
      go_roundw
      case rel => exact ⟨k + 1, by omega, by go_num, HKZ.out⟩
      case measure => simp [intOf]; omega
    · obtain rfl : k = m2 := by omega
      have HKP := Lib.hid hkp
      clear hkp hlt
      go_wp2
      go_ret
      exact ⟨rfl, HK.out.then HKP.out⟩
end Go.Proofs.Ythjfeanmgaidcaa
/- tolllaw09: contract of wakes. -/
namespace Go.Proofs.Ythjfeanmgaidcaa
open Go.RowKit Go.Sort
set_option linter.unusedVariables false

def wk2 : Dh := { plainH with os := [], bh := [] }
def wk3 : Dh := { plainH with os := [(53, [5])], bh := [] }
def wk4 : Dh := { plainH with os := [(53, [1]), (53, [2])], bh := [] }
theorem wk_1 : getD (plainB []) = (Dh.zero, 4) := by rw [getD_plain]; rfl
theorem wk_2 : getD (plainB [255]) = (wk2, 0) := by rw [getD_plain]; rfl
theorem wk_3 : getD (plainB [0, 53, 1, 5, 0, 255]) = (wk3, 0) := by rw [getD_plain]; rfl
theorem wk_4 : getD (plainB [53, 1, 1, 53, 1, 2, 255]) = (wk4, 0) := by rw [getD_plain]; rfl
theorem wk_t3 : typD wk3.os = 5 := by decide
theorem wk_t4 : typD wk4.os = 0 := by decide
theorem pl_bound (l : List UInt8) (h : l.length ≤ 100) : (plainB l).length ≤ 1099511627776 := by rw [plainB_len]; omega
set_option maxRecDepth 100000 in
set_option maxHeartbeats 4000000 in
theorem wakes_yes (w : World) : Calls Try.prog 12 #[] w fun e w' => e = .returned (.bool true) ∧ Kept Nil w w' := by
  have HK0 := Lib.hid (Kept.refl Nil w)
  go_enter Try.func12, Try.ntmps12
  go_wp2_with (fail)
  refine (plain_yes none 0 0 [] _ (Byt.none _) (by decide)).mono ?_
  rintro e wa0 ⟨v0, rfl, hm⟩
  obtain ⟨A0, c0, rfl, hy, -⟩ := byt_own hm
  have HY0 := Lib.hid hy
  have HA0 := Lib.hid (HK0.out.then hm.2)
  clear hm hy
  go_wp2_with (fail)
  refine (dget_yes A0 _ c0 (plainB []) _ HY0.out (pl_bound _ (by decide))).mono ?_
  rintro e wb0 hg
  rw [wk_1] at hg
  obtain ⟨vo0, vb0, rfl, hin, hk⟩ := hg
  have HI0 := Lib.hid (show DhIn (fun j => wa0.heap.size ≤ j) wb0 Dh.zero vo0 vb0 from hin)
  have HB0 := Lib.hid (HA0.out.then hk)
  clear hin hk HY0 HA0
  go_upto_region 2 with (first
    | (refine wpList_al rfl 33 rfl (dcs Dh.zero nilv nilv) al_dh ?_; intro wx hbx hkx hzx; clear hzx)
    | (refine wpList_st rfl _ (.tmp 1) (.tmp 12) rfl wb0.heap.size 0 rfl (dcs Dh.zero vo0 vb0) _ rfl rfl (infDh _ HI0.out.ok.s6 _ _) 33 (dcs Dh.zero nilv nilv) hbx (by rw [dcs_len HI0.out.ok.s6, dcs_len Dh.zero_ok.s6]; decide) HI0.out.one ?_; intro wc0 hby hky hzy; clear hzy; simp only [Act.put])
    | fail)
  have hk := hkx.fresh hky (fun j hj => by cases hj; exact Nat.le_refl _)
  have HM0 := Lib.hid (DB.of_all (h' := Dh.zero) Dh.zero_ok.s6 HI0.out.ok.s6 hby)
  have HJ0 := Lib.hid (HI0.out.nil hk)
  have HC0 := Lib.hid (HB0.out.then hk)
  obtain ⟨g0, hg0⟩ : ∃ g, wb0.heap.size = g := ⟨_, rfl⟩
  rw [hg0] at HM0 ⊢
  clear hk hkx hky hbx hby hg0 HI0 HB0 HK0
  go_wp2_with (fail)
  refine (plain_yes _ 1 1 [255] _ (byt_lit wc0 [255] 5 #[.int .u8 255] rfl 1 rfl _ rfl (by decide)) (by decide)).mono ?_
  rintro e wa1 ⟨v1, rfl, hm⟩
  obtain ⟨A1, c1, rfl, hy, -⟩ := byt_own hm
  have HY1 := Lib.hid hy
  have HA1 := Lib.hid ((HC0.out.alloc (.cells #[.int .u8 255] 5)).then hm.2)
  have HQ1 := Lib.hid (((Kept.refl Nil wc0).alloc (.cells #[.int .u8 255] 5)).then hm.2)
  clear hm hy
  go_wp2_with (fail)
  refine (dget_yes A1 _ c1 (plainB [255]) _ HY1.out (pl_bound _ (by decide))).mono ?_
  rintro e wb1 hg
  rw [wk_2] at hg
  obtain ⟨vo1, vb1, rfl, hin, hk⟩ := hg
  have HI1 := Lib.hid (show DhIn (fun j => wa1.heap.size ≤ j) wb1 wk2 vo1 vb1 from hin)
  have HB1 := Lib.hid (HA1.out.then hk)
  have HR1 := Lib.hid (HQ1.out.then hk)
  clear hin hk HY1 HA1 HQ1
  go_upto_region 3 with (first
    | (refine wpList_al rfl 33 rfl (dcs Dh.zero nilv nilv) al_dh ?_; intro wx hbx hkx hzx; clear hzx)
    | (refine wpList_st rfl _ (.tmp 3) (.tmp 18) rfl wb1.heap.size 0 rfl (dcs wk2 vo1 vb1) _ rfl rfl (infDh _ HI1.out.ok.s6 _ _) 33 (dcs Dh.zero nilv nilv) hbx (by rw [dcs_len HI1.out.ok.s6, dcs_len Dh.zero_ok.s6]; decide) HI1.out.one ?_; intro wc1 hby hky hzy; clear hzy; simp only [Act.put])
    | fail)
  have hk := hkx.fresh hky (fun j hj => by cases hj; exact Nat.le_refl _)
  have HM1 := Lib.hid (DB.of_all (h' := wk2) Dh.zero_ok.s6 HI1.out.ok.s6 hby)
  have HJ1 := Lib.hid (HI1.out.nil hk)
  have HC1 := Lib.hid (HB1.out.then hk)
  obtain ⟨g1, hg1⟩ : ∃ g, wb1.heap.size = g := ⟨_, rfl⟩
  rw [hg1] at HM1 ⊢
  have T1 := Lib.hid (HM0.out.kept (HR1.out.then hk) (fun hf => hf))
  have T2 := Lib.hid (HJ0.out.nil (HR1.out.then hk))
  clear HM0 HJ0
  have HM0 := T1
  have HJ0 := T2
  clear T1 T2
  clear hk hkx hky hbx hby hg1 HI1 HB1 HR1 HC0
  go_wp2_with (fail)
  refine (plain_yes _ 6 6 [0, 53, 1, 5, 0, 255] _ (byt_lit wc1 [0, 53, 1, 5, 0, 255] 5 #[.int .u8 0, .int .u8 53, .int .u8 1, .int .u8 5, .int .u8 0, .int .u8 255] rfl 6 rfl _ rfl (by decide)) (by decide)).mono ?_
  rintro e wa2 ⟨v2, rfl, hm⟩
  obtain ⟨A2, c2, rfl, hy, -⟩ := byt_own hm
  have HY2 := Lib.hid hy
  have HA2 := Lib.hid ((HC1.out.alloc (.cells #[.int .u8 0, .int .u8 53, .int .u8 1, .int .u8 5, .int .u8 0, .int .u8 255] 5)).then hm.2)
  have HQ2 := Lib.hid (((Kept.refl Nil wc1).alloc (.cells #[.int .u8 0, .int .u8 53, .int .u8 1, .int .u8 5, .int .u8 0, .int .u8 255] 5)).then hm.2)
  clear hm hy
  go_wp2_with (fail)
  refine (dget_yes A2 _ c2 (plainB [0, 53, 1, 5, 0, 255]) _ HY2.out (pl_bound _ (by decide))).mono ?_
  rintro e wb2 hg
  rw [wk_3] at hg
  obtain ⟨vo2, vb2, rfl, hin, hk⟩ := hg
  have HI2 := Lib.hid (show DhIn (fun j => wa2.heap.size ≤ j) wb2 wk3 vo2 vb2 from hin)
  have HB2 := Lib.hid (HA2.out.then hk)
  have HR2 := Lib.hid (HQ2.out.then hk)
  clear hin hk HY2 HA2 HQ2
  go_upto_region 4 with (first
    | (refine wpList_al rfl 33 rfl (dcs Dh.zero nilv nilv) al_dh ?_; intro wx hbx hkx hzx; clear hzx)
    | (refine wpList_st rfl _ (.tmp 5) (.tmp 24) rfl wb2.heap.size 0 rfl (dcs wk3 vo2 vb2) _ rfl rfl (infDh _ HI2.out.ok.s6 _ _) 33 (dcs Dh.zero nilv nilv) hbx (by rw [dcs_len HI2.out.ok.s6, dcs_len Dh.zero_ok.s6]; decide) HI2.out.one ?_; intro wc2 hby hky hzy; clear hzy; simp only [Act.put])
    | fail)
  have hk := hkx.fresh hky (fun j hj => by cases hj; exact Nat.le_refl _)
  have HM2 := Lib.hid (DB.of_all (h' := wk3) Dh.zero_ok.s6 HI2.out.ok.s6 hby)
  have HJ2 := Lib.hid (HI2.out.nil hk)
  have HC2 := Lib.hid (HB2.out.then hk)
  obtain ⟨g2, hg2⟩ : ∃ g, wb2.heap.size = g := ⟨_, rfl⟩
  rw [hg2] at HM2 ⊢
  have T1 := Lib.hid (HM0.out.kept (HR2.out.then hk) (fun hf => hf))
  have T2 := Lib.hid (HJ0.out.nil (HR2.out.then hk))
  clear HM0 HJ0
  have HM0 := T1
  have HJ0 := T2
  clear T1 T2
  have T1 := Lib.hid (HM1.out.kept (HR2.out.then hk) (fun hf => hf))
  have T2 := Lib.hid (HJ1.out.nil (HR2.out.then hk))
  clear HM1 HJ1
  have HM1 := T1
  have HJ1 := T2
  clear T1 T2
  clear hk hkx hky hbx hby hg2 HI2 HB2 HR2 HC1
  go_wp2_with (fail)
  refine (plain_yes _ 7 7 [53, 1, 1, 53, 1, 2, 255] _ (byt_lit wc2 [53, 1, 1, 53, 1, 2, 255] 5 #[.int .u8 53, .int .u8 1, .int .u8 1, .int .u8 53, .int .u8 1, .int .u8 2, .int .u8 255] rfl 7 rfl _ rfl (by decide)) (by decide)).mono ?_
  rintro e wa3 ⟨v3, rfl, hm⟩
  obtain ⟨A3, c3, rfl, hy, -⟩ := byt_own hm
  have HY3 := Lib.hid hy
  have HA3 := Lib.hid ((HC2.out.alloc (.cells #[.int .u8 53, .int .u8 1, .int .u8 1, .int .u8 53, .int .u8 1, .int .u8 2, .int .u8 255] 5)).then hm.2)
  have HQ3 := Lib.hid (((Kept.refl Nil wc2).alloc (.cells #[.int .u8 53, .int .u8 1, .int .u8 1, .int .u8 53, .int .u8 1, .int .u8 2, .int .u8 255] 5)).then hm.2)
  clear hm hy
  go_wp2_with (fail)
  refine (dget_yes A3 _ c3 (plainB [53, 1, 1, 53, 1, 2, 255]) _ HY3.out (pl_bound _ (by decide))).mono ?_
  rintro e wb3 hg
  rw [wk_4] at hg
  obtain ⟨vo3, vb3, rfl, hin, hk⟩ := hg
  have HI3 := Lib.hid (show DhIn (fun j => wa3.heap.size ≤ j) wb3 wk4 vo3 vb3 from hin)
  have HB3 := Lib.hid (HA3.out.then hk)
  have HR3 := Lib.hid (HQ3.out.then hk)
  clear hin hk HY3 HA3 HQ3
  go_upto_region 5 with (first
    | (refine wpList_al rfl 33 rfl (dcs Dh.zero nilv nilv) al_dh ?_; intro wx hbx hkx hzx; clear hzx)
    | (refine wpList_st rfl _ (.tmp 7) (.tmp 30) rfl wb3.heap.size 0 rfl (dcs wk4 vo3 vb3) _ rfl rfl (infDh _ HI3.out.ok.s6 _ _) 33 (dcs Dh.zero nilv nilv) hbx (by rw [dcs_len HI3.out.ok.s6, dcs_len Dh.zero_ok.s6]; decide) HI3.out.one ?_; intro wc3 hby hky hzy; clear hzy; simp only [Act.put])
    | fail)
  have hk := hkx.fresh hky (fun j hj => by cases hj; exact Nat.le_refl _)
  have HM3 := Lib.hid (DB.of_all (h' := wk4) Dh.zero_ok.s6 HI3.out.ok.s6 hby)
  have HJ3 := Lib.hid (HI3.out.nil hk)
  have HC3 := Lib.hid (HB3.out.then hk)
  obtain ⟨g3, hg3⟩ : ∃ g, wb3.heap.size = g := ⟨_, rfl⟩
  rw [hg3] at HM3 ⊢
  have T1 := Lib.hid (HM0.out.kept (HR3.out.then hk) (fun hf => hf))
  have T2 := Lib.hid (HJ0.out.nil (HR3.out.then hk))
  clear HM0 HJ0
  have HM0 := T1
  have HJ0 := T2
  clear T1 T2
  have T1 := Lib.hid (HM1.out.kept (HR3.out.then hk) (fun hf => hf))
  have T2 := Lib.hid (HJ1.out.nil (HR3.out.then hk))
  clear HM1 HJ1
  have HM1 := T1
  have HJ1 := T2
  clear T1 T2
  have T1 := Lib.hid (HM2.out.kept (HR3.out.then hk) (fun hf => hf))
  have T2 := Lib.hid (HJ2.out.nil (HR3.out.then hk))
  clear HM2 HJ2
  have HM2 := T1
  have HJ2 := T2
  clear T1 T2
  clear hk hkx hky hbx hby hg3 HI3 HB3 HR3 HC2
  obtain ⟨Ao, no, co, rfl, ho⟩ := HJ1.out.o
  have hn0 : no = 0 := ho.len.symm
  subst hn0
  have q1 := HM1.out.co HJ1.out.ok.s6
  clear ho
  go_wp2_with (first | (refine wpList_ld rfl _ _ rfl g2 0 rfl (dcs wk3 vo2 vb2) HM2.out.all _ Try.underlying33 rfl (infDh _ HJ2.out.ok.s6 _ _) ?_; simp only [Act.put, List.setIfInBounds_toArray, List.set_cons_succ, List.set_cons_zero]) | fail)
  refine (type_yes _ wk3 vo2 vb2 _ HJ2.out (by decide)).mono ?_
  rintro e wd ⟨rfl, hk⟩
  rw [wk_t3]
  have HM4 := Lib.hid (HM3.out.kept hk (fun hf => hf))
  have HJ4 := Lib.hid (HJ3.out.nil hk)
  have HD := Lib.hid (HC3.out.then hk)
  clear hk HM3 HJ3 HC3
  go_wp2_with (first | (refine wpList_ld rfl _ _ rfl g3 0 rfl (dcs wk4 vo3 vb3) HM4.out.all _ Try.underlying33 rfl (infDh _ HJ4.out.ok.s6 _ _) ?_; simp only [Act.put, List.setIfInBounds_toArray, List.set_cons_succ, List.set_cons_zero]) | fail)
  refine (type_yes _ wk4 vo3 vb3 _ HJ4.out (by decide)).mono ?_
  rintro e we ⟨rfl, hk⟩
  rw [wk_t4]
  have HE := Lib.hid (HD.out.then hk)
  clear hk
  go_wp2
  go_ret
  exact ⟨rfl, HE.out⟩
end Go.Proofs.Ythjfeanmgaidcaa
