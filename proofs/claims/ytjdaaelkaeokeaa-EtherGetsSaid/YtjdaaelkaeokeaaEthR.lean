/- tollref04.Get: contract. -/
import Derived.Test.YtjdaaelkaeokeaaEthRa
import Derived.Test.YtjdaaelkaeokeaaTagF
import Derived.Test.YtjdaaelkaeokeaaTail
namespace Go.Proofs.Ytjdaaelkaeokeaa
open Go.RowKit Go.Sort
set_option linter.unusedVariables false
theorem readGo_len (f : Nat) : ∀ (ts : List Tg) (b : List UInt8), (readGo f ts b).1.length ≤ ts.length + f := by
  induction f with
  | zero => intro ts b; exact Nat.le_refl _
  | succ f ih =>
    intro ts b
    unfold readGo
    split
    · split
      · simp
      · refine Nat.le_trans (ih _ _) ?_
        simp
        omega
    · simp only; omega
theorem readM_len (b : List UInt8) : (readM b).1.length ≤ 1000 := by
  have := readGo_len 2 [] b
  unfold readM
  simp only [List.length_nil] at this
  omega
set_option maxRecDepth 100000 in
set_option maxHeartbeats 16000000 in
theorem rget_yes (A : Option Addr) (n c : Nat) (l : List UInt8) (w : World) (h : Byt w A n c l) (hn : n ≤ 1000000) :
    Calls Try.prog 18 #[.slice A n c] w fun e w' => ∃ vt vb vr, e = .returned (.tuple #[frv (getM l).1 vt vb vr, .int .i64 (getM l).2.2]) ∧ FrRd w' (getM l).1 vt vb vr ∧ Kept Nil w w' := by
  have hF2 := FB.new w 32 Fr.zero nilv nilv nilv
  have hk0 := (Kept.refl Nil w).alloc (.cells (fcs Fr.zero nilv nilv nilv).toArray 32)
  have hb := h.kept hk0 (fun _ _ hf => hf)
  have HLN := Lib.hid h.1
  have HF2 := Lib.hid hF2
  have HK0 := Lib.hid hk0
  have HB := Lib.hid hb
  have hnc := h.2.1
  have HBLT := Lib.hid h.lt
  clear hF2 hk0 hb h
  by_cases c1 : 65535 < n
  · have HG := Lib.hid (show getM l = (Fr.zero, [], 3) by unfold getM; rw [if_pos (by rw [HLN.out]; exact c1)])
    have c1' : (65535 : Int) < (n : Int) := by omega
    go_enter Try.func18, Try.ntmps18
    go_wp2_with (refine wpList_st rfl _ _ _ rfl _ 0 rfl (fcs Fr.zero nilv nilv nilv) _ rfl rfl infR 32 _ HF2.out (by rw [fcs_len Fr.zero_six]; omega) (fcs_one rfl rfl rfl) ?_; intro wz hbz hkz hzz)
    have hfz := FB.of_all (f' := Fr.zero) Fr.zero_six Fr.zero_six hbz
    refine bodyPost_ret (res_cell1 Try.results18 rfl rfl hfz.all Try.underlying32 rfl infR) rfl ?_
    rw [HG.out]
    exact ⟨nilv, nilv, nilv, rfl, FrRd.zero _, HK0.out.fresh hkz (fun i hi => by cases hi; exact Nat.le_refl _)⟩
  have c1' : ¬ (65535 : Int) < (n : Int) := by omega
  by_cases c2 : n < 12
  · have HG := Lib.hid (show getM l = (Fr.zero, [], 4) by unfold getM; rw [if_neg (by rw [HLN.out]; exact c1), if_pos (by rw [HLN.out]; exact c2)])
    have c2' : (n : Int) < 12 := by omega
    go_enter Try.func18, Try.ntmps18
    go_wp2_with (refine wpList_st rfl _ _ _ rfl _ 0 rfl (fcs Fr.zero nilv nilv nilv) _ rfl rfl infR 32 _ HF2.out (by rw [fcs_len Fr.zero_six]; omega) (fcs_one rfl rfl rfl) ?_; intro wz hbz hkz hzz)
    have hfz := FB.of_all (f' := Fr.zero) Fr.zero_six Fr.zero_six hbz
    refine bodyPost_ret (res_cell1 Try.results18 rfl rfl hfz.all Try.underlying32 rfl infR) rfl ?_
    rw [HG.out]
    exact ⟨nilv, nilv, nilv, rfl, FrRd.zero _, HK0.out.fresh hkz (fun i hi => by cases hi; exact Nat.le_refl _)⟩
  have c2' : ¬ (n : Int) < 12 := by omega
  have hsl := run_cut_lo (P := Try.prog) Try.underlying26 inf5.1 inf5.2 A n c 12 (12 : Int) rfl (by omega)
  have hb12 := HB.out.cut (lo := 12) (hi := n) (by omega) (Nat.le_refl _)
  rw [List.take_of_length_le (by rw [HLN.out]; exact Nat.le_refl _)] at hb12
  obtain ⟨A2, hA2⟩ : ∃ A2, cutA A c 12 = A2 := ⟨_, rfl⟩
  obtain ⟨n2, hn2⟩ : ∃ n2, n - 12 = n2 := ⟨_, rfl⟩
  obtain ⟨cc2, hc2⟩ : ∃ c2, c - 12 = c2 := ⟨_, rfl⟩
  rw [hA2, hn2, hc2] at hsl hb12
  have HB12 := Lib.hid hb12
  have HBL := Lib.hid (show ∀ i, Lies A2 n2 i → i < w.heap.size from fun i hi => by
    rw [← hA2, ← hn2] at hi
    obtain ⟨h1, ad, e1, e2⟩ := Lies.cut i hi
    exact HBLT.out i ⟨by omega, ad, e1, e2⟩)
  have HGG := Lib.hid (show getM l = if (readM (l.drop 12)).2.2 ≠ 0 then (Fr.zero, [], (readM (l.drop 12)).2.2) else if (carM (readM (l.drop 12)).2.1).2 ≠ 0 then (Fr.zero, [], (carM (readM (l.drop 12)).2.1).2) else ({ (carM (readM (l.drop 12)).2.1).1 with d := l.take 6, s := (l.drop 6).take 6, t := (readM (l.drop 12)).1 }, l.drop 12, 0) by
    conv => lhs; unfold getM
    rw [if_neg (by rw [HLN.out]; exact c1), if_neg (by rw [HLN.out]; exact c2)])
  have HN := Lib.hid (And.intro hn (And.intro c1 c2))
  have HC := Lib.hid hnc
  clear hb12 hA2 hn2 hc2 c1 c2 hn hnc
  go_enter Try.func18, Try.ntmps18
  go_wp2_with (fail)
  refine (rread_yes A2 n2 cc2 (l.drop 12) _ HB12.out).mono ?_
  rintro e w2 ⟨v1, v2, rfl, hm⟩
  have hrl := readM_len (l.drop 12)
  generalize hR : readM (l.drop 12) = R at *
  obtain ⟨ts, r, e3⟩ := R
  have HTS0 := Lib.hid hrl
  clear hrl hR
  have hgg := HGG.out
  simp only at hm hgg HTS0 ⊢
  have HG2 := Lib.hid hgg
  clear hgg HGG
  obtain ⟨At, ct, rfl⟩ := own_form hm.tags
  obtain ⟨Ar, m, cr, rfl, hbr⟩ := hm.rest
  obtain ⟨At', ct', e1, htt, htl⟩ := Tags.of_own hm.tags hm.ok
  cases e1
  have HT := Lib.hid htt
  have HR := Lib.hid hbr
  have HB2 := Lib.hid (HB.out.kept hm.kept (fun _ _ hf => hf))
  have HF22 := Lib.hid (HF2.out.kept hm.kept (fun hf => hf))
  have HK2 := Lib.hid (HK0.out.then hm.kept)
  have hmc := hbr.2.1
  have HFR := Lib.hid (show ∀ i, Lies Ar m i → i < w.heap.size from fun i hi => by
    have h1 := hm.far _ _ _ rfl i hi
    exact HBL.out i h1)
  have htl' : ∀ i, Lies At ts.length i → w.heap.size + 1 ≤ i := fun i hi => by have := htl i hi; simpa using this
  have HTSL := Lib.hid (show ts.length ≤ 1000 from HTS0.out)
  clear hm hbr htt htl HF2 HK0 HB HB12 hsl c1' c2'
  by_cases c3 : e3 = 0
  · subst c3
    by_cases c4 : m < 2
    · have HG := Lib.hid (show getM l = (Fr.zero, [], 4) by
        rw [HG2.out, if_neg (by simp)]
        have : carM r = (Fr.zero, 4) := by unfold carM; rw [if_pos (by rw [HR.out.1]; exact c4)]
        rw [this]
        simp)
      have c4' : (m : Int) < 2 := by omega
      go_wp2_with (refine wpList_st rfl _ _ _ rfl _ 0 rfl (fcs Fr.zero nilv nilv nilv) _ rfl rfl infR 32 _ HF22.out (by rw [fcs_len Fr.zero_six]; omega) (fcs_one rfl rfl rfl) ?_; intro wz hbz hkz hzz)
      have hfz := FB.of_all (f' := Fr.zero) Fr.zero_six Fr.zero_six hbz
      refine bodyPost_ret (res_cell1 Try.results18 rfl rfl hfz.all Try.underlying32 rfl infR) rfl ?_
      rw [HG.out]
      exact ⟨nilv, nilv, nilv, rfl, FrRd.zero _, HK2.out.fresh hkz (fun i hi => by cases hi; exact Nat.le_refl _)⟩
    · have c4' : ¬ (m : Int) < 2 := by omega
      obtain ⟨tn, htn⟩ : ∃ tn, ts.length = tn := ⟨_, rfl⟩
      rw [htn] at HT htl' ⊢
      have HTN := Lib.hid htn.symm
      have HTL := Lib.hid htl'
      clear htn htl'
      have HFN := Lib.hid (FB.new w2 32 Fr.zero nilv nilv nilv)
      go_upto_region 11 with (refine wpList_st rfl _ (.tmp 7) _ rfl _ 0 rfl (fcs Fr.zero (.slice At tn ct) nilv nilv) _ rfl rfl infR 32 _ HFN.out (by rw [fcs_len Fr.zero_six, fcs_len Fr.zero_six]; omega) (fcs_one rfl rfl rfl) ?_; intro w3 hb3 hk3 hz3)
      have hk23 := ((Kept.refl Nil w2).alloc (.cells (fcs Fr.zero nilv nilv nilv).toArray 32)).fresh hk3 (fun i hi => by cases hi; exact Nat.le_refl _)
      obtain ⟨bb, ob, rfl, -⟩ := HB2.out.2.2.2 (by have := HN.out.2.2; omega)
      have HF3 := Lib.hid (show FB w3 w2.heap.size 32 (rF (upto 6 0 l) (upto 6 0 (l.drop 6)) 0 0 z3 z3) (.slice At tn ct) nilv nilv from FB.of_all (f' := Fr.zero) Fr.zero_six Fr.zero_six hb3)
      have HF23 := Lib.hid (HF22.out.kept hk23 (fun hf => hf))
      have HT3 := Lib.hid (HT.out.kept hk23 (fun _ _ hf => hf))
      have HB3 := Lib.hid (HB2.out.kept hk23 (fun _ _ hf => hf))
      have HR3 := Lib.hid (HR.out.kept hk23 (fun _ _ hf => hf))
      have HK3 := Lib.hid (HK2.out.then hk23)
      have NET := Lib.hid (show ∀ i, Lies At tn i → i ≠ w2.heap.size from fun i hi => by have := HT.out.lt i hi; omega)
      have NEB := Lib.hid (show ∀ i, Lies (some ⟨bb, ob, none⟩) n i → i ≠ w2.heap.size from fun i hi => by have := HB2.out.lt i hi; omega)
      have NER := Lib.hid (show ∀ i, Lies Ar m i → i ≠ w2.heap.size from fun i hi => by have := HR.out.lt i hi; omega)
      have FARR := Lib.hid (show ∀ i, Lies Ar m i → i ≠ w.heap.size from fun i hi => by have := HFR.out i hi; omega)
      have FART := Lib.hid (show ∀ i, Lies At tn i → i ≠ w.heap.size from fun i hi => by have := HTL.out i hi; omega)
      have NE2 := Lib.hid (show w.heap.size ≠ w2.heap.size from by have := HF22.out.lt; omega)
      have HLW := Lib.hid (show w.heap.size ≤ w2.heap.size from HK2.out.size)
      obtain ⟨g7, hg7⟩ : ∃ g, w2.heap.size = g := ⟨_, rfl⟩
      rw [hg7] at HF3 NET NEB NER NE2 HLW ⊢
      clear hk23 hk3 hb3 hz3 HFN HF22 HT HB2 HR HK2 hg7
      go_wp2_with (fail)
      go_loopw [8] (fun i wr => ∃ q : Nat, q ≤ 6 ∧ i = .int .i64 (q : Int) ∧ Hid (FB wr g7 32 (rF (upto 6 q l) (upto 6 q (l.drop 6)) 0 0 z3 z3) (.slice At tn ct) nilv nilv) ∧ Hid (FB wr w.heap.size 32 Fr.zero nilv nilv nilv) ∧ Hid (Tags wr At tn ct ts) ∧ Hid (Byt wr (some ⟨bb, ob, none⟩) n c l) ∧ Hid (Byt wr Ar m cr r) ∧ Hid (Kept Nil w wr)) (fun i _ => 6 - (intOf i).toNat)
      case atStart => exact ⟨0, by omega, rfl, HF3, HF23, HT3, HB3, HR3, HK3⟩
      case round =>
        obtain ⟨q, hq, rfl, HF, HZ, HT, HB, HR, HK⟩ := hrel
        clear HF3 HF23 HT3 HB3 HR3 HK3
        by_cases hlt : q < 6
        · have hn6 : q + 6 < n := by have := HN.out.2.2; omega
          have hq1 : q < l.length := by rw [HLN.out]; omega
          have hq2 : q < (l.drop 6).length := by rw [List.length_drop, HLN.out]; omega
          obtain ⟨x, hx⟩ : ∃ x, l[q] = x := ⟨_, rfl⟩
          obtain ⟨y, hy⟩ : ∃ y, (l.drop 6)[q] = y := ⟨_, rfl⟩
          have hx? : l[q]? = some x := by rw [List.getElem?_eq_getElem hq1, hx]
          have hy? : l[6 + q]? = some y := by rw [← List.getElem?_drop, List.getElem?_eq_getElem hq2, hy]
          have cx := byt_ge HB.out q x hx?
          have HX := Lib.hid (And.intro hx? hy?)
          have hu1 := upto_set 6 q l hq1 hlt
          have hu2 := upto_set 6 q (l.drop 6) hq2 hlt
          rw [hx] at hu1
          rw [hy] at hu2
          have HU := Lib.hid (And.intro hu1 hu2)
          have S6 := Lib.hid (show (rF (upto 6 q l) (upto 6 q (l.drop 6)) 0 0 z3 z3).six from ⟨upto_len 6 q l (by omega) (by omega), upto_len 6 q (l.drop 6) (by omega) (by omega), rfl, rfl⟩)
          have S7 := Lib.hid (show (rF (upto 6 (q + 1) l) (upto 6 q (l.drop 6)) 0 0 z3 z3).six from ⟨upto_len 6 (q + 1) l (by omega) (by omega), upto_len 6 q (l.drop 6) (by omega) (by omega), rfl, rfl⟩)
          clear hx hy hx? hy? hu1 hu2
          go_wp2_with (first
            | (refine wpList_st rfl _ _ _ rfl g7 q rfl [.int .u8 (x.toNat : Int)] _ rfl rfl infU 32 _ HF.out (by rw [fcs_len S6.out, List.length_singleton]; omega) (by intro u hu; simp at hu; subst hu; rfl) ?_; intro w4 hb4 hk4 hz4; have HF4 := Lib.hid (show FB w4 g7 32 (rF (upto 6 (q + 1) l) (upto 6 q (l.drop 6)) 0 0 z3 z3) (.slice At tn ct) nilv nilv from by rw [← HU.out.1]; exact FB.set_dq q x hlt S6.out hb4); have HZ4 := Lib.hid (HZ.out.kept hk4 (fun hf => NE2.out hf)); have HT4 := Lib.hid (HT.out.kept hk4 (fun i hi hf => NET.out i hi hf)); have HB4 := Lib.hid (HB.out.kept hk4 (fun i hi hf => NEB.out i hi hf)); have HR4 := Lib.hid (HR.out.kept hk4 (fun i hi hf => NER.out i hi hf)); have HK4 := Lib.hid (HK.out.fresh hk4 (fun i hi => by cases hi; exact HLW.out)); have cy := byt_ge HB4.out (6 + q) y HX.out.2; clear hb4 hk4 hz4 HF HZ HT HB HR HK)
            | (refine wpList_st rfl _ _ _ rfl g7 (6 + q) rfl [.int .u8 (y.toNat : Int)] _ rfl rfl infU 32 _ HF4.out (by rw [fcs_len S7.out, List.length_singleton]; omega) (by intro u hu; simp at hu; subst hu; rfl) ?_; intro w5 hb5 hk5 hz5))
          have HF5 := Lib.hid (show FB w5 g7 32 (rF (upto 6 (q + 1) l) (upto 6 (q + 1) (l.drop 6)) 0 0 z3 z3) (.slice At tn ct) nilv nilv from by rw [← HU.out.2]; exact FB.set_sq q y hlt S7.out hb5)
          have HZ5 := Lib.hid (HZ4.out.kept hk5 (fun hf => NE2.out hf))
          have HT5 := Lib.hid (HT4.out.kept hk5 (fun i hi hf => NET.out i hi hf))
          have HB5 := Lib.hid (HB4.out.kept hk5 (fun i hi hf => NEB.out i hi hf))
          have HR5 := Lib.hid (HR4.out.kept hk5 (fun i hi hf => NER.out i hi hf))
          have HK5 := Lib.hid (HK4.out.fresh hk5 (fun i hi => by cases hi; exact HLW.out))
          clear hb5 hk5 hz5 HF4 HZ4 HT4 HB4 HR4 HK4 cx cy
          go_wp2
          go_roundw
          case rel => exact ⟨q + 1, by omega, by go_num, HF5, HZ5, HT5, HB5, HR5, HK5⟩
          case measure => simp [intOf]; omega
        · obtain rfl : q = 6 := by omega
          have hfl := HF.out
          rw [upto_all, upto_all] at hfl
          have hml := HR.out.1
          obtain ⟨p, q', rr, rfl⟩ := two_of r (by omega)
          obtain ⟨br, orr, rfl, -⟩ := HR.out.2.2.2 (by omega)
          have cp := fun d os => byt_ge (HR.out.kept (kept_grown' wr d os) (fun _ _ hf => hf)) 0 p rfl
          have cq := fun d os => byt_ge (HR.out.kept (kept_grown' wr d os) (fun _ _ hf => hf)) 1 q' rfl
          simp only [Nat.add_zero] at cp
          obtain ⟨N, hN⟩ : ∃ N : Nat, p.toNat * 256 + q'.toNat = N := ⟨_, rfl⟩
          have hNb : N < 65536 := by have := p.toNat_lt; have := q'.toNat_lt; omega
          obtain ⟨wp1, wp2, wp3, wp4, wp5⟩ := wrap_pq p q' N hN
          have h0m : 0 < m := by omega
          have h1m : 1 < m := by omega
          have HCM := Lib.hid (car_pq p q' rr N hN)
          have HD := Lib.hid (show (l.take 6).length = 6 by rw [List.length_take, HLN.out]; have := HN.out.2.2; omega)
          have HS := Lib.hid (show ((l.drop 6).take 6).length = 6 by rw [List.length_take, List.length_drop, HLN.out]; have := HN.out.2.2; omega)
          have hsl2 := run_cut_lo (P := Try.prog) Try.underlying26 inf5.1 inf5.2 (some ⟨br, orr, none⟩) m cr 2 (2 : Int) rfl (by omega)
          have hr2 := HR.out.cut (lo := 2) (hi := m) (by omega) (Nat.le_refl _)
          rw [List.take_of_length_le (by rw [hml]; exact Nat.le_refl _), show (p :: q' :: rr).drop 2 = rr from rfl] at hr2
          have hnl : ∀ i, Lies (cutA (some ⟨br, orr, none⟩) cr 2) (m - 2) i → i ≠ g7 ∧ i ≠ w.heap.size := by
            intro i hi
            obtain ⟨h1, ad, e1, e2⟩ := Lies.cut i hi
            have hl : Lies (some ⟨br, orr, none⟩) m i := ⟨by omega, ad, e1, e2⟩
            exact ⟨NER.out i hl, FARR.out i hl⟩
          obtain ⟨A3, hA3⟩ : ∃ A3, cutA (some (⟨br, orr, none⟩ : Addr)) cr 2 = A3 := ⟨_, rfl⟩
          obtain ⟨m3, hm3⟩ : ∃ m3, m - 2 = m3 := ⟨_, rfl⟩
          obtain ⟨c3, hc3⟩ : ∃ c3, cr - 2 = c3 := ⟨_, rfl⟩
          rw [hA3, hm3, hc3] at hsl2
          rw [hA3, hm3, hc3] at hr2
          rw [hA3, hm3] at hnl
          have hx : RI w g7 At tn ct ts A3 m3 c3 rr (rF (l.take 6) ((l.drop 6).take 6) 0 0 z3 z3) nilv nilv wr := ⟨hfl, HZ.out, HT.out, hr2, HK.out, fun i hi => ⟨NET.out i hi, FART.out i hi⟩, hnl, NE2.out, HLW.out⟩
          have HX0 := Lib.hid hx
          have HM3 := Lib.hid (show rr.length = m3 ∧ m3 ≤ c3 ∧ c3 ≤ 9223372036854775807 from ⟨hr2.1, hr2.2.1, hr2.2.2.1⟩)
          clear hfl hr2 hnl hA3 hm3 hc3 hx hml HF HZ HT HB HR HK
          go_upto_region 16 with (fail)
          refine wp_region_quiet_below (by kernel_rfl) (by kernel_rfl) ?_
          repeat (go_big_quiet_step (fail))
          refine wpQuiet_nil ?_
          rintro w6 ⟨nq, hw⟩
          have HX := Lib.hid (HX0.out.kept (show Kept Nil wr w6 by rw [hw]; exact kept_grown _ _))
          clear hw HX0 cp cq wp1 wp2 wp3 wp4 wp5 h0m h1m hN
          have hg2 := HG2.out
          rw [if_neg (by simp), HCM.out] at hg2
          by_cases k1 : 1536 ≤ N
          · rw [if_pos k1] at hg2
            have HG := Lib.hid (show getM l = (((rF (l.take 6) ((l.drop 6).take 6) 1 (N : Int) z3 z3) : Fr).1 |> fun _ => (⟨l.take 6, (l.drop 6).take 6, ts, 1, (N : Int), z3, z3, rr, []⟩ : Fr), l.drop 12, 0) by rw [hg2]; rfl)
            have k1' : (1536 : Int) ≤ (N : Int) := by omega
            clear hg2
            go_upto_region 22 with (first
              | (refine wpList_st rfl _ _ _ rfl g7 13 rfl [.int .i64 1] _ rfl rfl infI 32 _ HX.out.fb (by rw [fcs_len ⟨HD.out, HS.out, rfl, rfl⟩, List.length_singleton]; omega) (by intro u hu; simp at hu; subst hu; rfl) ?_; intro wn hbn hkn hzn; have HX1 := Lib.hid (HX.out.st hkn (show FB wn g7 32 (rF (l.take 6) ((l.drop 6).take 6) 1 0 z3 z3) (.slice At tn ct) nilv nilv from FB.set_m (.slice At tn ct) 1 0 ⟨HD.out, HS.out, rfl, rfl⟩ (.inr (.inl ⟨rfl, rfl, rfl, rfl⟩)) hbn)); clear hbn hkn hzn)
              | (refine wpList_st rfl _ _ _ rfl g7 14 rfl [.int .i64 (N : Int)] _ rfl rfl infI 32 _ HX1.out.fb (by rw [fcs_len ⟨HD.out, HS.out, rfl, rfl⟩, List.length_singleton]; omega) (by intro u hu; simp at hu; subst hu; rfl) ?_; intro wn hbn hkn hzn; have HX2 := Lib.hid (HX1.out.st hkn (show FB wn g7 32 (rF (l.take 6) ((l.drop 6).take 6) 1 (N : Int) z3 z3) (.slice At tn ct) nilv nilv from FB.set_m (.slice At tn ct) 1 (N : Int) ⟨HD.out, HS.out, rfl, rfl⟩ (.inr (.inr ⟨rfl, rfl, rfl, rfl⟩)) hbn)); clear hbn hkn hzn)
              | (refine wpList_st rfl _ _ _ rfl g7 21 rfl [.slice A3 m3 c3] _ rfl rfl infSb 32 _ HX2.out.fb (by rw [fcs_len ⟨HD.out, HS.out, rfl, rfl⟩, List.length_singleton]; omega) (by intro u hu; simp at hu; subst hu; rfl) ?_; intro wn hbn hkn hzn; have HX3 := Lib.hid (HX2.out.st hkn (show FB wn g7 32 (rF (l.take 6) ((l.drop 6).take 6) 1 (N : Int) z3 z3) (.slice At tn ct) (.slice A3 m3 c3) nilv from FB.set_e (.slice A3 m3 c3) nilv ⟨HD.out, HS.out, rfl, rfl⟩ (.inl ⟨rfl, rfl, rfl⟩) hbn)); clear hbn hkn hzn))
            go_wp2_with (first
              | (refine wpList_ld rfl _ (.tmp 7) rfl _ 0 rfl _ HX3.out.fb.all _ Try.underlying32 rfl (by rw [fcs_len ⟨HD.out, HS.out, rfl, rfl⟩]; exact infR) ?_)
              | (refine wpList_st rfl _ (.tmp 2) _ rfl _ 0 rfl (fcs (rF (l.take 6) ((l.drop 6).take 6) 1 (N : Int) z3 z3) (.slice At tn ct) (.slice A3 m3 c3) nilv) _ rfl rfl (by rw [fcs_len ⟨HD.out, HS.out, rfl, rfl⟩]; exact infR) 32 _ HX3.out.fz (by rw [fcs_len Fr.zero_six, fcs_len ⟨HD.out, HS.out, rfl, rfl⟩]; omega) (fcs_one rfl rfl rfl) ?_; intro wz hbz hkz hzz))
            have hfz := FB.of_all (f' := (rF (l.take 6) ((l.drop 6).take 6) 1 (N : Int) z3 z3)) Fr.zero_six ⟨HD.out, HS.out, rfl, rfl⟩ hbz
            refine bodyPost_ret (res_cell1 Try.results18 rfl rfl hfz.all Try.underlying32 rfl (by rw [fcs_len ⟨HD.out, HS.out, rfl, rfl⟩]; exact infR)) rfl ?_
            rw [HG.out]
            have hd := HX3.out.done hkz ⟨HD.out, HS.out, rfl, rfl⟩ rr [] HTSL.out HTN.out (.inr ⟨_, _, _, rfl, HX3.out.rb, fun i hi => (HX3.out.n2 i hi).2⟩) (.inl ⟨rfl, rfl⟩)
            exact ⟨_, _, _, rfl, hd.1, hd.2⟩
          · rw [if_neg k1] at hg2
            have k1' : ¬ (1536 : Int) ≤ (N : Int) := by omega
            by_cases k2 : 1500 < N
            · rw [if_pos k2] at hg2
              have HG := Lib.hid (show getM l = (Fr.zero, [], 5) by rw [hg2]; simp)
              have k2' : (1500 : Int) < (N : Int) := by omega
              clear hg2
              go_wp2_with (refine wpList_st rfl _ _ _ rfl _ 0 rfl (fcs Fr.zero nilv nilv nilv) _ rfl rfl infR 32 _ HX.out.fz (by rw [fcs_len Fr.zero_six]; omega) (fcs_one rfl rfl rfl) ?_; intro wz hbz hkz hzz)
              have hfz := FB.of_all (f' := Fr.zero) Fr.zero_six Fr.zero_six hbz
              refine bodyPost_ret (res_cell1 Try.results18 rfl rfl hfz.all Try.underlying32 rfl infR) rfl ?_
              rw [HG.out]
              exact ⟨nilv, nilv, nilv, rfl, FrRd.zero _, HX.out.kk.fresh hkz (fun i hi => by cases hi; exact Nat.le_refl _)⟩
            · rw [if_neg k2] at hg2
              have k2' : ¬ (1500 : Int) < (N : Int) := by omega
              by_cases k3 : m3 < N
              · rw [if_pos (show rr.length < N by rw [HM3.out.1]; exact k3)] at hg2
                have HG := Lib.hid (show getM l = (Fr.zero, [], 4) by rw [hg2]; simp)
                have k3' : (m3 : Int) < (N : Int) := by omega
                clear hg2
                go_wp2_with (refine wpList_st rfl _ _ _ rfl _ 0 rfl (fcs Fr.zero nilv nilv nilv) _ rfl rfl infR 32 _ HX.out.fz (by rw [fcs_len Fr.zero_six]; omega) (fcs_one rfl rfl rfl) ?_; intro wz hbz hkz hzz)
                have hfz := FB.of_all (f' := Fr.zero) Fr.zero_six Fr.zero_six hbz
                refine bodyPost_ret (res_cell1 Try.results18 rfl rfl hfz.all Try.underlying32 rfl infR) rfl ?_
                rw [HG.out]
                exact ⟨nilv, nilv, nilv, rfl, FrRd.zero _, HX.out.kk.fresh hkz (fun i hi => by cases hi; exact Nat.le_refl _)⟩
              · rw [if_neg (show ¬ rr.length < N by rw [HM3.out.1]; exact k3)] at hg2
                have k3' : ¬ (m3 : Int) < (N : Int) := by omega
                by_cases k4 : N < 3
                · have hll : llcM (rr.take N) (rr.drop N) = (Fr.zero, 5) := by unfold llcM; rw [if_pos (by rw [List.length_take]; omega)]
                  have HG := Lib.hid (show getM l = (Fr.zero, [], 5) by rw [hg2, hll]; simp)
                  have k4' : (N : Int) < 3 := by omega
                  clear hg2 hll
                  go_wp2_with (refine wpList_st rfl _ _ _ rfl _ 0 rfl (fcs Fr.zero nilv nilv nilv) _ rfl rfl infR 32 _ HX.out.fz (by rw [fcs_len Fr.zero_six]; omega) (fcs_one rfl rfl rfl) ?_; intro wz hbz hkz hzz)
                  have hfz := FB.of_all (f' := Fr.zero) Fr.zero_six Fr.zero_six hbz
                  refine bodyPost_ret (res_cell1 Try.results18 rfl rfl hfz.all Try.underlying32 rfl infR) rfl ?_
                  rw [HG.out]
                  exact ⟨nilv, nilv, nilv, rfl, FrRd.zero _, HX.out.kk.fresh hkz (fun i hi => by cases hi; exact Nat.le_refl _)⟩
                · have k4' : ¬ (N : Int) < 3 := by omega
                  have HK4 := Lib.hid (And.intro k1 (And.intro k2 (And.intro k3 k4)))
                  have HG3 := Lib.hid hg2
                  clear hg2 k1 k2 k3 k4
                  have hm := HM3.out
                  have hk4 := HK4.out
                  obtain ⟨b3, o3, rfl, -⟩ := HX.out.rb.2.2.2 (by omega)
                  have HLL := Lib.hid (show (rr.take 3).length = 3 by rw [List.length_take]; omega)
                  have HOO := Lib.hid (show N < 8 ∨ ((rr.drop 3).take 3).length = 3 by
                    by_cases h8 : N < 8
                    · exact .inl h8
                    · exact .inr (by rw [List.length_take, List.length_drop]; omega))
                  go_wp2_with (refine wpList_st rfl _ _ _ rfl g7 13 rfl [.int .i64 2] _ rfl rfl infI 32 _ HX.out.fb (by rw [fcs_len ⟨HD.out, HS.out, rfl, rfl⟩, List.length_singleton]; omega) (by intro u hu; simp at hu; subst hu; rfl) ?_; intro wn hbn hkn hzn; have HXk := Lib.hid (HX.out.st hkn (show FB wn g7 32 (rF (l.take 6) ((l.drop 6).take 6) 2 0 (upto 3 0 rr) z3) (.slice At tn ct) nilv nilv from FB.set_m (.slice At tn ct) 2 0 ⟨HD.out, HS.out, rfl, rfl⟩ (.inr (.inl ⟨rfl, rfl, rfl, rfl⟩)) hbn)); clear hbn hkn hzn)
                  go_loopw [10] (fun i wr => ∃ q : Nat, q ≤ 3 ∧ i = .int .i64 (q : Int) ∧ Hid (RI w g7 At tn ct ts (some ⟨b3, o3, none⟩) m3 c3 rr (rF (l.take 6) ((l.drop 6).take 6) 2 0 (upto 3 q rr) z3) nilv nilv wr)) (fun i _ => 3 - (intOf i).toNat)
                  case atStart => exact ⟨0, by omega, rfl, HXk⟩
                  case round =>
                    obtain ⟨q, hq, rfl, HL⟩ := hrel
                    clear HXk
                    by_cases hlt : q < 3
                    · have hq1 : q < rr.length := by omega
                      have hqm : q < m3 := by omega
                      obtain ⟨x, hx⟩ : ∃ x, rr[q] = x := ⟨_, rfl⟩
                      have hx? : rr[q]? = some x := by rw [List.getElem?_eq_getElem hq1, hx]
                      have cx := byt_ge HL.out.rb q x hx?
                      have hu := upto_set 3 q rr hq1 hlt
                      rw [hx] at hu
                      have HU := Lib.hid hu
                      have S6 := Lib.hid (show (rF (l.take 6) ((l.drop 6).take 6) 2 0 (upto 3 q rr) z3).six from ⟨HD.out, HS.out, upto_len 3 q rr (by omega) (by omega), rfl⟩)
                      clear hx hx? hu
                      go_wp2_with (refine wpList_st rfl _ _ _ rfl g7 (15 + q) rfl [.int .u8 (x.toNat : Int)] _ rfl rfl infU 32 _ HL.out.fb (by rw [fcs_len S6.out, List.length_singleton]; omega) (by intro u hu; simp at hu; subst hu; rfl) ?_; intro w7 hb7 hk7 hz7)
                      have HL2 := Lib.hid (HL.out.st hk7 (show FB w7 g7 32 (rF (l.take 6) ((l.drop 6).take 6) 2 0 (upto 3 (q + 1) rr) z3) (.slice At tn ct) nilv nilv from by rw [← HU.out]; exact FB.set_lq q x hlt S6.out hb7))
                      clear hb7 hk7 hz7 HL cx
                      go_wp2
                      go_roundw
                      case rel => exact ⟨q + 1, by omega, by go_num, HL2⟩
                      case measure => simp [intOf]; omega
                    · obtain rfl : q = 3 := by omega
                      have hfl := HL.out
                      rw [upto_all] at hfl
                      have HX4 := Lib.hid hfl
                      clear hfl HL
                      obtain ⟨A4, eA4⟩ : ∃ A, cutA (some (⟨b3, o3, none⟩ : Addr)) c3 N = A := ⟨_, rfl⟩
                      obtain ⟨n4, eN4⟩ : ∃ n, m3 - N = n := ⟨_, rfl⟩
                      obtain ⟨c4, eC4⟩ : ∃ c, c3 - N = c := ⟨_, rfl⟩
                      have hs4 := run_cut_lo (P := Try.prog) Try.underlying26 inf5.1 inf5.2 (some ⟨b3, o3, none⟩) m3 c3 N (N : Int) rfl (by omega)
                      rw [eA4, eN4, eC4] at hs4
                      have E4 := Lib.hid (And.intro eA4 (And.intro eN4 eC4))
                      clear eA4 eN4 eC4
                      go_upto_region 35 with (refine wpList_st rfl _ _ _ rfl g7 22 rfl [.slice A4 n4 c4] _ rfl rfl infSb 32 _ HX4.out.fb (by rw [fcs_len ⟨HD.out, HS.out, HLL.out, rfl⟩, List.length_singleton]; omega) (by intro u hu; simp at hu; subst hu; rfl) ?_; intro wn hbn hkn hzn; have HX5 := Lib.hid (HX4.out.st hkn (show FB wn g7 32 (rF (l.take 6) ((l.drop 6).take 6) 2 0 (rr.take 3) z3) (.slice At tn ct) nilv (.slice A4 n4 c4) from FB.set_e nilv (.slice A4 n4 c4) ⟨HD.out, HS.out, HLL.out, rfl⟩ (.inr ⟨rfl, rfl, rfl⟩) hbn)); clear hbn hkn hzn)
                      obtain ⟨a0, a1, a2, r3, hrr⟩ : ∃ a0 a1 a2 r3, rr = a0 :: a1 :: a2 :: r3 := by
                        match hR : rr, (show 3 ≤ rr.length by omega) with
                        | a0 :: a1 :: a2 :: r3, _ => exact ⟨a0, a1, a2, r3, rfl⟩
                      have c0 := byt_ge HX5.out.rb 0 a0 (by rw [hrr]; rfl)
                      have c1 := byt_ge HX5.out.rb 1 a1 (by rw [hrr]; rfl)
                      have c2 := byt_ge HX5.out.rb 2 a2 (by rw [hrr]; rfl)
                      simp only [Nat.add_zero] at c0
                      have hsn : (rr.take 3 = snapL) ↔ (a0.toNat = 170 ∧ a1.toNat = 170 ∧ a2.toNat = 3) := by
                        rw [hrr]
                        show [a0, a1, a2] = [170, 170, 3] ↔ _
                        constructor
                        · intro h
                          injection h with h1 h2
                          injection h2 with h2 h3
                          injection h3 with h3 _
                          subst h1 h2 h3
                          exact ⟨rfl, rfl, rfl⟩
                        · rintro ⟨h1, h2, h3⟩
                          rw [show a0 = 170 from UInt8.toNat_inj.1 h1, show a1 = 170 from UInt8.toNat_inj.1 h2, show a2 = 3 from UInt8.toNat_inj.1 h3]
                      obtain ⟨B, hB⟩ : ∃ B : Bool, B = !decide (a0.toNat = 170 ∧ a1.toNat = 170 ∧ a2.toNat = 3) := ⟨_, rfl⟩
                      have HSN := Lib.hid hsn
                      have HBB := Lib.hid hB
                      have h0m : 0 < m3 := by omega
                      have h1m : 1 < m3 := by omega
                      have h2m : 2 < m3 := by omega
                      obtain ⟨W8, hW8⟩ : ∃ W, W = wn := ⟨_, rfl⟩
                      clear hsn hB hrr
                      simp only [Act.put]
                      go_cut [118] from 103 to 117 (fun s wx => s = .bool B ∧ wx = W8)
                      case first =>
                        subst hW8
                        by_cases g0 : a0.toNat = 170
                        · have b0 : ((a0.toNat : Int) != 170) = false := by simp; omega
                          by_cases g1 : a1.toNat = 170
                          · have b1 : ((a1.toNat : Int) != 170) = false := by simp; omega
                            by_cases g2 : a2.toNat = 3
                            · have b2 : ((a2.toNat : Int) != 3) = false := by simp; omega
                              have HB2' := Lib.hid (show B = false by rw [HBB.out]; simp [g0, g1, g2])
                              clear g0 g1 g2
                              go_wp2_with (fail)
                              go_meet
                              exact ⟨by rw [HB2'.out], rfl⟩
                            · have b2 : ((a2.toNat : Int) != 3) = true := by simp; omega
                              have HB2' := Lib.hid (show B = true by rw [HBB.out]; simp [g0, g1, g2])
                              clear g0 g1 g2
                              go_wp2_with (fail)
                              go_meet
                              exact ⟨by rw [HB2'.out], rfl⟩
                          · have b1 : ((a1.toNat : Int) != 170) = true := by simp; omega
                            have HB2' := Lib.hid (show B = true by rw [HBB.out]; simp [g0, g1])
                            clear g0 g1
                            go_wp2_with (fail)
                            go_meet
                            exact ⟨by rw [HB2'.out], rfl⟩
                        · have b0 : ((a0.toNat : Int) != 170) = true := by simp; omega
                          have HB2' := Lib.hid (show B = true by rw [HBB.out]; simp [g0])
                          clear g0
                          go_wp2_with (fail)
                          go_meet
                          exact ⟨by rw [HB2'.out], rfl⟩
                      case rest =>
                        obtain ⟨rfl, rfl⟩ := hcut
                        subst hW8
                        clear c0 c1 c2
                        have hbb := HBB.out
                        cases B with
                        | true =>
                          have hns : rr.take 3 ≠ snapL := fun h => by
                            have := HSN.out.1 h
                            simp [this] at hbb
                          have hg3 := HG3.out
                          rw [llc_not rr N (by omega) (by omega) hns] at hg3
                          have HG := Lib.hid (show getM l = ((⟨l.take 6, (l.drop 6).take 6, ts, 2, 0, rr.take 3, z3, (rr.take N).drop 3, rr.drop N⟩ : Fr), l.drop 12, 0) by rw [hg3]; rfl)
                          clear hg3 hns hbb
                          obtain ⟨A5, eA5⟩ : ∃ A, cutA (some (⟨b3, o3, none⟩ : Addr)) c3 3 = A := ⟨_, rfl⟩
                          obtain ⟨n5, eN5⟩ : ∃ n, N - 3 = n := ⟨_, rfl⟩
                          obtain ⟨c5, eC5⟩ : ∃ c, c3 - 3 = c := ⟨_, rfl⟩
                          have hs5 := run_cut (P := Try.prog) Try.underlying26 inf5.1 inf5.2 (some ⟨b3, o3, none⟩) m3 c3 3 N (3 : Int) (N : Int) rfl rfl (by omega) (by omega)
                          rw [eA5, eN5, eC5] at hs5
                          have E5 := Lib.hid (And.intro eA5 (And.intro eN5 eC5))
                          clear eA5 eN5 eC5
                          go_upto_region 37 with (refine wpList_st rfl _ _ _ rfl g7 21 rfl [.slice A5 n5 c5] _ rfl rfl infSb 32 _ HX5.out.fb (by rw [fcs_len ⟨HD.out, HS.out, HLL.out, rfl⟩, List.length_singleton]; omega) (by intro u hu; simp at hu; subst hu; rfl) ?_; intro wn hbn hkn hzn; have HX6 := Lib.hid (HX5.out.st hkn (show FB wn g7 32 (rF (l.take 6) ((l.drop 6).take 6) 2 0 (rr.take 3) z3) (.slice At tn ct) (.slice A5 n5 c5) (.slice A4 n4 c4) from FB.set_e (.slice A5 n5 c5) (.slice A4 n4 c4) ⟨HD.out, HS.out, HLL.out, rfl⟩ (.inl ⟨rfl, rfl, rfl⟩) hbn)); clear hbn hkn hzn)
                          go_wp2_with (first
                            | (refine wpList_ld rfl _ (.tmp 7) rfl _ 0 rfl _ HX6.out.fb.all _ Try.underlying32 rfl (by rw [fcs_len ⟨HD.out, HS.out, HLL.out, rfl⟩]; exact infR) ?_)
                            | (refine wpList_st rfl _ (.tmp 2) _ rfl _ 0 rfl (fcs (rF (l.take 6) ((l.drop 6).take 6) 2 0 (rr.take 3) z3) (.slice At tn ct) (.slice A5 n5 c5) (.slice A4 n4 c4)) _ rfl rfl (by rw [fcs_len ⟨HD.out, HS.out, HLL.out, rfl⟩]; exact infR) 32 _ HX6.out.fz (by rw [fcs_len Fr.zero_six, fcs_len ⟨HD.out, HS.out, HLL.out, rfl⟩]; omega) (fcs_one rfl rfl rfl) ?_; intro wz hbz hkz hzz))
                          have hfz := FB.of_all (f' := (rF (l.take 6) ((l.drop 6).take 6) 2 0 (rr.take 3) z3)) Fr.zero_six ⟨HD.out, HS.out, HLL.out, rfl⟩ hbz
                          refine bodyPost_ret (res_cell1 Try.results18 rfl rfl hfz.all Try.underlying32 rfl (by rw [fcs_len ⟨HD.out, HS.out, HLL.out, rfl⟩]; exact infR)) rfl ?_
                          rw [HG.out]
                          have hd := HX6.out.done hkz ⟨HD.out, HS.out, HLL.out, rfl⟩ ((rr.take N).drop 3) (rr.drop N) HTSL.out HTN.out (.inr (HX6.out.part 3 N (by omega) (by omega) _ _ _ E5.out.1 E5.out.2.1 E5.out.2.2)) (.inr (by have := HX6.out.part N m3 (by omega) (Nat.le_refl _) _ _ _ E4.out.1 E4.out.2.1 E4.out.2.2; rwa [List.take_of_length_le (by omega)] at this))
                          exact ⟨_, _, _, rfl, hd.1, hd.2⟩
                        | false =>
                          have hns : rr.take 3 = snapL := HSN.out.2 (by simpa using hbb)
                          by_cases k8 : N < 8
                          · have hg3 := HG3.out
                            rw [llc_short8 rr N (by omega) k8 (by omega) hns] at hg3
                            have HG := Lib.hid (show getM l = (Fr.zero, [], 5) by rw [hg3]; simp)
                            have k8' : (N : Int) < 8 := by omega
                            clear hg3 hns hbb
                            go_wp2_with (refine wpList_st rfl _ _ _ rfl _ 0 rfl (fcs Fr.zero nilv nilv nilv) _ rfl rfl infR 32 _ HX5.out.fz (by rw [fcs_len Fr.zero_six]; omega) (fcs_one rfl rfl rfl) ?_; intro wz hbz hkz hzz)
                            have hfz := FB.of_all (f' := Fr.zero) Fr.zero_six Fr.zero_six hbz
                            refine bodyPost_ret (res_cell1 Try.results18 rfl rfl hfz.all Try.underlying32 rfl infR) rfl ?_
                            rw [HG.out]
                            exact ⟨nilv, nilv, nilv, rfl, FrRd.zero _, HX5.out.kk.fresh hkz (fun i hi => by cases hi; exact Nat.le_refl _)⟩
                          · have k8' : ¬ (N : Int) < 8 := by omega
                            obtain ⟨x6, hx6⟩ : ∃ x, rr[6]? = some x := ⟨_, List.getElem?_eq_getElem (by omega)⟩
                            obtain ⟨x7, hx7⟩ : ∃ x, rr[7]? = some x := ⟨_, List.getElem?_eq_getElem (by omega)⟩
                            obtain ⟨Y, hY⟩ : ∃ Y : Nat, x6.toNat * 256 + x7.toNat = Y := ⟨_, rfl⟩
                            have hg3 := HG3.out
                            rw [llc_snap rr N (by omega) (by omega) hns x6 x7 hx6 hx7, hY] at hg3
                            have HG := Lib.hid (show getM l = ((⟨l.take 6, (l.drop 6).take 6, ts, 3, (Y : Int), rr.take 3, (rr.drop 3).take 3, (rr.take N).drop 8, rr.drop N⟩ : Fr), l.drop 12, 0) by rw [hg3]; rfl)
                            have HO3 := Lib.hid (show ((rr.drop 3).take 3).length = 3 by rw [List.length_take, List.length_drop]; omega)
                            have HX67 := Lib.hid (And.intro hx6 (And.intro hx7 hY))
                            clear hg3 hns hbb hx6 hx7 hY
                            go_wp2_with (refine wpList_st rfl _ _ _ rfl g7 13 rfl [.int .i64 3] _ rfl rfl infI 32 _ HX5.out.fb (by rw [fcs_len ⟨HD.out, HS.out, HLL.out, rfl⟩, List.length_singleton]; omega) (by intro u hu; simp at hu; subst hu; rfl) ?_; intro wn hbn hkn hzn; have HXj := Lib.hid (HX5.out.st hkn (show FB wn g7 32 (rF (l.take 6) ((l.drop 6).take 6) 3 0 (rr.take 3) (upto 3 0 (rr.drop 3))) (.slice At tn ct) nilv (.slice A4 n4 c4) from FB.set_m (.slice At tn ct) 3 0 ⟨HD.out, HS.out, HLL.out, rfl⟩ (.inr (.inl ⟨rfl, rfl, rfl, rfl⟩)) hbn)); clear hbn hkn hzn)
                            go_loopw [11] (fun i wr => ∃ q : Nat, q ≤ 3 ∧ i = .int .i64 (q : Int) ∧ Hid (RI w g7 At tn ct ts (some ⟨b3, o3, none⟩) m3 c3 rr (rF (l.take 6) ((l.drop 6).take 6) 3 0 (rr.take 3) (upto 3 q (rr.drop 3))) nilv (.slice A4 n4 c4) wr)) (fun i _ => 3 - (intOf i).toNat)
                            case atStart => exact ⟨0, by omega, rfl, HXj⟩
                            case round =>
                              obtain ⟨q, hq, rfl, HL⟩ := hrel
                              clear HXj
                              by_cases hlt : q < 3
                              · have hq1 : q < (rr.drop 3).length := by rw [List.length_drop]; omega
                                have hqm : 3 + q < m3 := by omega
                                obtain ⟨x, hx⟩ : ∃ x, (rr.drop 3)[q] = x := ⟨_, rfl⟩
                                have hx? : rr[3 + q]? = some x := by rw [← List.getElem?_drop, List.getElem?_eq_getElem hq1, hx]
                                have cx := byt_ge HL.out.rb (3 + q) x hx?
                                have hu := upto_set 3 q (rr.drop 3) hq1 hlt
                                rw [hx] at hu
                                have HU := Lib.hid hu
                                have S6 := Lib.hid (show (rF (l.take 6) ((l.drop 6).take 6) 3 0 (rr.take 3) (upto 3 q (rr.drop 3))).six from ⟨HD.out, HS.out, HLL.out, upto_len 3 q (rr.drop 3) (by omega) (by omega)⟩)
                                clear hx hx? hu
                                go_wp2_with (refine wpList_st rfl _ _ _ rfl g7 (18 + q) rfl [.int .u8 (x.toNat : Int)] _ rfl rfl infU 32 _ HL.out.fb (by rw [fcs_len S6.out, List.length_singleton]; omega) (by intro u hu; simp at hu; subst hu; rfl) ?_; intro w7 hb7 hk7 hz7)
                                have HL2 := Lib.hid (HL.out.st hk7 (show FB w7 g7 32 (rF (l.take 6) ((l.drop 6).take 6) 3 0 (rr.take 3) (upto 3 (q + 1) (rr.drop 3))) (.slice At tn ct) nilv (.slice A4 n4 c4) from by rw [← HU.out]; exact FB.set_oq q x hlt S6.out hb7))
                                clear hb7 hk7 hz7 HL cx
                                go_wp2
                                go_roundw
                                case rel => exact ⟨q + 1, by omega, by go_num, HL2⟩
                                case measure => simp [intOf]; omega
                              · obtain rfl : q = 3 := by omega
                                have hfl := HL.out
                                rw [upto_all] at hfl
                                have HX7 := Lib.hid hfl
                                clear hfl HL
                                go_upto_region 45 with (fail)
                                have c6 := fun d os => byt_ge (HX7.out.rb.kept (kept_grown' wr d os) (fun _ _ hf => hf)) 6 x6 HX67.out.1
                                have c7 := fun d os => byt_ge (HX7.out.rb.kept (kept_grown' wr d os) (fun _ _ hf => hf)) 7 x7 HX67.out.2.1
                                have hY := HX67.out.2.2
                                obtain ⟨wp1, wp2, wp3, wp4, wp5⟩ := wrap_pq x6 x7 Y hY
                                have wpY : wrap64 (Y : Int) = (Y : Int) := wrap_Y x6 x7 Y hY
                                have h6m : 6 < m3 := by omega
                                have h7m : 7 < m3 := by omega
                                clear hY
                                refine wp_region_tail 11 (by kernel_rfl) (by kernel_rfl) ?_
                                simp only [List.take_succ_cons, List.take_zero, List.drop_succ_cons, List.drop_zero]
                                repeat (go_big_quiet_step (fail))
                                refine wpQuiet_nil ?_
                                rintro w9 ⟨nq, hw⟩
                                have HX8 := Lib.hid (HX7.out.kept (show Kept Nil wr w9 by rw [hw]; exact kept_grown _ _))
                                simp only [wpY]
                                clear hw HX7 c6 c7 wp1 wp2 wp3 wp4 wp5 wpY
                                obtain ⟨A6, eA6⟩ : ∃ A, cutA (some (⟨b3, o3, none⟩ : Addr)) c3 8 = A := ⟨_, rfl⟩
                                obtain ⟨n6, eN6⟩ : ∃ n, N - 8 = n := ⟨_, rfl⟩
                                obtain ⟨c6, eC6⟩ : ∃ c, c3 - 8 = c := ⟨_, rfl⟩
                                have hs6 := run_cut (P := Try.prog) Try.underlying26 inf5.1 inf5.2 (some ⟨b3, o3, none⟩) m3 c3 8 N (8 : Int) (N : Int) rfl rfl (by omega) (by omega)
                                rw [eA6, eN6, eC6] at hs6
                                have E6 := Lib.hid (And.intro eA6 (And.intro eN6 eC6))
                                clear eA6 eN6 eC6
                                go_upto_region 47 with (first
                                  | (refine wpList_st rfl _ _ _ rfl g7 14 rfl [.int .i64 (Y : Int)] _ rfl rfl infI 32 _ HX8.out.fb (by rw [fcs_len ⟨HD.out, HS.out, HLL.out, HO3.out⟩, List.length_singleton]; omega) (by intro u hu; simp at hu; subst hu; rfl) ?_; intro wn hbn hkn hzn; have HX9 := Lib.hid (HX8.out.st hkn (show FB wn g7 32 (rF (l.take 6) ((l.drop 6).take 6) 3 (Y : Int) (rr.take 3) ((rr.drop 3).take 3)) (.slice At tn ct) nilv (.slice A4 n4 c4) from FB.set_m (.slice At tn ct) 3 (Y : Int) ⟨HD.out, HS.out, HLL.out, HO3.out⟩ (.inr (.inr ⟨rfl, rfl, rfl, rfl⟩)) hbn)); clear hbn hkn hzn)
                                  | (refine wpList_st rfl _ _ _ rfl g7 21 rfl [.slice A6 n6 c6] _ rfl rfl infSb 32 _ HX9.out.fb (by rw [fcs_len ⟨HD.out, HS.out, HLL.out, HO3.out⟩, List.length_singleton]; omega) (by intro u hu; simp at hu; subst hu; rfl) ?_; intro wn hbn hkn hzn; have HX10 := Lib.hid (HX9.out.st hkn (show FB wn g7 32 (rF (l.take 6) ((l.drop 6).take 6) 3 (Y : Int) (rr.take 3) ((rr.drop 3).take 3)) (.slice At tn ct) (.slice A6 n6 c6) (.slice A4 n4 c4) from FB.set_e (.slice A6 n6 c6) (.slice A4 n4 c4) ⟨HD.out, HS.out, HLL.out, HO3.out⟩ (.inl ⟨rfl, rfl, rfl⟩) hbn)); clear hbn hkn hzn))
                                go_wp2_with (first
                                  | (refine wpList_ld rfl _ (.tmp 7) rfl _ 0 rfl _ HX10.out.fb.all _ Try.underlying32 rfl (by rw [fcs_len ⟨HD.out, HS.out, HLL.out, HO3.out⟩]; exact infR) ?_)
                                  | (refine wpList_st rfl _ (.tmp 2) _ rfl _ 0 rfl (fcs (rF (l.take 6) ((l.drop 6).take 6) 3 (Y : Int) (rr.take 3) ((rr.drop 3).take 3)) (.slice At tn ct) (.slice A6 n6 c6) (.slice A4 n4 c4)) _ rfl rfl (by rw [fcs_len ⟨HD.out, HS.out, HLL.out, HO3.out⟩]; exact infR) 32 _ HX10.out.fz (by rw [fcs_len Fr.zero_six, fcs_len ⟨HD.out, HS.out, HLL.out, HO3.out⟩]; omega) (fcs_one rfl rfl rfl) ?_; intro wz hbz hkz hzz))
                                have hfz := FB.of_all (f' := (rF (l.take 6) ((l.drop 6).take 6) 3 (Y : Int) (rr.take 3) ((rr.drop 3).take 3))) Fr.zero_six ⟨HD.out, HS.out, HLL.out, HO3.out⟩ hbz
                                refine bodyPost_ret (res_cell1 Try.results18 rfl rfl hfz.all Try.underlying32 rfl (by rw [fcs_len ⟨HD.out, HS.out, HLL.out, HO3.out⟩]; exact infR)) rfl ?_
                                rw [HG.out]
                                have hd := HX10.out.done hkz ⟨HD.out, HS.out, HLL.out, HO3.out⟩ ((rr.take N).drop 8) (rr.drop N) HTSL.out HTN.out (.inr (HX10.out.part 8 N (by omega) (by omega) _ _ _ E6.out.1 E6.out.2.1 E6.out.2.2)) (.inr (by have := HX10.out.part N m3 (by omega) (Nat.le_refl _) _ _ _ E4.out.1 E4.out.2.1 E4.out.2.2; rwa [List.take_of_length_le (by omega)] at this))
                                exact ⟨_, _, _, rfl, hd.1, hd.2⟩
  · have HG := Lib.hid (show getM l = (Fr.zero, [], e3) by rw [HG2.out, if_pos c3])
    have c3' : (e3 == 0) = false := by simp [c3]
    go_wp2_with (refine wpList_st rfl _ _ _ rfl _ 0 rfl (fcs Fr.zero nilv nilv nilv) _ rfl rfl infR 32 _ HF22.out (by rw [fcs_len Fr.zero_six]; omega) (fcs_one rfl rfl rfl) ?_; intro wz hbz hkz hzz)
    have hfz := FB.of_all (f' := Fr.zero) Fr.zero_six Fr.zero_six hbz
    refine bodyPost_ret (res_cell1 Try.results18 rfl rfl hfz.all Try.underlying32 rfl infR) rfl ?_
    rw [HG.out]
    exact ⟨nilv, nilv, nilv, rfl, FrRd.zero _, HK2.out.fresh hkz (fun i hi => by cases hi; exact Nat.le_refl _)⟩
end Go.Proofs.Ytjdaaelkaeokeaa
