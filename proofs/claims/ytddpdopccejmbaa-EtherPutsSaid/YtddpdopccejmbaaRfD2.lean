/- tollref04.Put: contract, of a frame of kind 2. -/
import Derived.Test.YtddpdopccejmbaaMg33
namespace Go.Proofs.Ytddpdopccejmbaa
open Go.RowKit Go.Sort
set_option linter.unusedVariables false

set_option maxRecDepth 100000 in
set_option maxHeartbeats 16000000 in
theorem rput_2 (f : Fr) (vt vb vr : Value) (w : World) (h : FrIn w f vt vb vr) (hmay : mayL f.t = true) (k1 : f.k = 2) (hy0 : 0 ≤ f.y) (hy1 : f.y ≤ 65535) :
    Calls Try.prog 12 #[frv f vt vb vr] w fun e w' => ∃ v, e = .returned (.tuple #[v, .int .i64 (putM f).2]) ∧ Made w w' v (putM f).1 := by
  obtain ⟨m, hm⟩ : ∃ m : Nat, f.y = (m : Int) := ⟨f.y.toNat, by omega⟩
  have hm6 : m < 65536 := by omega
  have HY := Lib.hid hm
  have HM6 := Lib.hid hm6
  have HMAY := Lib.hid hmay
  clear hm hy0 hy1
  obtain ⟨At, nt, ct, rfl, htt⟩ := h.t
  obtain ⟨Ab, nb, cb, rfl, hbb⟩ := h.b
  obtain ⟨Ar, nr, cr, rfl, hrr⟩ := h.r
  have HLT := Lib.hid (show ∀ i, (Lies At nt i ∨ Lies Ab nb i ∨ Lies Ar nr i) → i < w.heap.size from fun i hi => by rcases hi with hi | hi | hi; exact htt.lt i hi; exact hbb.lt i hi; exact hrr.lt i hi)
  have HTN := Lib.hid htt.len
  have HLN := Lib.hid (And.intro h.tn (And.intro h.bn h.rn))
  obtain ⟨l0, l1, l2, hl⟩ := len3 h.ok.l
  have HL3 := Lib.hid hl
  have hk0 := ((Kept.refl Nil w).alloc (.cells (fcs f (.slice At nt ct) (.slice Ab nb cb) (.slice Ar nr cr)).toArray 32))
  have hF := FB.new w 32 f (.slice At nt ct) (.slice Ab nb cb) (.slice Ar nr cr)
  have HSIX := Lib.hid h.ok.six
  have HT := Lib.hid (htt.kept hk0 (fun _ _ hf => hf))
  have HBB := Lib.hid (hbb.kept hk0 (fun _ _ hf => hf))
  have HRR := Lib.hid (hrr.kept hk0 (fun _ _ hf => hf))
  have HF := Lib.hid hF
  have HK := Lib.hid hk0
  clear htt hbb hrr h hk0 hF hl
  go_enter Try.func12, Try.ntmps12
  go_upto_region 1 with (fail)
  refine wp_nameE (fun W => FB W w.heap.size 32 f (.slice At nt ct) (.slice Ab nb cb) (.slice Ar nr cr) ∧ Kept Nil w W ∧ Tags W At nt ct f.t ∧ Byt W Ab nb cb f.b ∧ Byt W Ar nr cr f.r ∧ W.heap.size = w.heap.size + 1) ⟨HF.out, HK.out, HT.out, HBB.out, HRR.out, by simp⟩ ?_
  clear HF HK HT HBB HRR
  rintro W ⟨hf, hk, ht, hb, hr, hz⟩
  have HF := Lib.hid hf
  have HK := Lib.hid hk
  have HT := Lib.hid ht
  have HBB := Lib.hid hb
  have HRR := Lib.hid hr
  have HZ := Lib.hid hz
  have HZN := Lib.hid (Blo.new W 25 (bys z3).toArray)
  clear hf hk ht hb hr hz
  go_upto_region 2 with (refine wpList_st rfl _ (.tmp 4) _ rfl _ 0 rfl (bys z3) _ rfl rfl inf3 25 (bys z3) HZN.out (by decide) (bys_one z3) ?_; intro w1 hb1 hk1 hz1)
  have hk01 := ((Kept.refl Nil W).alloc (.cells (bys z3).toArray 25)).fresh hk1 (fun i hi => by cases hi; exact Nat.le_refl _)
  have hzr : Row w1 (w.heap.size + 1) 0 (bys z3) := by
    have h1 : Blo w1 W.heap.size 25 (bys z3).toArray := hb1
    rw [HZ.out] at h1
    exact Blo.row [] (bys z3) [] (by simpa using h1)
  have HW := Lib.hid (show RP w f At nt ct Ab nb cb Ar nr cr w1 from ⟨HF.out.kept hk01 (fun hf => hf), hzr, HT.out.kept hk01 (fun _ _ hf => hf), HBB.out.kept hk01 (fun _ _ hf => hf), HRR.out.kept hk01 (fun _ _ hf => hf), HLT.out, HK.out.then hk01⟩)
  rw [HZ.out]
  clear hk01 hzr hb1 hk1 hz1 HZN HF HT HBB HRR HK
  simp only [Act.put]
  have hrl := HW.out.fb.rl HSIX.out
  rw [HL3.out] at hrl
  have d0 : w1.cell? ⟨w.heap.size, 15, none⟩ = some (.int .u8 (l0.toNat : Int)) := hrl 0 _ rfl
  have d1 : w1.cell? ⟨w.heap.size, 16, none⟩ = some (.int .u8 (l1.toNat : Int)) := hrl 1 _ rfl
  have d2 : w1.cell? ⟨w.heap.size, 17, none⟩ = some (.int .u8 (l2.toNat : Int)) := hrl 2 _ rfl
  have hsn : (f.l = snapL) ↔ (l0.toNat = 170 ∧ l1.toNat = 170 ∧ l2.toNat = 3) := by
    rw [HL3.out]
    show [l0, l1, l2] = [170, 170, 3] ↔ _
    constructor
    · intro h
      injection h with h1 h2
      injection h2 with h2 h3
      injection h3 with h3 _
      subst h1 h2 h3
      exact ⟨rfl, rfl, rfl⟩
    · rintro ⟨h1, h2, h3⟩
      rw [show l0 = 170 from UInt8.toNat_inj.1 h1, show l1 = 170 from UInt8.toNat_inj.1 h2, show l2 = 3 from UInt8.toNat_inj.1 h3]
  obtain ⟨B, hB⟩ : ∃ B : Bool, B = decide (f.l = snapL) := ⟨_, rfl⟩
  have HSN := Lib.hid hsn
  have HBB := Lib.hid hB
  clear hrl hsn hB
  go_cut [5] from 11 to 26 (fun s wx => s = .bool B ∧ wx = w1)
  case first =>
    by_cases g0 : l0.toNat = 170
    · have b0 : ((l0.toNat : Int) == 170) = true := by simp; omega
      by_cases g1 : l1.toNat = 170
      · have b1 : ((l1.toNat : Int) == 170) = true := by simp; omega
        by_cases g2 : l2.toNat = 3
        · have b2 : ((l2.toNat : Int) == 3) = true := by simp; omega
          have HQ := Lib.hid (show B = true by rw [HBB.out]; exact decide_eq_true (HSN.out.2 ⟨g0, g1, g2⟩))
          clear g0 g1 g2
          go_wp2_with (fail)
          go_meet
          exact ⟨by rw [HQ.out], rfl⟩
        · have b2 : ((l2.toNat : Int) == 3) = false := by simp; omega
          have HQ := Lib.hid (show B = false by rw [HBB.out]; exact decide_eq_false (fun h => g2 (HSN.out.1 h).2.2))
          clear g0 g1 g2
          go_wp2_with (fail)
          go_meet
          exact ⟨by rw [HQ.out], rfl⟩
      · have b1 : ((l1.toNat : Int) == 170) = false := by simp; omega
        have HQ := Lib.hid (show B = false by rw [HBB.out]; exact decide_eq_false (fun h => g1 (HSN.out.1 h).2.1))
        clear g0 g1
        go_wp2_with (fail)
        go_meet
        exact ⟨by rw [HQ.out], rfl⟩
    · have b0 : ((l0.toNat : Int) == 170) = false := by simp; omega
      have HQ := Lib.hid (show B = false by rw [HBB.out]; exact decide_eq_false (fun h => g0 (HSN.out.1 h).1))
      clear g0
      go_wp2_with (fail)
      go_meet
      exact ⟨by rw [HQ.out], rfl⟩
  case rest =>
    obtain ⟨rfl, rfl⟩ := hcut
    clear d0 d1 d2
    have c12 := HW.out.fb.ct HSIX.out
    go_wp2_with (fail)
    refine (rmay_yes At nt ct f.t _ HW.out.tt).mono ?_
    rintro e w2 ⟨rfl, hk2⟩
    have HW2 := Lib.hid (HW.out.kept hk2)
    clear c12 hk2 HW
    have HW := HW2
    clear HW2
    rw [hmay]
    clear hmay
    go_upto_region 5 with (fail)
    have c13 := HW.out.fb.ck HSIX.out
    have c14 := HW.out.fb.cy HSIX.out
    rw [HY.out] at c14
    have HEL := Lib.hid (eq_arr3 f.l z3 HSIX.out.l rfl)
    have HEO := Lib.hid (eq_arr3 f.o z3 HSIX.out.o rfl)
    have hy0 : ¬ (m : Int) < 0 := by omega
    have hy1 : ¬ (65535 : Int) < (m : Int) := by omega
    have HKK := Lib.hid k1
    rw [k1] at c13
    clear k1
    go_upto_region 12 with (fail)
    obtain ⟨D2, hD2⟩ : ∃ D : Bool, D = decide (m ≠ 0 ∨ f.o ≠ z3 ∨ f.l = snapL ∨ 1500 < 3 + nb) := ⟨_, rfl⟩
    have HD2 := Lib.hid hD2
    clear hD2
    have c21 := HW.out.fb.cb HSIX.out
    have HNB := Lib.hid HW.out.bb.1
    have hnb := HLN.out.2.1
    rw [HNB.out] at hnb
    go_cut [116] from 93 to 115 (fun s wx => s = .bool D2 ∧ wx = w2)
    case first =>
      by_cases y0 : m = 0
      · have b1 : ((m : Int) != 0) = false := by simp; omega
        cases ho : (f.o == z3) with
        | false =>
          have HQ := Lib.hid (show D2 = true by rw [HD2.out]; exact decide_eq_true (.inr (.inl (by simpa using ho))))
          have eo := HEO.out
          rw [ho] at eo
          clear HD2 ho y0
          skip
          go_wp2_with (first
            | (refine wpList_ld rfl _ _ rfl w.heap.size 15 rfl (bys f.l) (HW.out.fb.rl HSIX.out) _ Try.underlying25 rfl (by rw [bys_len, HSIX.out.l]; exact inf3) ?_)
            | (refine wpList_ld rfl _ _ rfl w.heap.size 18 rfl (bys f.o) (HW.out.fb.ro HSIX.out) _ Try.underlying25 rfl (by rw [bys_len, HSIX.out.o]; exact inf3) ?_)
            | (refine wpList_ld rfl _ _ rfl (w.heap.size + 1) 0 rfl (bys z3) HW.out.zr _ Try.underlying25 rfl inf3 ?_)
            | fail)
          go_meet
          exact ⟨by rw [HQ.out], rfl⟩
        | true =>
          have eo := HEO.out
          rw [ho] at eo
          have HOO := Lib.hid (show f.o = z3 by simpa using ho)
          clear ho
          cases B with
          | true =>
            have HQ := Lib.hid (show D2 = true by rw [HD2.out]; exact decide_eq_true (.inr (.inr (.inl (of_decide_eq_true HBB.out.symm)))))
            clear HD2 y0
            skip
            go_wp2_with (first
              | (refine wpList_ld rfl _ _ rfl w.heap.size 15 rfl (bys f.l) (HW.out.fb.rl HSIX.out) _ Try.underlying25 rfl (by rw [bys_len, HSIX.out.l]; exact inf3) ?_)
              | (refine wpList_ld rfl _ _ rfl w.heap.size 18 rfl (bys f.o) (HW.out.fb.ro HSIX.out) _ Try.underlying25 rfl (by rw [bys_len, HSIX.out.o]; exact inf3) ?_)
              | (refine wpList_ld rfl _ _ rfl (w.heap.size + 1) 0 rfl (bys z3) HW.out.zr _ Try.underlying25 rfl inf3 ?_)
              | fail)
            go_meet
            exact ⟨by rw [HQ.out], rfl⟩
          | false =>
            have HNS := Lib.hid (show f.l ≠ snapL from of_decide_eq_false HBB.out.symm)
            by_cases hb : 1500 < 3 + nb
            · have hb' : (1500 : Int) < 3 + (nb : Int) := by omega
              have HQ := Lib.hid (show D2 = true by rw [HD2.out]; exact decide_eq_true (.inr (.inr (.inr hb))))
              clear HD2 y0 hb
              skip
              go_wp2_with (first
                | (refine wpList_ld rfl _ _ rfl w.heap.size 15 rfl (bys f.l) (HW.out.fb.rl HSIX.out) _ Try.underlying25 rfl (by rw [bys_len, HSIX.out.l]; exact inf3) ?_)
                | (refine wpList_ld rfl _ _ rfl w.heap.size 18 rfl (bys f.o) (HW.out.fb.ro HSIX.out) _ Try.underlying25 rfl (by rw [bys_len, HSIX.out.o]; exact inf3) ?_)
                | (refine wpList_ld rfl _ _ rfl (w.heap.size + 1) 0 rfl (bys z3) HW.out.zr _ Try.underlying25 rfl inf3 ?_)
                | fail)
              go_meet
              exact ⟨by rw [HQ.out], rfl⟩
            · have hb' : ¬ (1500 : Int) < 3 + (nb : Int) := by omega
              have HQ := Lib.hid (show D2 = false by rw [HD2.out]; exact decide_eq_false (by rintro (h | h | h | h); exact h y0; exact h HOO.out; exact HNS.out h; exact hb h))
              clear HD2 y0 hb
              skip
              go_wp2_with (first
                | (refine wpList_ld rfl _ _ rfl w.heap.size 15 rfl (bys f.l) (HW.out.fb.rl HSIX.out) _ Try.underlying25 rfl (by rw [bys_len, HSIX.out.l]; exact inf3) ?_)
                | (refine wpList_ld rfl _ _ rfl w.heap.size 18 rfl (bys f.o) (HW.out.fb.ro HSIX.out) _ Try.underlying25 rfl (by rw [bys_len, HSIX.out.o]; exact inf3) ?_)
                | (refine wpList_ld rfl _ _ rfl (w.heap.size + 1) 0 rfl (bys z3) HW.out.zr _ Try.underlying25 rfl inf3 ?_)
                | fail)
              go_meet
              exact ⟨by rw [HQ.out], rfl⟩
      · have b1 : ((m : Int) != 0) = true := by simp; omega
        have HQ := Lib.hid (show D2 = true by rw [HD2.out]; exact decide_eq_true (.inl y0))
        clear HD2 y0
        skip
        go_wp2_with (fail)
        go_meet
        exact ⟨by rw [HQ.out], rfl⟩
    case rest =>
      obtain ⟨rfl, rfl⟩ := hcut
      cases D2 with
      | true =>
        have hd := of_decide_eq_true HD2.out.symm
        have HP := Lib.hid (put_none1 f (.inr (car_no f (.inr (.inr (.inr (.inl ⟨HKK.out, by have := HY.out; rcases hd with h | h | h | h; exact .inl (by omega); exact .inr (.inl h); exact .inr (.inr (.inl h)); exact .inr (.inr (.inr (by rw [HNB.out]; exact h)))⟩)))))))
        go_wp2_with (fail)
        refine bodyPost_ret (v := .tuple #[.slice none 0 0, .int .i64 1]) (by simp [results, Try.results12, go_sem]) rfl ?_
        rw [HP.out]
        exact ⟨_, rfl, World.ownsRow_nil _ _ _ _, HW.out.kk⟩
      | false =>
        have hd := of_decide_eq_false HD2.out.symm
        have HCAR := Lib.hid (show carryM f = true by
          have hy := HY.out
          have ho : f.o = z3 := Decidable.byContradiction (fun h => hd (.inr (.inl h)))
          have hl : f.l ≠ snapL := fun h => hd (.inr (.inr (.inl h)))
          have hb := HNB.out
          unfold carryM
          rw [if_neg (by rw [HKK.out]; decide), if_pos HKK.out, hb, ho]
          simp [hl]
          omega)
        clear hd HD2
        go_upto_region 16 with (fail)
        have HDL := Lib.hid (show f.d.length = 6 ∧ f.s.length = 6 ∧ f.l.length = 3 ∧ f.o.length = 3 ∧ (bytTs f.t).length ≤ 4000 ∧ f.b.length ≤ 1000000 ∧ f.r.length ≤ 1000000 from ⟨HSIX.out.d, HSIX.out.s, HSIX.out.l, HSIX.out.o, by rw [bytTs_len]; have := HLN.out.1; omega, HLN.out.2.1, HLN.out.2.2⟩)
        have HSZ0 := Lib.hid (show w.heap.size + 2 ≤ wc.heap.size from World.block_lt_of_cell? wc _ (HW.out.zr 0 _ rfl))
        have HW0 := HW
        clear HW HEL HEO HTN HLT HL3 HSN
        clear c13 c14
        go_upto_region 18 with (first
          | (refine wpList_ap rfl _ _ rfl (w.heap.size + 2) (.slice none 0 0) (([] : List UInt8)) rfl (World.ownsRow_nil _ _ _ _) (some ⟨w.heap.size, 0, none⟩) 6 6 f.d rfl (byt_row (HW0.out.fb.rd) (by have := HDL.out; omega) 6 (by have := HDL.out; omega)) (by have := HDL.out; (try simp only [List.length_append, List.length_nil, twoM_len]); omega) (by have := HSZ0.out; (try simp); omega) ?_; intro v1 y1 hown hkg)
          | fail)
        rw [List.nil_append] at hown
        have HO1 := Lib.hid hown
        have hlo : ∀ i, (Value.slice none 0 0).ownBlock = some i → w.heap.size + 2 ≤ i := fun i hi => by cases hi
        have HSZ1 := Lib.hid (Nat.le_trans HSZ0.out hkg.size)
        have HW1 := Lib.hid (RP.far HW0.out hkg hlo)
        clear hown hkg hlo HSZ0 HW0
        try simp only [Act.put]
        go_upto_region 19 with (first
          | (refine wpList_ap rfl _ _ rfl (w.heap.size + 2) v1 (f.d) rfl HO1.out (some ⟨w.heap.size, 6, none⟩) 6 6 f.s rfl (byt_row (HW1.out.fb.rs HSIX.out) (by have := HDL.out; omega) 6 (by have := HDL.out; omega)) (by have := HDL.out; (try simp only [List.length_append, List.length_nil, twoM_len]); omega) (by have := HSZ1.out; (try simp); omega) ?_; intro v2 y2 hown hkg)
          | fail)
        have HO2 := Lib.hid hown
        have hlo : ∀ i, v1.ownBlock = some i → w.heap.size + 2 ≤ i := fun i hi => (HO1.out.lt i hi).1
        have HSZ2 := Lib.hid (Nat.le_trans HSZ1.out hkg.size)
        have HW2 := Lib.hid (RP.far HW1.out hkg hlo)
        clear hown hkg hlo HSZ1 HW1 HO1
        try simp only [Act.put]
        have c12 := HW2.out.fb.ct HSIX.out
        go_wp2_with (fail)
        refine (rbytes_yes At nt ct f.t _ HW2.out.tt (by have := HLN.out.1; have := HW2.out.tt.len; omega)).mono ?_
        rintro e z3w ⟨vtb, rfl, hmd⟩
        rw [bytesM_mayR HMAY.out] at hmd
        obtain ⟨Atb, ctb, rfl, hytb, -⟩ := byt_own hmd
        have HYT := Lib.hid hytb
        have HO3 := Lib.hid (own_kept HO2.out hmd.2 (fun _ _ hf => hf))
        have HW3 := Lib.hid (HW2.out.kept hmd.2)
        have HSZ3 := Lib.hid (Nat.le_trans HSZ2.out hmd.2.size)
        clear hmd hytb HO2 HW2 HSZ2 c12
        go_upto_region 20 with (first
          | (refine wpList_ap rfl _ _ rfl (w.heap.size + 2) v2 (f.d ++ f.s) rfl HO3.out Atb (bytTs f.t).length ctb (bytTs f.t) rfl HYT.out (by have := HDL.out; (try simp only [List.length_append, List.length_nil, twoM_len]); omega) (by have := HSZ3.out; (try simp); omega) ?_; intro v4 y4 hown hkg)
          | fail)
        have HO4 := Lib.hid hown
        have hlo : ∀ i, v2.ownBlock = some i → w.heap.size + 2 ≤ i := fun i hi => (HO3.out.lt i hi).1
        have HSZ4 := Lib.hid (Nat.le_trans HSZ3.out hkg.size)
        have HW4 := Lib.hid (RP.far HW3.out hkg hlo)
        clear hown hkg hlo HSZ3 HW3 HO3
        try simp only [Act.put]
        clear HYT
        have c13 := HW4.out.fb.ck HSIX.out
        have c14 := HW4.out.fb.cy HSIX.out
        rw [HKK.out] at c13
        rw [HY.out] at c14
        have hwm1 : IntKind.wrap .u8 ((m : Int) / 256) = (m : Int) / 256 := IntWalk.u8_in _ (by omega)
        have hwm2 : IntKind.wrap .u8 ((m : Int) % 256) = (m : Int) % 256 := IntWalk.u8_in _ (by omega)
        have c21 := HW4.out.fb.cb HSIX.out
        have hcb : 3 + nb ≤ 1500 := by
          have hc := HCAR.out
          unfold carryM at hc
          rw [if_neg (by rw [HKK.out]; decide), if_pos HKK.out] at hc
          simp only [Bool.and_eq_true, decide_eq_true_eq] at hc
          have := hc.2
          rw [HNB.out] at this
          exact this
        obtain ⟨q, hq⟩ : ∃ q : Nat, 3 + nb = q := ⟨_, rfl⟩
        have hwq : IntKind.wrap .i64 (3 + (nb : Int)) = (q : Int) := by rw [IntKind.wrap_i64]; omega
        have HQ := Lib.hid (show q < 65536 by omega)
        have hq6 : q < 65536 := HQ.out
        have HQE := Lib.hid hq
        clear hq hnb hcb
        have hwm3 : IntKind.wrap .u8 ((q : Int) / 256) = (q : Int) / 256 := IntWalk.u8_in _ (by omega)
        have hwm4 : IntKind.wrap .u8 ((q : Int) % 256) = (q : Int) % 256 := IntWalk.u8_in _ (by omega)
        go_upto_region 28 with (fail)
        have HOA4 := Lib.hid (own_kept HO4.out ((Kept.refl Nil y4).alloc (.cells #[.int .u8 ((q : Int) / 256), .int .u8 ((q : Int) % 256)] 5)) (fun _ _ hf => hf))
        go_upto_region 29 with (first
          | (refine wpList_ap rfl _ _ rfl (w.heap.size + 2) v4 (f.d ++ f.s ++ bytTs f.t) rfl HOA4.out _ 2 2 (twoM q) rfl (byt_lit _ (twoM q) _ _ (two_cellsA q HQ.out) 2 rfl _ rfl (by rw [twoM_len]; decide)) (by have := HDL.out; (try simp only [List.length_append, List.length_nil, twoM_len]); omega) (by have := HSZ4.out; (try simp); omega) ?_; intro v5 y5 hown hkg)
          | fail)
        have HO5 := Lib.hid hown
        have hlo : ∀ i, v4.ownBlock = some i → w.heap.size + 2 ≤ i := fun i hi => (HO4.out.lt i hi).1
        have hka : Kept Nil y4 (y4.alloc (.cells #[.int .u8 ((q : Int) / 256), .int .u8 ((q : Int) % 256)] 5)) := (Kept.refl Nil _).alloc _
        have HSZ5 := Lib.hid (Nat.le_trans HSZ4.out (Nat.le_trans hka.size hkg.size))
        have HW5 := Lib.hid (RP.far (HW4.out.kept hka) hkg hlo)
        clear hown hkg hlo HSZ4 HW4 hka HO4 HOA4
        try simp only [Act.put]
        go_upto_region 30 with (first
          | (refine wpList_ap rfl _ _ rfl (w.heap.size + 2) v5 (f.d ++ f.s ++ bytTs f.t ++ twoM q) rfl HO5.out (some ⟨w.heap.size, 15, none⟩) 3 3 f.l rfl (byt_row (HW5.out.fb.rl HSIX.out) (by have := HDL.out; omega) 3 (by have := HDL.out; omega)) (by have := HDL.out; (try simp only [List.length_append, List.length_nil, twoM_len]); omega) (by have := HSZ5.out; (try simp); omega) ?_; intro v6 y6 hown hkg)
          | fail)
        have HO6 := Lib.hid hown
        have hlo : ∀ i, v5.ownBlock = some i → w.heap.size + 2 ≤ i := fun i hi => (HO5.out.lt i hi).1
        have HSZ6 := Lib.hid (Nat.le_trans HSZ5.out hkg.size)
        have HW6 := Lib.hid (RP.far HW5.out hkg hlo)
        clear hown hkg hlo HSZ5 HW5 HO5
        try simp only [Act.put]
        clear c13 c14 c21
        have c13 := HW6.out.fb.ck HSIX.out
        rw [HKK.out] at c13
        go_upto_region 33 with (fail)
        have c21 := HW6.out.fb.cb HSIX.out
        go_upto_region 34 with (first
          | (refine wpList_ap rfl _ _ rfl (w.heap.size + 2) v6 (f.d ++ f.s ++ bytTs f.t ++ twoM q ++ f.l) rfl HO6.out Ab nb cb f.b rfl HW6.out.bb (by have := HDL.out; (try simp only [List.length_append, List.length_nil, twoM_len]); omega) (by have := HSZ6.out; (try simp); omega) ?_; intro v7 y7 hown hkg)
          | fail)
        have HO7 := Lib.hid hown
        have hlo : ∀ i, v6.ownBlock = some i → w.heap.size + 2 ≤ i := fun i hi => (HO6.out.lt i hi).1
        have HSZ7 := Lib.hid (Nat.le_trans HSZ6.out hkg.size)
        have HW7 := Lib.hid (RP.far HW6.out hkg hlo)
        clear hown hkg hlo HSZ6 HW6 HO6
        try simp only [Act.put]
        clear c21
        have c22 := HW7.out.fb.cr HSIX.out
        go_upto_region 35 with (first
          | (refine wpList_ap rfl _ _ rfl (w.heap.size + 2) v7 (f.d ++ f.s ++ bytTs f.t ++ twoM q ++ f.l ++ f.b) rfl HO7.out Ar nr cr f.r rfl HW7.out.br (by have := HDL.out; (try simp only [List.length_append, List.length_nil, twoM_len]); omega) (by have := HSZ7.out; (try simp); omega) ?_; intro v8 y8 hown hkg)
          | fail)
        have HO8 := Lib.hid hown
        have hlo : ∀ i, v7.ownBlock = some i → w.heap.size + 2 ≤ i := fun i hi => (HO7.out.lt i hi).1
        have HSZ8 := Lib.hid (Nat.le_trans HSZ7.out hkg.size)
        have HW8 := Lib.hid (RP.far HW7.out hkg hlo)
        clear hown hkg hlo HSZ7 HW7 HO7
        try simp only [Act.put]
        clear c22
        have HPE := Lib.hid (show aheadM f ++ f.b ++ f.r = f.d ++ f.s ++ bytTs f.t ++ twoM q ++ f.l ++ f.b ++ f.r by
          unfold aheadM headM
          rw [if_neg (by rw [HKK.out]; decide), if_pos HKK.out, HNB.out, HQE.out]
          simp only [List.append_assoc])
        have HPM := Lib.hid (show putM f = if 65539 < (aheadM f ++ f.b ++ f.r).length then ([], 3) else (aheadM f ++ f.b ++ f.r, 0) by
          unfold putM
          rw [HMAY.out, HCAR.out, if_neg (by decide), List.length_append, List.length_append])
        rw [HPE.out] at HPM
        have hof := HO8.out
        obtain ⟨A9, c9, rfl⟩ := own_form hof
        have HOF := Lib.hid hof
        clear hof HO8
        have HLF := Lib.hid (show (f.d ++ f.s ++ bytTs f.t ++ twoM q ++ f.l ++ f.b ++ f.r).length ≤ 1000000000 by have := HDL.out; (try simp only [List.length_append, List.length_nil, twoM_len]); omega)
        generalize f.d ++ f.s ++ bytTs f.t ++ twoM q ++ f.l ++ f.b ++ f.r = LF at *
        obtain ⟨n9, hn9⟩ : ∃ n9, LF.length = n9 := ⟨_, rfl⟩
        have HN9 := Lib.hid hn9
        rw [hn9]
        by_cases hlong : 65539 < n9
        · have hlong' : (65539 : Int) < (n9 : Int) := by omega
          rw [hn9, if_pos hlong] at HPM
          go_wp2_with (fail)
          refine bodyPost_ret (v := .tuple #[.slice none 0 0, .int .i64 3]) (by simp [results, Try.results12, go_sem]) rfl ?_
          rw [HPM.out]
          exact ⟨_, rfl, World.ownsRow_nil _ _ _ _, HW8.out.kk⟩
        · have hlong' : ¬ (65539 : Int) < (n9 : Int) := by omega
          rw [hn9, if_neg hlong] at HPM
          go_wp2_with (fail)
          refine bodyPost_ret (v := .tuple #[.slice A9 n9 c9, .int .i64 0]) (by simp [results, Try.results12, go_sem]) rfl ?_
          rw [HPM.out]
          have ho9 := own_mono HOF.out (show w.heap.size ≤ w.heap.size + 2 by omega)
          rw [hn9] at ho9
          exact ⟨_, rfl, by rw [hn9]; exact ho9, HW8.out.kk⟩
end Go.Proofs.Ytddpdopccejmbaa
