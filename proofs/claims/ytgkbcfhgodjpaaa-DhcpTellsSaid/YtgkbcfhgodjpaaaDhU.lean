/- tollref09: contract of Bytes. -/
import Derived.Test.YtgkbcfhgodjpaaaDhS
import Derived.Test.YtgkbcfhgodjpaaaDhP
namespace Go.Proofs.Ytgkbcfhgodjpaaa
open Go.RowKit Go.Sort
set_option linter.unusedVariables false

theorem int_u8 (a : UInt8) (b : Nat) (hb : b < 256) : ((a.toNat : Int) == (b : Int)) = decide (a = UInt8.ofNat b) := by
  have h := a.toNat_lt
  rw [Bool.eq_iff_iff]
  simp only [beq_iff_eq, decide_eq_true_eq]
  constructor
  · intro e
    apply UInt8.toNat_inj.1
    rw [UInt8.toNat_ofNat']
    omega
  · rintro rfl
    rw [UInt8.toNat_ofNat']
    omega
set_option maxRecDepth 100000 in
set_option maxHeartbeats 16000000 in
theorem rbytes_yes (h : Dh) (hs : h.six) (vh vo vb : Value) (w : World) (hI : RfIn w h vh vo vb) (hbd : 241 + (optB h.os).length + h.bh.length ≤ 1099511627776) : Calls Try.prog 10 #[rfv vh vo vb] w fun e w' => BytR w e w' (bytesD h) := by
  have hP := Blo.new w 37 #[vh, vo, vb]
  have hk := (Kept.refl Nil w).alloc (.cells #[vh, vo, vb] 37)
  obtain ⟨i0, hi, hz0, hz1, hz2⟩ := info_parts Try.infb
  have h236 := headB_len hs
  go_enter Try.func10, Try.ntmps10
  go_upto_region 1 with (fail)
  refine wp_nameE (fun W => Blo W w.heap.size 37 #[vh, vo, vb] ∧ Kept Nil w W) ⟨hP, hk⟩ ?_
  clear hP hk
  rintro W ⟨hP, hk⟩
  have HP := Lib.hid hP
  have HK := Lib.hid hk
  have HBD := Lib.hid hbd
  obtain ⟨Ah, nh, ch, rfl, hh⟩ := hI.hd
  obtain ⟨A, n, c, rfl, hO⟩ := hI.o
  obtain ⟨Ab, nb, cb, rfl, hb⟩ := hI.b
  have HO := Lib.hid (hO.kept hk (fun _ _ hf => hf))
  have hnc := hO.lt.1
  have hcc := hO.lt.2
  have HL := Lib.hid hO.len
  have HHY := Lib.hid (hh.kept hk (fun _ _ hf => hf))
  have HBY := Lib.hid (hb.kept hk (fun _ _ hf => hf))
  have HBL := Lib.hid hb.1
  have q0 := hP.cell 0
  have q1 := hP.cell 1
  have q2 := hP.cell 2
  simp at q0 q1 q2
  obtain rfl : nh = 236 := by rw [← hh.1, h236]
  obtain ⟨bh, oh, rfl, hcell⟩ := HHY.out.2.2.2 (by decide)
  have qh := hcell 0 (by rw [h236]; decide)
  rw [show (headB h)[0]'(by rw [h236]; decide) = h.op from rfl, Nat.add_zero] at qh
  have HLN := Lib.hid h236
  have e1 : ((h.op.toNat : Int) != 1) = decide (h.op ≠ 1) := u8_ne h.op 1
  have e2 : ((h.op.toNat : Int) != 2) = decide (h.op ≠ 2) := u8_ne h.op 2
  clear hP hk hO hI hbd hh hb hcell h236
  by_cases hop : h.op = 1 ∨ h.op = 2
  · have HOP := Lib.hid hop
    have hnn : (decide (h.op ≠ 1) = false) ∨ (decide (h.op ≠ 1) = true ∧ decide (h.op ≠ 2) = false) := by
      rcases hop with h1 | h1
      · exact .inl (by simp [h1])
      · by_cases h2 : h.op = 1
        · exact .inl (by simp [h2])
        · exact .inr ⟨by simp [h2], by simp [h1]⟩
    clear hop
    rcases hnn with h1 | ⟨h1, h2⟩
    case' inl =>
      rw [h1] at e1
      clear h1 e2
      go_upto_region 4 with (fail)
      clear e1
    case' inr =>
      rw [h1] at e1
      rw [h2] at e2
      clear h1 h2
      go_upto_region 4 with (fail)
      clear e1 e2
    all_goals (
      go_upto_region 5 with (first | (at_builtin; refine wpList_any rfl _ _ 31 rfl W.heap.size 5 i0 (.int .u8 0) Try.underlying31 hi hz0 hz1 hz2 rfl (.slice none 0 0) 0 [] rfl (World.ownsRow_nil _ _ _ _) _ _ _ (headB h) rfl HHY.out (by decide) (Nat.le_refl _) ?_; intro v1 w1 hown1 hgr1 hor1; clear hor1) | fail)
      have hk1 : Kept Nil W w1 := (Kept.refl Nil W).grown hgr1 (fun j hj _ => by cases hj)
      have HO1 := Lib.hid (show w1.ownsRow W.heap.size 5 1 v1 236 (bys (headB h)) from by simpa using hown1)
      have HK1 := Lib.hid hk1
      clear hown1 hgr1 hk1
      have hka := (Kept.refl Nil w1).alloc (.cells #[.int .u8 99, .int .u8 130, .int .u8 83, .int .u8 99] 5)
      have HOA := Lib.hid (own_kept HO1.out hka (fun _ _ hf => hf))
      have HSM := Lib.hid (byt_lit w1 mrk 5 #[.int .u8 99, .int .u8 130, .int .u8 83, .int .u8 99] rfl 4 rfl _ rfl (by decide))
      have HSZ := Lib.hid (show W.heap.size ≤ (w1.alloc (.cells #[.int .u8 99, .int .u8 130, .int .u8 83, .int .u8 99] 5)).heap.size by have := HK1.out.size; simp; omega)
      clear hka
      go_upto_region 6 with (first | (at_builtin; refine wpList_any rfl _ _ 31 rfl W.heap.size 5 i0 (.int .u8 0) Try.underlying31 hi hz0 hz1 hz2 rfl v1 236 (bys (headB h)) rfl HOA.out _ 4 4 mrk rfl HSM.out (by decide) HSZ.out ?_; intro v2 w2 hown2 hgr2 hor2; clear hor2) | fail)
      have hk2 : Kept Nil W w2 := (HK1.out.alloc _).grown hgr2 (fun j hj hj' => absurd hj' (by have := own_ge1 HO1.out j hj; omega))
      have HO2 := Lib.hid (show w2.ownsRow W.heap.size 5 1 v2 (240 + (optB (h.os.take 0)).length) (bys (headB h ++ (mrk ++ optB (h.os.take 0)))) from by
        rw [← bys_app] at hown2
        simpa [optB] using hown2)
      have HK2 := Lib.hid hk2
      clear hown2 hgr2 hk2 HO1 HK1 HOA HSM HSZ
      go_wp2
      go_loopw [4, 5] (fun v i wr => ∃ k : Nat, k ≤ n ∧ i = .int .i64 (k : Int) ∧ (∀ j (hj : j < h.os.length), j < k → okO h.os[j] = true) ∧ wr.ownsRow W.heap.size 5 1 v (240 + (optB (h.os.take k)).length) (bys (headB h ++ (mrk ++ optB (h.os.take k)))) ∧ Kept Nil W wr) (fun _ i _ => n - (intOf i).toNat)
      case atStart => exact ⟨0, Nat.zero_le _, rfl, fun j _ hj => absurd hj (by omega), HO2.out, HK2.out⟩
      case round =>
        clear HO2 HK2 q1
        obtain ⟨k, hk, rfl, hall, hown, hkp⟩ := hrel
        have hcell := (HP.out.kept hkp (fun hf => hf)).cell 1
        simp at hcell
        have HOW := Lib.hid hown
        have HKP := Lib.hid hkp
        by_cases hlt : k < n
        · have hkl : k < h.os.length := by rw [HL.out]; exact hlt
          obtain ⟨b, o, A', m, c', rfl, hrow, hby, hlv⟩ := (HO.out.bounded.kept hkp (fun _ _ hf => hf)).at hkl
          have HLV := Lib.hid (fun j (hj : Lies A' m j) => (hlv j hj).2)
          have r0 := hrow 0 _ rfl
          have r1 := hrow 1 _ rfl
          rw [Nat.add_zero] at r0
          have HALL := Lib.hid hall
          have hm : h.os[k].2.length = m := hby.1
          have HOK := Lib.hid (okO_is h.os[k])
          have HM := Lib.hid (show h.os[k] ∈ h.os from List.getElem_mem hkl)
          have HN := Lib.hid (show okO h.os[k] = true → ∀ j (hj : j < h.os.length), j < k + 1 → okO h.os[j] = true from fun e j hj hjk => by
            rcases Nat.lt_or_ge j k with h1 | h1
            · exact hall j hj h1
            · obtain rfl : j = k := by omega
              exact e)
          have HOT := Lib.hid (optB_take h.os k hkl)
          have HLE := Lib.hid (optB_le h.os (k + 1))
          have HBAD := Lib.hid (show okO h.os[k] = false → bytesD h = ([], 1) from fun e => by unfold bytesD; rw [mayD_not h HM.out e]; rfl)
          have hm63 : m ≤ 9223372036854775807 := Nat.le_trans hby.2.1 hby.2.2.1
          have HY := Lib.hid hby
          have HMM := Lib.hid hm
          generalize h.os[k] = op at *
          obtain ⟨oc, ov⟩ := op
          simp only at r0
          have f0 : ((oc.toNat : Int) == 0) = decide (oc = 0) := int_u8 oc 0 (by decide)
          have f1 : ((oc.toNat : Int) == 255) = decide (oc = 255) := int_u8 oc 255 (by decide)
          clear hall hown hkp hrow hby hm HM hlv
          by_cases h0 : oc = 0
          · rw [show decide (oc = 0) = true by simp [h0]] at f0
            have HF := Lib.hid (HBAD.out (by simp [okO, h0]))
            clear h0 f1 HBAD HN HALL HOT HLE
            go_wp2
            go_ret2
            refine ⟨_, by rw [HF.out]; rfl, ?_, (HK.out.then HKP.out).alloc _⟩
            rw [HF.out]
            exact World.ownsRow_nil _ _ _ _
          · rw [show decide (oc = 0) = false by simp [h0]] at f0
            by_cases h1 : oc = 255
            · rw [show decide (oc = 255) = true by simp [h1]] at f1
              have HF := Lib.hid (HBAD.out (by simp [okO, h1]))
              clear h0 h1 HBAD HN HALL HOT HLE
              go_wp2
              go_ret2
              refine ⟨_, by rw [HF.out]; rfl, ?_, (HK.out.then HKP.out).alloc _⟩
              rw [HF.out]
              exact World.ownsRow_nil _ _ _ _
            · rw [show decide (oc = 255) = false by simp [h1]] at f1
              by_cases h255 : m ≤ 255
              · have g1 : decide ((255 : Int) < (m : Int)) = false := by simp; omega
                have g2 : ¬ (255 : Int) < (m : Int) := by omega
                have HN2 := Lib.hid (HN.out (by rw [HOK.out]; unfold hasD; simp only; rw [HMM.out]; simp [h0, h1, h255]))
                have hm256 : (m : Int) % 256 = (m : Int) := by omega
                have ho256 : (oc.toNat : Int) % 256 = (oc.toNat : Int) := by have := oc.toNat_lt; omega
                clear h0 h1 HBAD HN HALL
                go_upto_region 12 with (fail)
                refine wp_nameE (fun X => Blo X wr.heap.size 72 #[.int .i64 (oc.toNat : Int), .slice A' m c'] ∧ Kept Nil wr X) ⟨Blo.new wr _ _, (Kept.refl Nil wr).alloc _⟩ ?_
                rintro wa ⟨hba, hka⟩
                have s0 := hba.cell 0
                have s1 := hba.cell 1
                simp at s0 s1
                have HBA := Lib.hid hba
                have HKA := Lib.hid (HKP.out.then hka)
                have HOA0 := Lib.hid (own_kept HOW.out hka (fun _ _ hf => hf))
                have HLT := Lib.hid (show ∀ i, (Value.ownBlock _) = some i → W.heap.size ≤ i ∧ i < wr.heap.size from fun i hi => HOW.out.lt i hi)
                have HYA := Lib.hid (HY.out.kept hka (fun _ _ hf => hf))
                obtain ⟨ga, hga⟩ : ∃ g, wr.heap.size = g := ⟨_, rfl⟩
                rw [hga] at HBA HLT s0 s1 ⊢
                have hkb := (Kept.refl Nil wa).alloc (.cells #[.int .u8 (oc.toNat : Int), .int .u8 (m : Int)] 5)
                have hm256' : m < 256 := by omega
                have HOA := Lib.hid (own_kept HOA0.out hkb (fun _ _ hf => hf))
                have HS2 := Lib.hid (byt_lit wa [oc, UInt8.ofNat m] 5 #[.int .u8 (oc.toNat : Int), .int .u8 (m : Int)] (by simp [bys, UInt8.toNat_ofNat']; omega) 2 rfl _ rfl (by simp))
                have HSZ := Lib.hid (show W.heap.size ≤ (wa.alloc (.cells #[.int .u8 (oc.toNat : Int), .int .u8 (m : Int)] 5)).heap.size by have := HKA.out.size; simp; omega)
                have HBW := Lib.hid (show 240 + (optB (h.os.take k)).length + 2 + m ≤ 1099511627776 by
                  have t1 := HLE.out
                  rw [HOT.out, List.length_append] at t1
                  have t2 := HBD.out
                  have t3 := HMM.out
                  simp only [oneB, List.length_cons] at t1 t3
                  omega)
                clear hba hka hkb hm256' HOK hga HKP HY
                go_upto_region 13 with (first | (at_builtin; refine wpList_any rfl _ _ 31 rfl W.heap.size 5 i0 (.int .u8 0) Try.underlying31 hi hz0 hz1 hz2 rfl _ _ _ rfl HOA.out _ 2 2 [oc, UInt8.ofNat m] rfl HS2.out (by have := HBW.out; omega) HSZ.out ?_; intro v5 w5 hown5 hgr5 hor5; clear hor5) | fail)
                have hkw := ((Kept.refl (fun j => W.heap.size ≤ j ∧ j < ga) wa).alloc (.cells #[.int .u8 (oc.toNat : Int), .int .u8 (m : Int)] 5)).grown hgr5 (fun j hj _ => HLT.out j hj)
                have HB5 := HBA.out.kept hkw (fun hf => Nat.lt_irrefl _ hf.2)
                have u1 := HB5.cell 1
                simp at u1
                have HY5 := Lib.hid (HYA.out.kept hkw (fun j hj hf => by have := HLV.out j hj; omega))
                have HK5 := Lib.hid (show Kept Nil W w5 from HKA.out.trans hkw (fun j hj hf => by have := hf.1; omega))
                have HO5 := Lib.hid hown5
                clear hkw HB5 hown5 hgr5 HOA HS2 HSZ HOA0 HBA HYA HKA s0 s1 HLT
                go_wp2_with (at_builtin; refine wpList_any rfl _ _ 31 rfl W.heap.size 5 i0 (.int .u8 0) Try.underlying31 hi hz0 hz1 hz2 rfl _ _ _ rfl HO5.out _ _ _ ov rfl HY5.out (by have := HBW.out; omega) HK5.out.size ?_; intro v6 w6 hown6 hgr6 hor6; clear hor6)
                have hk6 : Kept Nil W w6 := HK5.out.grown hgr6 (fun j hj hj' => absurd hj' (by have := own_ge1 HO5.out j hj; omega))
                have HK6 := Lib.hid hk6
                have HO6 := Lib.hid (show w6.ownsRow W.heap.size 5 1 v6 (240 + (optB (h.os.take (k + 1))).length) (bys (headB h ++ (mrk ++ optB (h.os.take (k + 1))))) from by
                  have t3 := HMM.out
                  simp only at t3
                  rw [HOT.out]
                  rw [← bys_app, ← bys_app] at hown6
                  have e1 : 240 + (optB (List.take k h.os) ++ oneB (oc, ov)).length = 240 + (optB (h.os.take k)).length + 2 + m := by rw [List.length_append]; simp only [oneB, List.length_cons, t3]; omega
                  have e2 : headB h ++ (mrk ++ (optB (List.take k h.os) ++ oneB (oc, ov))) = headB h ++ (mrk ++ optB (List.take k h.os)) ++ [oc, UInt8.ofNat m] ++ ov := by simp [oneB, t3]
                  rw [e1, e2]
                  exact hown6)
                clear hk6 hown6 hgr6
                go_wp2
                go_roundw
                case rel => exact ⟨k + 1, by omega, by go_num, HN2.out, HO6.out, HK6.out⟩
                case measure => simp [intOf]; omega
              · have g1 : decide ((255 : Int) < (m : Int)) = true := by simp; omega
                have g2 : (255 : Int) < (m : Int) := by omega
                have HF := Lib.hid (HBAD.out (by rw [HOK.out]; simp only; rw [HMM.out]; simp [h255]))
                clear h0 h1 h255 HBAD HN HALL HOT HLE
                go_wp2
                go_ret2
                refine ⟨_, by rw [HF.out]; rfl, ?_, (HK.out.then HKP.out).alloc _⟩
                rw [HF.out]
                exact World.ownsRow_nil _ _ _ _
        · obtain rfl : k = n := by omega
          have ek : h.os.take k = h.os := List.take_of_length_le (by rw [HL.out]; exact Nat.le_refl _)
          rw [ek] at HOW
          have HMB := Lib.hid (show bytesD h = (formB h, 0) by
            unfold bytesD
            rw [if_pos]
            exact (mayD_is h).2 ⟨HOP.out, fun o ho => by
              obtain ⟨j, hj, rfl⟩ := List.getElem_of_mem ho
              exact hall j hj (by rw [HL.out] at hj; exact hj)⟩)
          have hkb := (Kept.refl Nil wr).alloc (.cells #[.int .u8 255] 5)
          have HOA := Lib.hid (own_kept HOW.out hkb (fun _ _ hf => hf))
          have HS2 := Lib.hid (byt_lit wr [255] 5 #[.int .u8 255] rfl 1 rfl _ rfl (by decide))
          have HSZ := Lib.hid (show W.heap.size ≤ (wr.alloc (.cells #[.int .u8 255] 5)).heap.size by have := HKP.out.size; simp; omega)
          clear hall hown hkp hkb ek hlt
          go_upto_region 15 with (first | (at_builtin; refine wpList_any rfl _ _ 31 rfl W.heap.size 5 i0 (.int .u8 0) Try.underlying31 hi hz0 hz1 hz2 rfl _ _ _ rfl HOA.out _ 1 1 [255] rfl HS2.out (by have := HBD.out; omega) HSZ.out ?_; intro v5 w5 hown5 hgr5 hor5; clear hor5) | fail)
          have hk5 : Kept Nil W w5 := (HKP.out.alloc _).grown hgr5 (fun j hj hj' => absurd hj' (by have := own_ge1 HOA.out j hj; omega))
          have HK5 := Lib.hid hk5
          have HO5 := Lib.hid hown5
          have HB5 := HP.out.kept hk5 (fun hf => hf)
          have u2 := HB5.cell 2
          simp at u2
          have HY5 := Lib.hid (HBY.out.kept hk5 (fun _ _ hf => hf))
          clear hk5 hown5 hgr5 HB5 HOA HS2 HSZ hcell q2
          go_wp2_with (at_builtin; refine wpList_any rfl _ _ 31 rfl W.heap.size 5 i0 (.int .u8 0) Try.underlying31 hi hz0 hz1 hz2 rfl _ _ _ rfl HO5.out _ _ _ h.bh rfl HY5.out (by have := HBD.out; have := HBL.out; omega) HK5.out.size ?_; intro v6 w6 hown6 hgr6 hor6; clear hor6)
          have hk6 : Kept Nil W w6 := HK5.out.grown hgr6 (fun j hj hj' => absurd hj' (by have := own_ge1 HO5.out j hj; omega))
          go_ret2
          rw [HMB.out]
          refine ⟨_, rfl, ?_, HK.out.then hk6⟩
          rw [← bys_app, ← bys_app] at hown6
          have t4 := HBL.out
          have e1 : (formB h).length = 240 + (optB h.os).length + 1 + nb := by
            unfold formB
            rw [List.length_append, List.length_append, List.length_append, HLN.out, List.length_cons, t4]
            show 236 + (4 + _) = _
            omega
          have e2 : formB h = headB h ++ (mrk ++ optB h.os) ++ [255] ++ h.bh := by simp [formB]
          show w6.ownsRow w.heap.size 5 1 _ (formB h).length (bys (formB h))
          rw [e1, e2]
          exact own_mono hown6 HK.out.size)
  · have HM := Lib.hid (show bytesD h = ([], 1) by
      unfold bytesD
      rw [if_neg]
      intro hm
      exact hop ((mayD_is h).1 hm).1)
    have h1 : decide (h.op ≠ 1) = true := by simp; exact fun e => hop (.inl e)
    have h2 : decide (h.op ≠ 2) = true := by simp; exact fun e => hop (.inr e)
    rw [h1] at e1
    rw [h2] at e2
    clear h1 h2 hop
    go_wp2
    go_ret2
    refine ⟨_, by rw [HM.out]; rfl, ?_, HK.out⟩
    rw [HM.out]
    exact World.ownsRow_nil _ _ _ _
end Go.Proofs.Ytgkbcfhgodjpaaa
