/- Package dhcp: contract of takeOptions, the walk. -/
import Derived.Test.YthjfeanmgaidcaaMg13
namespace Go.Proofs.Ythjfeanmgaidcaa
open Go.RowKit Go.Sort
set_option linter.unusedVariables false

set_option maxRecDepth 100000 in
set_option maxHeartbeats 8000000 in
theorem topt_yes (gc : Nat) (A : Option Addr) (n c : Nat) (s0 : Cst) (w : World) (h : Cutr w gc A n c s0) (hn : n ≤ 1099511627776) :
    Calls Try.prog 31 #[.pointer (some ⟨gc, 0, none⟩)] w fun e w' => ∃ v os s, e = .returned v ∧ OwnO w.heap.size (fun i => w.heap.size ≤ i) .u8 w' 47 v os ∧ OptRes s0 os s ∧ Cutr w' gc A n c s ∧ Kept (One gc) w w' := by
  have HGC := Lib.hid h.blo.lt
  have HC0 := Lib.hid h
  have HLA := Lib.hid h.byt.lt
  have HN := Lib.hid hn
  clear h hn
  obtain ⟨i0, hi, hz0, hz1, hz2⟩ := info_parts infOpt
  go_enter Try.func31, Try.ntmps31
  go_wp2_with (fail)
  refine (Byte_yes gc A n c _ _ HC0.out).mono ?_
  rintro e w1 ⟨rfl, hc, hk⟩
  obtain ⟨cd, s1, e1, e2, ho, hx⟩ := (MInv.start s0).byte (by have := HC0.out.le; have := HC0.out.len; omega)
  rw [e2] at hc
  rw [e1]
  have HC1 := Lib.hid hc
  have HO1 := Lib.hid ho
  have HK1 := Lib.hid hk
  clear hc ho hx hk e1 e2 HC0
  go_wp2
  go_loopg [3, 4] (n + 1) (fun q v t wr => ∃ (D : Nat → Prop) (os : List Opn) (cd : UInt8) (s : Cst), t = .int .u8 (cd.toNat : Int) ∧ (OwnO w.heap.size D .u8 wr 47 v os ∧ ∀ i, D i → w.heap.size ≤ i ∧ i < wr.heap.size ∧ v.ownBlock ≠ some i) ∧ OInv s0 os cd s ∧ Cutr wr gc A n c s ∧ Kept (One gc) w wr ∧ (s.er = 0 → n - s.k < q))
  case atStart => exact ⟨fun _ => False, [], cd, s1, rfl, ⟨OwnO.nil _ _ _ _ _, fun _ hf => hf.elim⟩, HO1.out, HC1.out, HK1.out, fun _ => by omega⟩
  case round =>
    obtain ⟨D, os, cd, s, rfl, ⟨hv, hd⟩, ho, hc, hk, hq⟩ := hrel
    have HD := Lib.hid hd
    have HV := Lib.hid hv
    have HO := Lib.hid ho
    have HC := Lib.hid hc
    have HK := Lib.hid hk
    have HQ := Lib.hid hq
    have e255 : ((cd.toNat : Int) != 255) = decide (cd ≠ 255) := u8_ne cd 255
    have e0 : ((cd.toNat : Int) != 0) = decide (cd ≠ 0) := u8_ne cd 0
    have r0 := hc.c0
    have r3 := hc.c3
    have HSK := Lib.hid (show s.k ≤ s.l.length by have := hc.le; have := hc.len; omega)
    have HSL := Lib.hid hc.len
    clear hv hd ho hc hk hq HC1 HO1 HK1
    by_cases h255 : cd = 255
    · rw [show decide (cd ≠ 255) = false by simp [h255]] at e255
      have HF := Lib.hid (HO.out.fin (.inl h255))
      clear h255 e0
      go_wp2_with (fail)
      go_ret
      exact ⟨_, os, s, rfl, HV.out.mono (Nat.le_refl _) (fun i hi => (HD.out i hi).1), HF.out, HC.out, HK.out⟩
    · rw [show decide (cd ≠ 255) = true by simp [h255]] at e255
      by_cases her : s.er = 0
      · have b1 : (s.er == 0) = true := by simp [her]
        by_cases h0 : cd = 0
        · rw [show decide (cd ≠ 0) = false by simp [h0]] at e0
          have HM := Lib.hid (show MInv s0 os s from OInv.zero (by rw [← h0]; exact HO.out))
          have HER := Lib.hid her
          clear her h0 h255
          go_wp2_with (go_at_call 33; refine (err_yes gc _ _ r0 r3).mono ?_; rintro e w' ⟨rfl, rfl⟩)
          refine (Byte_yes gc A n c _ _ HC.out).mono ?_
          rintro e wa ⟨rfl, hc, hk⟩
          obtain ⟨cd', s', e1, e2, ho, hx⟩ := HM.out.byte HSK.out
          rw [e2] at hc
          rw [e1]
          have HCA := Lib.hid hc
          have HOA := Lib.hid ho
          have HKA := Lib.hid (HK.out.same hk)
          have HVA := Lib.hid (HV.out.kept hk (fun i hi hf => by have := HV.out.ge i hi; have := HGC.out; cases hf; omega) (fun i hi hf => by have := (HD.out i hi).1; have := HGC.out; cases hf; omega))
          have hlt := hc.le
          have HX := Lib.hid hx
          have HDA := Lib.hid (fun i (hi : D i) => (⟨(HD.out i hi).1, Nat.lt_of_lt_of_le (HD.out i hi).2.1 hk.size, (HD.out i hi).2.2⟩ : w.heap.size ≤ i ∧ i < wa.heap.size ∧ _ ≠ some i))
          have HLT := Lib.hid hlt
          clear hc ho hk e1 e2 hx HV HO HC HK r0 r3 hlt
          go_wp2
          have hgk : 0 < gk := by have := HQ.out HER.out; omega
          go_roundg (gk - 1)
          case measure => omega
          case rel => exact ⟨D, os, cd', s', rfl, ⟨HVA.out, HDA.out⟩, HOA.out, HCA.out, HKA.out, fun h => by have h1 := HX.out h; have h2 := HQ.out HER.out; have := HLT.out; omega⟩
        · rw [show decide (cd ≠ 0) = true by simp [h0]] at e0
          obtain ⟨b, s2, vl, s3, e1, e2, e3, e4, hvl, hmi, hs3, hos⟩ := HO.out.opt her h0 h255 HSK.out
          have HE2 := Lib.hid e2
          have HE1 := Lib.hid e1
          have HE3 := Lib.hid e3
          have HE4 := Lib.hid e4
          have HVL := Lib.hid hvl
          have HMI := Lib.hid hmi
          have HS3 := Lib.hid hs3
          have HOS := Lib.hid (show os.length ≤ n by have := HC.out.le; omega)
          have HER := Lib.hid her
          have hb63 : (b.toNat : Int) ≤ 9223372036854775807 := by have := b.toNat_lt; omega
          have HB63 := Lib.hid hb63
          have hw64 : wrap64 (b.toNat : Int) = (b.toNat : Int) := by unfold wrap64; have := b.toNat_lt; omega
          clear her h0 h255 e1 e2 e3 e4 hvl hmi hs3 hos hb63
          go_wp2_with (go_at_call 33; refine (err_yes gc _ _ r0 r3).mono ?_; rintro e w' ⟨rfl, rfl⟩)
          refine (Byte_yes gc A n c _ _ HC.out).mono ?_
          rintro e wa ⟨rfl, hc, hk⟩
          rw [HE2.out] at hc
          rw [HE1.out]
          have hk2 := hk
          have HCA := Lib.hid hc
          have HKA := Lib.hid (HK.out.same hk)
          have HVA := Lib.hid (HV.out.kept hk (fun i hi hf => by have := HV.out.ge i hi; have := HGC.out; cases hf; omega) (fun i hi hf => by have := (HD.out i hi).1; have := HGC.out; cases hf; omega))
          clear hc hk HV HO HC HK r0 r3
          go_wp2_with (fail)
          have hwr := hk2.size
          refine (Take_yes gc A n c s2 (b.toNat : Int) _ HCA.out HB63.out (by have := HN.out; omega)).mono ?_
          rintro e wb ⟨v', rfl, ho, hc, hk⟩
          rw [HE3.out] at ho
          rw [HE4.out] at hc
          obtain ⟨A', c', rfl, hy, hl⟩ := Byt.of_own ho
          have hwa := HKA.out.size
          have hwab := hk.size
          have hvb := HVA.out.kept hk (fun i hi hf => by have := HVA.out.ge i hi; have := HGC.out; cases hf; omega) (fun i hi hf => by have := (HD.out i hi).1; have := HGC.out; cases hf; omega)
          have HCB := Lib.hid hc
          have HKB := Lib.hid (HKA.out.same hk)
          have hwb := (HKA.out.same hk).size
          obtain ⟨Aw, cw, rfl⟩ := hvb.form
          have hown : ∀ i, (Value.slice Aw os.length cw).ownBlock = some i → w.heap.size ≤ i ∧ i < wa.heap.size := by
            obtain ⟨rs, g1, _⟩ := HVA.out
            exact fun i hi => g1.lt i hi
          have HVB := Lib.hid hvb
          have HYB := Lib.hid hy
          have HLB := Lib.hid (show ∀ i, Lies A' vl.length i → w.heap.size ≤ i ∧ i < wb.heap.size ∧ (Value.slice Aw os.length cw).ownBlock ≠ some i from fun i hi => ⟨Nat.le_trans hwa (hl i hi), hy.lt i hi, fun e => by have h1 := (hown i e).2; have h2 := hl i hi; omega⟩)
          have HDB := Lib.hid (fun i (hi : D i) => (⟨(HD.out i hi).1, Nat.lt_of_lt_of_le (HD.out i hi).2.1 (Nat.le_trans hwr hwab), (HD.out i hi).2.2⟩ : w.heap.size ≤ i ∧ i < wb.heap.size ∧ (Value.slice Aw os.length cw).ownBlock ≠ some i))
          have hb1 : vl.length ≤ 255 := HVL.out
          obtain ⟨m, hm⟩ : ∃ m, vl.length = m := ⟨_, rfl⟩
          rw [hm] at HYB HLB hb1
          rw [hm]
          have HMM := Lib.hid hm
          have hka := ((Kept.refl Nil wb).alloc (.cells #[.int .u8 (cd.toNat : Int), .slice A' m c'] 47))
          obtain ⟨rs, g1, g2, g3, g4⟩ := hvb
          have HG1 := Lib.hid g1
          have HG2 := Lib.hid g2
          have HG3 := Lib.hid g3
          have HG4 := Lib.hid g4
          have HOW := Lib.hid (own_kept g1 hka (fun _ _ hf => hf))
          have HSR := Lib.hid (Rws.lit (s := 2) wb [[.int .u8 (cd.toNat : Int), .slice A' m c']] 47 (by simp) (by simp) #[.int .u8 (cd.toNat : Int), .slice A' m c'] rfl 1 rfl wb.heap.size rfl)
          have HHB := Lib.hid hwb
          have hos2 : os.length ≤ 1099511627776 := by have := HOS.out; have := HN.out; omega
          have HO2 := Lib.hid hos2
          clear ho hc hk hy hl hwa hwb hm hka g1 g2 g3 g4 hos2 HVA HKA HCA HE3 HE4 hk2 hwr hwab hown HD
          go_wp2_with (at_builtin; refine wpList_appR rfl _ _ 30 rfl 2 w.heap.size 47 32 i0 (.agg #[.int .u8 0, .slice none 0 0]) Try.underlying30 hi hz0 hz1 hz2 rfl (by decide) _ _ _ rfl HOW.out _ 1 1 [[.int .u8 (cd.toNat : Int), .slice A' m c']] rfl HSR.out (by intro u hu; simp at hu; rcases hu with rfl | rfl <;> rfl) (by have := HO2.out; unfold maxLen; omega) (by have := HO2.out; omega) (by have := HHB.out; simp; omega) ?_; intro v' wc hown hgr hor)
          have hkc : Kept (fun j => (Value.slice Aw os.length cw).ownBlock = some j) wb wc := ((Kept.refl _ wb).alloc _).grown hgr (fun k hk _ => hk)
          have hor' : v'.ownBlock = (Value.slice Aw os.length cw).ownBlock ∨ v'.ownBlock = some (wb.heap.size + 1) := by
            rcases hor with h | h
            · exact .inl h
            · exact .inr (by rw [h]; simp)
          have hns : OwnO w.heap.size (fun i => D i ∨ Lies A' m i) .u8 wc 47 v' (os ++ [(cd, vl)]) :=
            OwnO.snoc rfl rs HG2.out HG3.out (fun i r o hr ho => ((HG4.out i r o hr ho).kept hkc (fun j hj hf => (HDB.out j hj).2.2 hf)).mono (fun _ h => .inl h)) ⟨A', m, c', rfl, HYB.out.kept hkc (fun j hj hf => (HLB.out j hj).2.2 hf), fun i hi => .inr hi⟩ hown
          have hdn : ∀ i, (D i ∨ Lies A' m i) → w.heap.size ≤ i ∧ i < wc.heap.size ∧ v'.ownBlock ≠ some i := by
            intro i hi
            have h3 : w.heap.size ≤ i ∧ i < wb.heap.size ∧ (Value.slice Aw os.length cw).ownBlock ≠ some i := by
              rcases hi with hi | hi
              · exact HDB.out i hi
              · exact HLB.out i hi
            refine ⟨h3.1, Nat.lt_of_lt_of_le h3.2.1 hkc.size, fun e => ?_⟩
            rcases hor' with h | h
            · exact h3.2.2 (by rw [← h]; exact e)
            · rw [h] at e
              injection e with e
              omega
          have HVC := Lib.hid hns
          have HDC := Lib.hid hdn
          have HCC := Lib.hid (HCB.out.kept hkc (fun hf => by have := HVB.out.ge _ hf; have := HGC.out; omega) (fun j hj hf => by have h1 := HVB.out.ge _ hf; have := HLA.out j hj; omega))
          have HKC := Lib.hid (HKB.out.trans hkc (fun i hi hf => absurd (HVB.out.ge _ hf) (by omega)))
          clear hns hdn hkc hor hor' hown hgr HVB HDB HCB HKB HG1 HG2 HG3 HG4 HLB HYB HOW HSR
          go_wp2_with (fail)
          refine (Byte_yes gc A n c _ _ HCC.out).mono ?_
          rintro e wd ⟨rfl, hc, hk⟩
          obtain ⟨cd', s', e1, e2, ho, hx⟩ := HMI.out.byte (by have := HCC.out.le; have := HCC.out.len; omega)
          rw [e2] at hc
          rw [e1]
          have HCD := Lib.hid hc
          have HOD := Lib.hid ho
          have HKD := Lib.hid (HKC.out.same hk)
          have HVD := Lib.hid (HVC.out.kept hk (fun i hi hf => by have := HVC.out.ge i hi; have := HGC.out; cases hf; omega) (fun i hi hf => by have := (HDC.out i hi).1; have := HGC.out; cases hf; omega))
          have HDD := Lib.hid (fun i (hi : D i ∨ Lies A' m i) => (⟨(HDC.out i hi).1, Nat.lt_of_lt_of_le (HDC.out i hi).2.1 hk.size, (HDC.out i hi).2.2⟩ : w.heap.size ≤ i ∧ i < wd.heap.size ∧ v'.ownBlock ≠ some i))
          have HX := Lib.hid hx
          have HLT := Lib.hid hc.le
          clear hc ho hk e1 e2 hx HVC HCC HKC HDC
          go_wp2
          have hgk : 0 < gk := by have := HQ.out HER.out; omega
          go_roundg (gk - 1)
          case measure => omega
          case rel =>
            refine ⟨fun i => D i ∨ Lies A' m i, os ++ [(cd, vl)], cd', s', rfl, ⟨HVD.out, HDD.out⟩, HOD.out, HCD.out, HKD.out, fun h => ?_⟩
            have h1 := HX.out h
            have h4 := HQ.out HER.out
            have h5 := HLT.out
            have h7 := HS3.out h1.1
            omega
      · have b1 : (s.er == 0) = false := by simp [her]
        have HF := Lib.hid (HO.out.fin (.inr her))
        clear her h255 e0
        go_wp2_with (go_at_call 33; refine (err_yes gc _ _ r0 r3).mono ?_; rintro e w' ⟨rfl, rfl⟩)
        go_ret
        exact ⟨_, os, s, rfl, HV.out.mono (Nat.le_refl _) (fun i hi => (HD.out i hi).1), HF.out, HC.out, HK.out⟩
end Go.Proofs.Ythjfeanmgaidcaa
