/- Package icmp: contract of Get. -/
import Derived.Test.YtkpelaojjfcpfaaIcH
import Derived.Test.YtkpelaojjfcpfaaInL
import Derived.Test.YtkpelaojjfcpfaaCutC
import Derived.Test.YtkpelaojjfcpfaaEthT
import Derived.Laws.CopyOwn
namespace Go.Proofs.Ytkpelaojjfcpfaa
open Go.RowKit Go.Sort
set_option linter.unusedVariables false

/-- The rest of eight bytes, read; ahead of that the cutter. The blocks that the region has made are none of the cutter's. -/
def rsJ (n0 gc : Nat) (A : Option Addr) (c : Nat) (s0 : Cst) (l : List UInt8) (D : Nat → Prop) (s : List Value) (u : World) : Prop := n0 ≤ u.heap.size ∧ gc < n0 ∧ (∀ k, D k → n0 ≤ k) ∧ match s with
  | [] => Cutr u gc A 8 c s0
  | v :: _ => ∃ A c, v = .slice A 4 c ∧ Byt u A 4 c l ∧ ∀ i, Lies A 4 i → n0 ≤ i
theorem rsJ_keeps (n0 gc : Nat) (A : Option Addr) (c : Nat) (s0 : Cst) (l : List UInt8) : Keeps (rsJ n0 gc A c s0 l) where
  quiet := fun D s u u' ⟨h1, h0, h3, h2⟩ hk => ⟨Nat.le_trans h1 hk.size, h0, h3, by
    cases s with
    | nil => exact Cutr.kept h2 hk (fun hf => hf) (fun _ _ hf => hf)
    | cons v s => obtain ⟨A, c, hv, hb, hl⟩ := h2; exact ⟨A, c, hv, hb.kept hk (fun _ _ hf => hf), hl⟩⟩
  make := fun D s u o ⟨h1, h0, h3, h2⟩ => ⟨by simp; omega, h0, fun k hk => by
      rcases hk with hk | rfl
      · exact h3 k hk
      · exact h1, by
    cases s with
    | nil => exact Cutr.kept h2 ((Kept.refl Nil u).alloc o) (fun hf => hf) (fun _ _ hf => hf)
    | cons v s => obtain ⟨A, c, hv, hb, hl⟩ := h2; exact ⟨A, c, hv, hb.kept ((Kept.refl Nil u).alloc o) (fun _ _ hf => hf), hl⟩⟩
def ct8 (t c x y p q r s : UInt8) (k : Nat) : Cst := ⟨[t, c, x, y, p, q, r, s], k, 0⟩
theorem ct_a (t c x y p q r s : UInt8) : takeM (ct8 t c x y p q r s 0) 1 = ([t], ct8 t c x y p q r s 1) := by simp [takeM, ct8]
theorem ct_b (t c x y p q r s : UInt8) : takeM (ct8 t c x y p q r s 1) 1 = ([c], ct8 t c x y p q r s 2) := by simp [takeM, ct8]
theorem ct_c (t c x y p q r s : UInt8) : takeM (ct8 t c x y p q r s 2) 2 = ([x, y], ct8 t c x y p q r s 4) := by simp [takeM, ct8]
theorem ct_d (t c x y p q r s : UInt8) : takeM (ct8 t c x y p q r s 4) (leftM (ct8 t c x y p q r s 4)) = ([p, q, r, s], ct8 t c x y p q r s 8) := by simp [takeM, ct8, leftM]
theorem num_one (t : UInt8) : numM [t] = t.toNat := by simp [numM]
theorem szSl : (Try.prog.info? 22).map (·.size) = some 1 := by kernel_rfl
def MsG (w : World) (e : Ending) (w' : World) (r : Ms × Int) : Prop := ∃ A n c, e = .returned (.tuple #[.agg (ics r.1 A n c).toArray, .int .i64 r.2]) ∧ NewB w w' A n c r.1.b ∧ Kept Nil w w'
set_option maxRecDepth 100000 in
set_option maxHeartbeats 16000000 in
theorem icget_yes (A : Option Addr) (n c : Nat) (l : List UInt8) (w : World) (h : Byt w A n c l) (hn : n ≤ 1099511627776) : Calls Try.prog 8 #[.slice A n c] w fun e w' => MsG w e w' (getI l) := by
  have hnc := h.2.1
  have hcc := h.2.2.1
  have hll := h.1
  have HBY := Lib.hid h
  have HB0 := Lib.hid (MB.new w 25 Ms.zero none 0 0)
  have HK0 := Lib.hid ((Kept.refl Nil w).alloc (.cells (ics Ms.zero none 0 0).toArray 25))
  have HLL := Lib.hid hll
  have HRES := Lib.hid (show ∀ (er : Int) (u : World), getI l = (Ms.zero, er) → Kept Nil w u → MsG w (.returned (.tuple #[.agg (ics Ms.zero none 0 0).toArray, .int .i64 er])) u (getI l) from fun er u hg hk => by
    rw [hg]
    exact ⟨none, 0, 0, rfl, newB_none _ _, hk⟩)
  have HSH := Lib.hid (getI_short l)
  have HSM := Lib.hid (getI_sum l)
  have HEI := Lib.hid (eight l)
  have HOK := Lib.hid getI_ok
  obtain ⟨R, hR⟩ : ∃ r, getI l = r := ⟨_, rfl⟩
  have HRE := Lib.hid hR
  rw [hR] at HSH HSM HRES ⊢
  clear h hll hR
  go_enter Try.func8, Try.ntmps8
  by_cases h8 : n < 8
  · have h8' : (n : Int) < 8 := by omega
    have HG := Lib.hid (HSH.out (by have := HLL.out; omega))
    clear h8 HSH HSM HEI HOK HBY
    go_wp2_with (first
      | (refine wpList_st rfl _ (.tmp 2) _ rfl w.heap.size 0 rfl (ics Ms.zero none 0 0) _ rfl rfl (infMs _ _ _ _) 25 _ HB0.out (by rw [ics_len]; omega) (ics_one _ _ _ _) ?_; intro w1 hb hk hz; simp only [Act.put])
      | fail)
    have h2 : MB w1 w.heap.size 25 Ms.zero none 0 0 := hb
    refine bodyPost_ret (res_cell1 Try.results8 rfl rfl h2.all Try.underlying25 rfl (infMs _ _ _ _)) rfl ?_
    exact HRES.out 4 _ HG.out (HK0.out.fresh hk (fun i hi => by cases hi; exact Nat.le_refl _))
  · have h8' : ¬ (n : Int) < 8 := by omega
    have HN8 := Lib.hid (show 8 ≤ n by omega)
    obtain ⟨sm, hsm⟩ : ∃ x, sumM l = x := ⟨_, rfl⟩
    have HSMM := Lib.hid hsm
    go_wp2_with (fail)
    refine (isum_yes A n c l _ (HBY.out.kept HK0.out (fun _ _ hf => hf)) hn).mono ?_
    rintro e w1 ⟨rfl, hk⟩
    rw [hsm]
    have HB1 := Lib.hid (HB0.out.kept hk (fun hf => hf))
    have HK1 := Lib.hid (HK0.out.then hk)
    obtain ⟨g2, hg2⟩ : ∃ g, w.heap.size = g := ⟨_, rfl⟩
    have HLO := Lib.hid (show w.heap.size ≤ g2 by omega)
    rw [hg2] at HB1 ⊢
    clear hk HB0 HK0 hg2 HSH hsm h8
    by_cases hs : sm = 0
    · subst hs
      obtain ⟨t, cd, x, y, p, q, r, s, body, rfl⟩ := HEI.out (by have := HLL.out; have := HN8.out; omega)
      have HG := Lib.hid (HRE.out.symm.trans (HOK.out t cd x y p q r s body HSMM.out))
      have hsl8 := run_cut_hi (P := Try.prog) Try.underlying22 inf5.1 A n c 8 (8 : Int) rfl (by have := HN8.out; omega)
      have hsl9 := run_cut_lo (P := Try.prog) Try.underlying22 inf5.1 inf5.2 A n c 8 (8 : Int) rfl HN8.out
      have HPR := Lib.hid (show Byt w A 8 c [t, cd, x, y, p, q, r, s] from HBY.out.pre HN8.out)
      have HCU := Lib.hid (show Byt w (cutA A c 8) (n - 8) (c - 8) body from by
        have := HBY.out.cut (lo := 8) (hi := n) HN8.out (Nat.le_refl _)
        rw [List.take_of_length_le (by rw [HLL.out]; exact Nat.le_refl _)] at this
        exact this)
      clear HEI HOK HSM HSMM HRES HRE
      have HNM := Lib.hid (show n - 8 ≤ 1099511627776 by omega)
      generalize cutA A c 8 = A8 at *
      generalize c - 8 = c8 at *
      generalize n - 8 = n8 at *
      go_wp2_with (fail)
      refine (new_yes A 8 c _ _ (HPR.out.kept HK1.out (fun _ _ hf => hf)) (by omega)).mono ?_
      rintro e w2 ⟨gc, A2, c2, rfl, hc, hk, hgc, hA2⟩
      have HC2 := Lib.hid (show Cutr w2 gc A2 8 c2 (ct8 t cd x y p q r s 0) from hc)
      have HB2 := Lib.hid (HB1.out.kept hk (fun hf => hf))
      have HK2 := Lib.hid (HK1.out.then hk)
      have HGC := Lib.hid (show g2 < gc from Nat.lt_of_lt_of_le HB1.out.lt hgc)
      have HA2 := Lib.hid (show ∀ i, Lies A2 8 i → g2 < i from fun i hi => Nat.lt_of_lt_of_le HB1.out.lt (hA2 i hi))
      clear hc hk hgc hA2 HB1 HK1 HPR HBY hsl8
      go_wp2_with (fail)
      refine (Byte_yes gc A2 8 c2 _ _ HC2.out).mono ?_
      rintro e w3 ⟨rfl, hc, hk⟩
      rw [ct_a] at hc ⊢
      have HC3 := Lib.hid hc
      have HB3 := Lib.hid (HB2.out.kept hk (fun hf => by have := HGC.out; cases hf; omega))
      have HK3 := Lib.hid (HK2.out.fresh hk (fun i hi => by have := HGC.out; have := HLO.out; cases hi; omega))
      clear hc hk HC2 HB2 HK2
      rw [num_one]
      go_wp2_with (fail)
      refine (Byte_yes gc A2 8 c2 _ _ HC3.out).mono ?_
      rintro e w4 ⟨rfl, hc, hk⟩
      rw [ct_b] at hc ⊢
      have HC4 := Lib.hid hc
      have HB4 := Lib.hid (HB3.out.kept hk (fun hf => by have := HGC.out; cases hf; omega))
      have HK4 := Lib.hid (HK3.out.fresh hk (fun i hi => by have := HGC.out; have := HLO.out; cases hi; omega))
      clear hc hk HC3 HB3 HK3
      rw [num_one]
      have HZ := Lib.hid (MB.new w4 25 Ms.zero none 0 0)
      go_upto_region 7 with (first
        | (refine wpList_st rfl _ (.tmp 5) _ rfl w4.heap.size 0 rfl (ics ⟨t, cd, 0, 0, 0, 0, []⟩ none 0 0) _ rfl rfl (infMs _ _ _ _) 25 _ HZ.out (by rw [ics_len, ics_len]; omega) (ics_one _ _ _ _) ?_; intro w5 hb hks hz; simp only [Act.put])
        | fail)
      have hks2 := ((Kept.refl Nil w4).alloc (.cells (ics Ms.zero none 0 0).toArray 25)).fresh hks (fun i hi => by cases hi; exact Nat.le_refl _)
      have HM5 := Lib.hid (show MB w5 w4.heap.size 25 ⟨t, cd, 0, 0, 0, 0, []⟩ none 0 0 from hb)
      have HC5 := Lib.hid (HC4.out.kept hks2 (fun hf => hf) (fun _ _ hf => hf))
      have HB5 := Lib.hid (HB4.out.kept hks2 (fun hf => hf))
      have HK5 := Lib.hid (HK4.out.then hks2)
      have HGM := Lib.hid (show gc < w4.heap.size from HC4.out.blo.lt)
      have HAM := Lib.hid (show ∀ i, Lies A2 8 i → i < w4.heap.size from HC4.out.byt.lt)
      obtain ⟨gm, hgm⟩ : ∃ g, w4.heap.size = g := ⟨_, rfl⟩
      rw [hgm] at HM5 HGM HAM ⊢
      clear hb hks hz hks2 HZ HB4 HK4 HC4 hgm
      go_wp2_with (fail)
      refine (Skip_yes gc A2 8 c2 _ 2 _ HC5.out (by decide)).mono ?_
      rintro e w6 ⟨rfl, hc, hk⟩
      rw [ct_c] at hc
      have HC6 := Lib.hid hc
      have HB6 := Lib.hid (HB5.out.kept hk (fun hf => by have := HGC.out; cases hf; omega))
      have HM6 := Lib.hid (HM5.out.kept hk (fun hf => by have := HGM.out; cases hf; omega))
      have HK6 := Lib.hid (HK5.out.fresh hk (fun i hi => by have := HGC.out; have := HLO.out; cases hi; omega))
      clear hc hk HC5 HB5 HK5 HM5
      go_upto_region 8 with (fail)
      refine wp_region_acts (One gc) [3] (fun i vl => (#[], 0)) (fun i => undef) (rsJ w6.heap.size gc A2 c2 (ct8 t cd x y p q r s 4) [p, q, r, s]) (fun i v => ∃ A c, v = .slice A 4 c) 4 (by kernel_rfl) (by kernel_rfl) (rsJ_keeps _ _ _ _ _ _) ⟨Nat.le_refl _, HC6.out.blo.lt, fun k hk => hk.elim, HC6.out⟩ ?_
      simp only [List.take_succ_cons, List.take_zero, List.drop_succ_cons, List.drop_zero]
      refine tLex_quiets 3 rfl (by kernel_rfl) ?_
      simp only [List.take_succ_cons, List.take_zero, List.drop_succ_cons, List.drop_zero]
      apply Exists.intro
      refine ⟨?hq, ?hv, ?ht⟩
      case hq =>
        intro V hV
        clear hV
        repeat (go_big_quiet_step (fail))
        exact wpQuiet_nil rfl
      case hv => exact ⟨trivial, trivial, trivial, trivial⟩
      case ht =>
        refine tLex_act 25 #[.pointer (some ⟨gc, 0, none⟩)] (fun u => ?he) rfl rfl (.slice none 4 0) ⟨_, _, rfl⟩ ?hc ?_
        case he => simp [execOp, go_sem]
        case hc =>
          intro D u hu hI hd
          refine (Rest_yes gc A2 8 c2 _ u hI.2.2.2 (by decide)).mono ?_
          rintro e w' ⟨v, rfl, ho, hc, hk⟩
          rw [ct_d] at ho hc
          obtain ⟨A3, c3, rfl, hy, hl⟩ := Byt.of_own ho
          refine ⟨_, rfl, ⟨A3, c3, rfl⟩, hu.same hk, ⟨Nat.le_trans hI.1 hk.size, hI.2.1, hI.2.2.1, A3, c3, rfl, hy, fun i hi => Nat.le_trans hI.1 (hl i hi)⟩, hk.size, fun k hD hk' => ?_⟩
          exact hk.block k hk' (fun hf => by have h1 := hI.2.2.1 k hD; have h2 := hI.2.1; cases hf; omega)
        rintro v ⟨A3, c3, rfl⟩
        intro w7 hs
        obtain ⟨_, _, _, A3', c3', he, hy3, hl3⟩ := hs.know
        cases he
        have hk7 : Kept (One gc) w6 w7 := hs.kept
        have HB7 := Lib.hid (HB6.out.kept hk7 (fun hf => by have := HGC.out; cases hf; omega))
        have HM7 := Lib.hid (HM6.out.kept hk7 (fun hf => by have := HGM.out; cases hf; omega))
        have HK7 := Lib.hid (HK6.out.fresh hk7 (fun i hi => by have := HGC.out; have := HLO.out; cases hi; omega))
        have HL3 := Lib.hid (show ∀ i, Lies A3 4 i → gm < i from fun i hi => Nat.lt_of_lt_of_le HM6.out.lt (hl3 i hi))
        have HY3 := Lib.hid hy3
        clear hs hy3 hl3 hk7 HC6 HB6 HM6 HK6
        obtain ⟨b3, o3, hA3, -⟩ := HY3.out.2.2.2 (by decide)
        subst hA3
        simp only [Act.put, List.setIfInBounds_toArray, List.set_cons_succ, List.set_cons_zero]
        refine wpList_copy_own rfl (.tmp 25) (.tmp 27) 22 22 rfl 5 Try.underlying22 sz5 gm 2 4 4 ⟨b3, o3, none⟩ 4 c3 rfl rfl (ics ⟨t, cd, 0, 0, 0, 0, []⟩ none 0 0).toArray 25 HM7.out (bys [p, q, r, s]) rfl HY3.out.news (show 2 + 4 ≤ 7 from by decide) (bys_one _) ?_
        go_upto_region 9 with (fail)
        refine wp_nameE (fun W => MB W gm 25 ⟨t, cd, p, q, r, s, []⟩ none 0 0 ∧ Kept (One gm) w7 W) ⟨setRow_heap w7 gm _ _ _ _ HM7.out, kept_setRow w7 gm _⟩ ?_
        rintro w8 ⟨hm8, hk8⟩
        have HM8 := Lib.hid hm8
        have HB8 := Lib.hid (HB7.out.kept hk8 (fun hf => by have := HGC.out; have := HGM.out; cases hf; omega))
        have HK8 := Lib.hid (HK7.out.fresh hk8 (fun i hi => by have := HGC.out; have := HLO.out; have := HGM.out; cases hi; omega))
        clear hm8 hk8 HB7 HM7 HK7 HY3 HL3
        go_wp2_with (fail)
        refine (sclone A8 n8 c8 body _ (HCU.out.kept HK8.out (fun _ _ hf => hf)) (by have := HNM.out; omega)).mono ?_
        rintro e w9 ⟨v, rfl, hm⟩
        obtain ⟨A9, c9, rfl, hy9, hl9⟩ := byt_own hm
        have hn9 : body.length = n8 := HCU.out.1
        rw [hn9] at hy9 hl9 ⊢
        have HY9 := Lib.hid hy9
        have HL9 := Lib.hid (show ∀ i, Lies A9 n8 i → gm < i from fun i hi => Nat.lt_of_lt_of_le HM8.out.lt (hl9 i hi))
        have HB9 := Lib.hid (HB8.out.kept hm.2 (fun hf => hf))
        have HM9 := Lib.hid (HM8.out.kept hm.2 (fun hf => hf))
        have HK9 := Lib.hid (HK8.out.then hm.2)
        clear hm hy9 hl9 hn9 HB8 HM8 HK8 HCU
        go_upto_region 10 with (first
          | (refine wpList_st rfl _ _ _ rfl gm 6 rfl [.slice A9 n8 c9] _ rfl rfl szSl 25 _ HM9.out (show 6 + 1 ≤ 7 from by decide) (by intro u hu; simp at hu; subst hu; rfl) ?_; intro w10 hb hks hz; simp only [Act.put])
          | fail)
        have HM10 := Lib.hid (show MB w10 gm 25 ⟨t, cd, p, q, r, s, body⟩ A9 n8 c9 from hb)
        have HB10 := Lib.hid (HB9.out.kept hks (fun hf => by have := HGC.out; have := HGM.out; cases hf; omega))
        have HY10 := Lib.hid (HY9.out.kept hks (fun i hi hf => by have := HL9.out i hi; cases hf; omega))
        have HK10 := Lib.hid (HK9.out.fresh hks (fun i hi => by have := HGC.out; have := HLO.out; have := HGM.out; cases hi; omega))
        clear hb hks hz HB9 HM9 HK9 HY9
        go_wp2_with (first
          | (refine wpList_ld rfl _ _ rfl gm 0 rfl (ics ⟨t, cd, p, q, r, s, body⟩ A9 n8 c9) HM10.out.all _ Try.underlying25 rfl (infMs _ _ _ _) ?_; simp only [Act.put, List.setIfInBounds_toArray, List.set_cons_succ, List.set_cons_zero])
          | (refine wpList_st rfl _ (.tmp 2) _ rfl g2 0 rfl (ics ⟨t, cd, p, q, r, s, body⟩ A9 n8 c9) _ rfl rfl (infMs _ _ _ _) 25 _ HB10.out (by rw [ics_len, ics_len]; omega) (ics_one _ _ _ _) ?_; intro w11 hb hk hz; simp only [Act.put])
          | fail)
        have h2 : MB w11 g2 25 ⟨t, cd, p, q, r, s, body⟩ A9 n8 c9 := hb
        refine bodyPost_ret (res_cell1 Try.results8 rfl rfl h2.all Try.underlying25 rfl (infMs _ _ _ _)) rfl ?_
        rw [HG.out]
        refine ⟨A9, n8, c9, rfl, ⟨HY10.out.kept hk (fun i hi hf => by have := HL9.out i hi; have := HGC.out; have := HGM.out; cases hf; omega), fun i hi => by have := HL9.out i hi; have := HGC.out; have := HLO.out; have := HGM.out; omega⟩, HK10.out.fresh hk (fun i hi => by cases hi; exact HLO.out)⟩
    · have hs' : ((sm : Int) != 0) = true := by simp [hs]
      have HG := Lib.hid (HSM.out (by have := HLL.out; have := HN8.out; omega) (by rw [HSMM.out]; exact hs))
      clear hs HEI HOK HSM HSMM
      go_wp2_with (first
        | (refine wpList_st rfl _ (.tmp 2) _ rfl g2 0 rfl (ics Ms.zero none 0 0) _ rfl rfl (infMs _ _ _ _) 25 _ HB1.out (by rw [ics_len]; omega) (ics_one _ _ _ _) ?_; intro w2 hb hk hz; simp only [Act.put])
        | fail)
      have h2 : MB w2 g2 25 Ms.zero none 0 0 := hb
      refine bodyPost_ret (res_cell1 Try.results8 rfl rfl h2.all Try.underlying25 rfl (infMs _ _ _ _)) rfl ?_
      exact HRES.out 21 _ HG.out (HK1.out.fresh hk (fun i hi => by cases hi; exact HLO.out))
end Go.Proofs.Ytkpelaojjfcpfaa
