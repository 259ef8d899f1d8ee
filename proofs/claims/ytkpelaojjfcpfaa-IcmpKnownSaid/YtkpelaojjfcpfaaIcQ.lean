/- Package icmp: contracts of isWhole and Quote. -/
import Derived.Test.YtkpelaojjfcpfaaIcD
import Derived.Test.YtkpelaojjfcpfaaIcH
import Derived.Test.YtkpelaojjfcpfaaInO
namespace Go.Proofs.Ytkpelaojjfcpfaa
open Go.RowKit Go.Sort
set_option linter.unusedVariables false

def quoteM (m : Ms) : Hd × List UInt8 × Int :=
  if kindN m.t.toNat ≠ 1 then (Hd.zero, [], 1) else if (readHM m.b false).2.2 ≠ 0 then (Hd.zero, [], (readHM m.b false).2.2) else
  if (readHM m.b false).2.1.length < 8 ∧ (readHM m.b true).2.2 = 4 then (Hd.zero, [], 4) else readHM m.b false
set_option maxRecDepth 100000 in
set_option maxHeartbeats 4000000 in
theorem iwhole_yes (A : Option Addr) (n c : Nat) (l : List UInt8) (w : World) (h : Byt w A n c l) (hn : n ≤ 1099511627776) : Calls Try.prog 42 #[.slice A n c] w fun e w' => e = .returned (.bool ((readHM l true).2.2 != 4)) ∧ Kept Nil w w' := by
  have HH := iget_yes A n c l w h hn
  generalize readHM l true = R at *
  obtain ⟨F, X, E⟩ := R
  dsimp only
  have HH := Lib.hid HH
  clear h
  go_enter Try.func42, Try.ntmps42
  go_wp2_with (fail)
  refine HH.out.mono ?_
  rintro e w1 ⟨A1, n1, c1, A2, n2, c2, rfl, -, -, hk⟩
  dsimp only
  have HZ := Lib.hid (HB.new w1 47 Hd.zero none 0 0)
  go_upto_region 2 with (first
    | (refine wpList_st rfl _ (.tmp 3) _ rfl w1.heap.size 0 rfl (hcs F A1 n1 c1) _ rfl rfl (infHi _ _ _ _) 47 _ HZ.out (by rw [hcs_len, hcs_len]; omega) (hcs_one _ _ _ _) ?_; intro w2 hb hks hz; simp only [Act.put])
    | fail)
  have HK := Lib.hid (hk.then (((Kept.refl Nil w1).alloc (.cells (hcs Hd.zero none 0 0).toArray 47)).fresh hks (fun i hi => by cases hi; exact Nat.le_refl _)))
  clear hb hks hz hk HZ HH
  go_wp2
  go_ret
  exact ⟨rfl, HK.out⟩
set_option maxRecDepth 100000 in
set_option maxHeartbeats 16000000 in
theorem quote_yes (m : Ms) (A : Option Addr) (n c : Nat) (w : World) (hy : Byt w A n c m.b) (hn : n ≤ 1099511627776) : Calls Try.prog 16 #[msv m A n c] w fun e w' => GetIs w e w' (quoteM m) := by
  have hI := MB.new w 25 m A n c
  have hk := (Kept.refl Nil w).alloc (.cells (ics m A n c).toArray 25)
  have hZ : HB ((w.alloc (.cells (ics m A n c).toArray 25)).alloc (.cells (hcs Hd.zero none 0 0).toArray 47)) (w.heap.size + 1) 47 Hd.zero none 0 0 := by simpa using HB.new (w.alloc (.cells (ics m A n c).toArray 25)) 47 Hd.zero none 0 0
  have hk2 := (Kept.refl Nil (w.alloc (.cells (ics m A n c).toArray 25))).alloc (.cells (hcs Hd.zero none 0 0).toArray 47)
  have hI2 := hI.kept hk2 (fun hf => hf)
  have HKI := Lib.hid (fun u => kind_yes m A n c u)
  have hq : quoteM m = if kindN m.t.toNat ≠ 1 then (Hd.zero, [], 1) else if (readHM m.b false).2.2 ≠ 0 then (Hd.zero, [], (readHM m.b false).2.2) else
    if (readHM m.b false).2.1.length < 8 ∧ (readHM m.b true).2.2 = 4 then (Hd.zero, [], 4) else readHM m.b false := rfl
  have hc := (fun u hb => icut_yes A n c m.b u hb hn)
  have HW := Lib.hid (fun u hb => iwhole_yes A n c m.b u hb hn)
  have HY := Lib.hid hy
  unfold msv at HKI ⊢
  generalize hkn : kindN m.t.toNat = kn at *
  generalize quoteM m = Q at *
  generalize readHM m.b false = R at *
  generalize hwt : (readHM m.b true).2.2 = wt at *
  obtain ⟨F, X, E⟩ := R
  try dsimp only at hq
  have HQ := Lib.hid hq
  have HC := Lib.hid hc
  have HRES := Lib.hid (show ∀ (er : Int) (u : World), Q = (Hd.zero, [], er) → Kept Nil w u → GetIs w (.returned (.tuple #[.agg (hcs Hd.zero none 0 0).toArray, .slice none 0 0, .int .i64 er])) u Q from fun er u hg hk => by
    rw [hg]
    exact ⟨none, 0, 0, none, 0, 0, rfl, newB_none _ _, newB_none _ _, hk⟩)
  clear hy hkn hwt hq hc
  go_enter Try.func16, Try.ntmps16
  go_upto_region 1 with (fail)
  refine wp_nameE (fun W => MB W w.heap.size 25 m A n c ∧ HB W (w.heap.size + 1) 47 Hd.zero none 0 0 ∧ Kept Nil w W) ⟨hI2, hZ, hk.then hk2⟩ ?_
  clear hI hk hZ hk2 hI2
  rintro W ⟨hI, hZ, hk⟩
  obtain ⟨g1, hg1⟩ : ∃ g, w.heap.size = g := ⟨_, rfl⟩
  have HLO := Lib.hid (show w.heap.size ≤ g1 by omega)
  rw [hg1] at hI hZ ⊢
  obtain ⟨g2, hg2⟩ : ∃ g, g1 + 1 = g := ⟨_, rfl⟩
  have HLO2 := Lib.hid (show g1 < g2 by omega)
  rw [hg2] at hZ ⊢
  have HI := Lib.hid hI
  have HZ := Lib.hid hZ
  have HK := Lib.hid hk
  clear hI hZ hk hg1 hg2
  go_wp2_with (first
    | (refine wpList_ld rfl _ _ rfl g1 0 rfl (ics m A n c) HI.out.all _ Try.underlying25 rfl (infMs _ _ _ _) ?_; simp only [Act.put, List.setIfInBounds_toArray, List.set_cons_succ, List.set_cons_zero])
    | fail)
  refine (HKI.out _).mono ?_
  rintro e w1 ⟨rfl, hk⟩
  have HI1 := Lib.hid (HI.out.kept hk (fun hf => hf))
  have HZ1 := Lib.hid (HZ.out.kept hk (fun hf => hf))
  have HK1 := Lib.hid (HK.out.then hk)
  clear hk HI HZ HK HKI
  by_cases h1 : kn = 1
  · subst h1
    have HQ := Lib.hid (HQ.out.trans (if_neg (by simp)))
    have HY1 := Lib.hid (HY.out.kept HK1.out (fun _ _ hf => hf))
    have HYW := Lib.hid HY.out
    have c6 := HI1.out.c6
    clear HY
    go_wp2_with (fail)
    refine (HC.out w1 HY1.out).mono ?_
    rintro e w2 ⟨A1, n1, c1, A2, n2, c2, rfl, hx1, hx2, hk⟩
    dsimp only at hx1 hx2 ⊢
    have HI2 := Lib.hid (HI1.out.kept hk (fun hf => hf))
    have HZ2 := Lib.hid (HZ1.out.kept hk (fun hf => hf))
    have HK2 := Lib.hid (HK1.out.then hk)
    have HY2 := Lib.hid (HY1.out.kept hk (fun _ _ hf => hf))
    have HX1 := Lib.hid hx1
    have HX2 := Lib.hid hx2
    have HG2 := Lib.hid (show g2 < w1.heap.size from HZ1.out.lt)
    clear hk hx1 hx2 HI1 HZ1 HY1 HC c6
    go_upto_region 4 with (first
      | (refine wpList_st rfl _ (.tmp 2) _ rfl g2 0 rfl (hcs F A1 n1 c1) _ rfl rfl (infHi _ _ _ _) 47 _ HZ2.out (by rw [hcs_len, hcs_len]; omega) (hcs_one _ _ _ _) ?_; intro w3 hb hks hz; simp only [Act.put])
      | fail)
    have HZ3 := Lib.hid (show HB w3 g2 47 F A1 n1 c1 from HB.of_all hb)
    have HI3 := Lib.hid (HI2.out.kept hks (fun hf => by have := HLO2.out; cases hf; omega))
    have HK3 := Lib.hid (HK2.out.fresh hks (fun i hi => by have := HLO.out; have := HLO2.out; cases hi; omega))
    have HY3 := Lib.hid (HYW.out.kept HK3.out (fun _ _ hf => hf))
    have HX13 := Lib.hid (HX1.out.kept hks (fun i hi hf => by have := HG2.out; cases hf; omega))
    have HX23 := Lib.hid (HX2.out.kept hks (fun i hi hf => by have := HG2.out; cases hf; omega))
    have hn2 : X.length = n2 := HX2.out.1.1
    rw [hn2] at HQ
    have c6 := HI3.out.c6
    clear hb hks hz HI2 HZ2 HK2 HY2 HX1 HX2 hn2
    by_cases hE : E = 0
    · subst hE
      have HQ := Lib.hid (HQ.out.trans (if_neg (by simp)))
      by_cases h8 : n2 < 8
      · have h8' : (n2 : Int) < 8 := by omega
        by_cases hw : wt = 4
        · have HQ := Lib.hid (HQ.out.trans (if_pos ⟨h8, hw⟩))
          have hwb : (wt != 4) = false := by simp [hw]
          rw [hwb] at HW
          clear h8 hw
          go_wp2_with (fail)
          refine (HW.out w3 HY3.out).mono ?_
          rintro e w4 ⟨rfl, hk⟩
          have HZ4 := Lib.hid (HZ3.out.kept hk (fun hf => hf))
          have HK4 := Lib.hid (HK3.out.then hk)
          clear hk HZ3 HK3 HI3 HY3 HX13 HX23 c6
          go_wp2_with (first
            | (refine wpList_st rfl _ (.tmp 2) _ rfl g2 0 rfl (hcs Hd.zero none 0 0) _ rfl rfl (infHi _ _ _ _) 47 _ HZ4.out (by rw [hcs_len, hcs_len]; omega) (hcs_one _ _ _ _) ?_; intro w5 hb hks hz; simp only [Act.put])
            | fail)
          have h2 : HB w5 g2 47 Hd.zero none 0 0 := HB.of_all hb
          refine bodyPost_ret (res_cell2 Try.results16 rfl rfl rfl h2.all Try.underlying47 rfl (infHi _ _ _ _)) rfl ?_
          exact HRES.out 4 _ HQ.out (HK4.out.fresh hks (fun i hi => by have := HLO.out; have := HLO2.out; cases hi; omega))
        · have HQ := Lib.hid (HQ.out.trans (if_neg (fun e => hw e.2)))
          have hwb : (wt != 4) = true := by simp [hw]
          rw [hwb] at HW
          clear h8 hw
          go_wp2_with (fail)
          refine (HW.out w3 HY3.out).mono ?_
          rintro e w4 ⟨rfl, hk⟩
          have HZ4 := Lib.hid (HZ3.out.kept hk (fun hf => hf))
          have HK4 := Lib.hid (HK3.out.then hk)
          have HX14 := Lib.hid (HX13.out.kept hk (fun _ _ hf => hf))
          have HX24 := Lib.hid (HX23.out.kept hk (fun _ _ hf => hf))
          clear hk HZ3 HK3 HI3 HY3 HX13 HX23 c6
          go_wp2_with (first
            | (refine wpList_ld rfl _ _ rfl g2 0 rfl (hcs F A1 n1 c1) HZ4.out.all _ Try.underlying47 rfl (infHi _ _ _ _) ?_; simp only [Act.put, List.setIfInBounds_toArray, List.set_cons_succ, List.set_cons_zero])
            | (refine wpList_st rfl _ (.tmp 2) _ rfl g2 0 rfl (hcs F A1 n1 c1) _ rfl rfl (infHi _ _ _ _) 47 _ HZ4.out (by rw [hcs_len]; omega) (hcs_one _ _ _ _) ?_; intro w5 hb hks hz; simp only [Act.put])
            | fail)
          have h2 : HB w5 g2 47 F A1 n1 c1 := HB.of_all hb
          refine bodyPost_ret (res_cell2 Try.results16 rfl rfl rfl h2.all Try.underlying47 rfl (infHi _ _ _ _)) rfl ?_
          rw [HQ.out]
          exact ⟨A1, n1, c1, A2, n2, c2, rfl, (HX14.out.kept hks (fun i hi hf => by have := HG2.out; cases hf; omega)).older HK1.out.size, (HX24.out.kept hks (fun i hi hf => by have := HG2.out; cases hf; omega)).older HK1.out.size, HK4.out.fresh hks (fun i hi => by have := HLO.out; have := HLO2.out; cases hi; omega)⟩
      · have h8' : ¬ (n2 : Int) < 8 := by omega
        have HQ := Lib.hid (HQ.out.trans (if_neg (fun e => h8 e.1)))
        clear h8
        go_wp2_with (first
          | (refine wpList_ld rfl _ _ rfl g2 0 rfl (hcs F A1 n1 c1) HZ3.out.all _ Try.underlying47 rfl (infHi _ _ _ _) ?_; simp only [Act.put, List.setIfInBounds_toArray, List.set_cons_succ, List.set_cons_zero])
          | (refine wpList_st rfl _ (.tmp 2) _ rfl g2 0 rfl (hcs F A1 n1 c1) _ rfl rfl (infHi _ _ _ _) 47 _ HZ3.out (by rw [hcs_len]; omega) (hcs_one _ _ _ _) ?_; intro w5 hb hks hz; simp only [Act.put])
          | fail)
        have h2 : HB w5 g2 47 F A1 n1 c1 := HB.of_all hb
        refine bodyPost_ret (res_cell2 Try.results16 rfl rfl rfl h2.all Try.underlying47 rfl (infHi _ _ _ _)) rfl ?_
        rw [HQ.out]
        exact ⟨A1, n1, c1, A2, n2, c2, rfl, (HX13.out.kept hks (fun i hi hf => by have := HG2.out; cases hf; omega)).older HK1.out.size, (HX23.out.kept hks (fun i hi hf => by have := HG2.out; cases hf; omega)).older HK1.out.size, HK3.out.fresh hks (fun i hi => by have := HLO.out; have := HLO2.out; cases hi; omega)⟩
    · have hE' : (E == 0) = false := by simp [hE]
      have hE2 : (E != 0) = true := by simp [hE]
      have HQ := Lib.hid (HQ.out.trans (if_pos hE))
      clear hE
      go_wp2_with (first
        | (refine wpList_st rfl _ (.tmp 2) _ rfl g2 0 rfl (hcs Hd.zero none 0 0) _ rfl rfl (infHi _ _ _ _) 47 _ HZ3.out (by rw [hcs_len, hcs_len]; omega) (hcs_one _ _ _ _) ?_; intro w5 hb hks hz; simp only [Act.put])
        | fail)
      have h2 : HB w5 g2 47 Hd.zero none 0 0 := HB.of_all hb
      refine bodyPost_ret (res_cell2 Try.results16 rfl rfl rfl h2.all Try.underlying47 rfl (infHi _ _ _ _)) rfl ?_
      exact HRES.out E _ HQ.out (HK3.out.fresh hks (fun i hi => by have := HLO.out; have := HLO2.out; cases hi; omega))
  · have h1' : ((kn : Int) != 1) = true := by simp; omega
    have HQ := Lib.hid (HQ.out.trans (if_pos h1))
    clear h1
    go_wp2_with (first
      | (refine wpList_st rfl _ (.tmp 2) _ rfl g2 0 rfl (hcs Hd.zero none 0 0) _ rfl rfl (infHi _ _ _ _) 47 _ HZ1.out (by rw [hcs_len]; omega) (hcs_one _ _ _ _) ?_; intro w2 hb hks hz; simp only [Act.put])
      | fail)
    have h2 : HB w2 g2 47 Hd.zero none 0 0 := HB.of_all hb
    refine bodyPost_ret (res_cell2 Try.results16 rfl rfl rfl h2.all Try.underlying47 rfl (infHi _ _ _ _)) rfl ?_
    exact HRES.out 1 _ HQ.out (HK1.out.fresh hks (fun i hi => by have := HLO.out; have := HLO2.out; cases hi; omega))
end Go.Proofs.Ytkpelaojjfcpfaa
