/- tolllaw08.IcmpQuotes: the walk. -/
import Derived.Test.YtkpelaojjfcpfaaIcF
import Derived.Test.YtkpelaojjfcpfaaIcP
import Derived.Test.YtkpelaojjfcpfaaIcY
import Derived.Test.YtkpelaojjfcpfaaInQ
import Derived.Test.YtkpelaojjfcpfaaInFr
import Derived.Test.YtkpelaojjfcpfaaBd
namespace Go.Proofs.Ytkpelaojjfcpfaa
open Go.RowKit Go.Sort
set_option linter.unusedVariables false

theorem infSq : (Try.prog.info? 22).map (·.size) = some 1 := by kernel_rfl
theorem infIq : (Try.prog.info? 3).map (·.size) = some 1 := by kernel_rfl
theorem infBq : (Try.prog.info? 4).map (·.size) = some 1 := by kernel_rfl
theorem infUq : (Try.prog.info? 5).map (·.size) = some 1 := by kernel_rfl
theorem buildA5 (w : World) : (Instr.build 49 #[(0, .int .u8 3), (1, .int .u8 4), (2, .int .u8 5), (3, .int .u8 11), (4, .int .u8 12)]).run Try.prog w = .ok (.agg #[.int .u8 3, .int .u8 4, .int .u8 5, .int .u8 11, .int .u8 12]) w := by kernel_rfl
theorem buildMq (a : Int) (A : Option Addr) (n c : Nat) (w : World) : (Instr.build 25 #[(0, .int .u8 a), (3, .slice A n c)]).run Try.prog w = .ok (.agg #[.int .u8 a, .int .u8 0, .int .u8 0, .int .u8 0, .int .u8 0, .int .u8 0, .slice A n c]) w := by kernel_rfl
theorem idx5 (r : Nat) (hr : r < 5) : ∃ T : UInt8, kindN T.toNat = 1 ∧ ∀ w : World, (Instr.index 49 (.agg #[.int .u8 3, .int .u8 4, .int .u8 5, .int .u8 11, .int .u8 12]) (.int .u8 (r : Int))).run Try.prog w = .ok (.int .u8 (T.toNat : Int)) w := by
  rcases (show r = 0 ∨ r = 1 ∨ r = 2 ∨ r = 3 ∨ r = 4 by omega) with rfl | rfl | rfl | rfl | rfl
  · exact ⟨3, by decide, fun w => by kernel_rfl⟩
  · exact ⟨4, by decide, fun w => by kernel_rfl⟩
  · exact ⟨5, by decide, fun w => by kernel_rfl⟩
  · exact ⟨11, by decide, fun w => by kernel_rfl⟩
  · exact ⟨12, by decide, fun w => by kernel_rfl⟩
def mQ (T : UInt8) (l : List UInt8) : Ms := ⟨T, 0, 0, 0, 0, 0, l⟩
set_option maxRecDepth 100000 in
set_option maxHeartbeats 16000000 in
theorem iqt_yes (x : HdA) (B0 : Option Addr) (bn bc : Nat) (bl : List UInt8) (ai wi : Int) (w : World) (hx : x.In w) (hb : Byt w B0 bn bc bl) (hai : (Lit.int .u8 ai).wf = true) (hwi : (Lit.int .u8 wi).wf = true) :
    Calls Try.prog 6 #[hdv x.h x.A x.n x.c, .slice B0 bn bc, .int .u8 ai, .int .u8 wi] w fun e w' => e = .returned (.bool true) ∧ Below w.heap.size w w' := by
  obtain ⟨h, A, n, c⟩ := x
  obtain ⟨hok, -⟩ := hx
  dsimp only at hok ⊢
  have ha8 := wfu8 ai hai
  obtain ⟨ma, rfl⟩ := Int.eq_ofNat_of_zero_le ha8.1
  have hm8 : ma < 256 := by omega
  have hw8 := wfu8 wi hwi
  obtain ⟨wh, rfl⟩ := Int.eq_ofNat_of_zero_le hw8.1
  have hwh8 : wh < 256 := by omega
  clear hai hwi ha8 hw8
  have hnc := hb.2.1
  obtain ⟨m, hm, hm1, hm2⟩ : ∃ m : Nat, (if (100 : Int) < (bn : Int) then (100 : Int) else (bn : Int)) = (m : Int) ∧ m ≤ bn ∧ m ≤ 100 := ⟨min bn 100, by split <;> omega, by omega, by omega⟩
  have hmn : min (bn : Int) 100 = (m : Int) := by rw [← hm]; split <;> omega
  have hsl := run_cut_hi (P := Try.prog) Try.underlying22 inf5.1 B0 bn bc m (m : Int) rfl (by omega)
  have HB0 := Lib.hid (hb.pre hm1)
  have hmc : m ≤ bc := by omega
  obtain ⟨bd, hbd⟩ : ∃ b, bl.take m = b := ⟨_, rfl⟩
  rw [hbd] at HB0
  have hbl : bd.length = m := HB0.out.1
  have HBD := Lib.hid hbl
  have HBW := Lib.hid HB0.out
  have HLN := Lib.hid (bare_len h hok bd (by omega))
  have HQP := Lib.hid (fun k hk T hT => quote_put h hok bd (by omega) k hk T hT)
  have HMY := Lib.hid (bare_may h hok bd (by omega))
  clear hb hbd hm1 hnc
  have hI := HB.new w 47 h A n c
  have hk := (Kept.refl Nil w).alloc (.cells (hcs h A n c).toArray 47)
  unfold hdv
  go_enter Try.func6, Try.ntmps6
  go_upto_region 1 with (fail)
  refine wp_nameE (fun W => HB W w.heap.size 47 h A n c ∧ Kept Nil w W) ⟨hI, hk⟩ ?_
  clear hI hk
  rintro W ⟨hI, hk⟩
  obtain ⟨g4, hg4⟩ : ∃ g, w.heap.size = g := ⟨_, rfl⟩
  have HLO := Lib.hid (show w.heap.size ≤ g4 by omega)
  have HI := Lib.hid (show HB W g4 47 h A n c from hg4 ▸ hI)
  have HK := Lib.hid hk
  rw [hg4]
  clear hI hk hg4
  go_upto_region 2 with (first
    | (refine wpList_st rfl _ _ _ rfl g4 10 rfl [.slice none 0 0] _ rfl rfl infSq 47 _ HI.out (show 10 + 1 ≤ 11 from by decide) (by intro u hu; simp at hu; subst hu; rfl) ?_; intro w1 hb hks hz; simp only [Act.put]; have HI1 := Lib.hid (show HB w1 g4 47 ⟨h.t, h.l, h.p, h.i, h.e, h.d, h.m, h.o, h.s, h.g, []⟩ none 0 0 from hb); have HK1 := Lib.hid (HK.out.fresh hks (fun i hi => by cases hi; exact HLO.out)); clear hb hks hz)
    | (refine wpList_st rfl _ _ _ rfl g4 7 rfl [.int .i64 0] _ rfl rfl infIq 47 _ HI1.out (show 7 + 1 ≤ 11 from by decide) (by intro u hu; simp at hu; subst hu; rfl) ?_; intro w2 hb hks hz; simp only [Act.put]; have HI2 := Lib.hid (show HB w2 g4 47 ⟨h.t, h.l, h.p, h.i, h.e, h.d, h.m, 0, h.s, h.g, []⟩ none 0 0 from hb); have HK2 := Lib.hid (HK1.out.fresh hks (fun i hi => by cases hi; exact HLO.out)); clear hb hks hz)
    | (refine wpList_st rfl _ _ _ rfl g4 6 rfl [.bool false] _ rfl rfl infBq 47 _ HI2.out (show 6 + 1 ≤ 11 from by decide) (by intro u hu; simp at hu; subst hu; rfl) ?_; intro w3 hb hks hz; simp only [Act.put]; have HI3 := Lib.hid (show HB w3 g4 47 (bareH h) none 0 0 from hb); have HK3 := Lib.hid (HK2.out.fresh hks (fun i hi => by cases hi; exact HLO.out)); clear hb hks hz)
    | fail)
  clear HI HI1 HI2 HK HK1 HK2
  have HHO := Lib.hid HMY.out.ok
  obtain ⟨H, hH⟩ : ∃ H, bareH h = H := ⟨_, rfl⟩
  have hHx : H.x = [] := by rw [← hH]; rfl
  have HHX := Lib.hid hHx
  rw [hH] at HLN HQP HI3 HHO
  clear hH hHx HMY
  have HB3 := Lib.hid (HB0.out.kept HK3.out (fun _ _ hf => hf))
  go_wp2_with (first
    | (refine wpList_ld rfl _ _ rfl g4 0 rfl (hcs H none 0 0) HI3.out.all _ Try.underlying47 rfl (infHi _ _ _ _) ?_; simp only [Act.put, List.setIfInBounds_toArray, List.set_cons_succ, List.set_cons_zero])
    | fail)
  have hp := iput_yes H HHO.out none 0 0 B0 m bc bd w3 (by rw [HHX.out]; exact Byt.none _) HB3.out (by omega) (by omega)
  refine hp.mono ?_
  clear hp
  obtain ⟨hl1, hl2⟩ := HLN.out
  obtain ⟨R, hR⟩ : ∃ r, putHM H bd = r := ⟨_, rfl⟩
  rw [hR] at HQP hl1 hl2 ⊢
  obtain ⟨L, E⟩ := R
  dsimp only at hl1 hl2
  subst hl2
  rintro e w4 ⟨v, rfl, hmd⟩
  dsimp only at hmd ⊢
  obtain ⟨A9, c9, rfl, hy9, -⟩ := byt_own hmd
  have hLm : L.length = 20 + m := by rw [hl1, hbl]
  rw [hLm] at hy9 ⊢
  obtain ⟨N, hN⟩ : ∃ N, 20 + m = N := ⟨_, rfl⟩
  rw [hN] at hy9 ⊢
  have HN := Lib.hid hN
  have HLL := Lib.hid (hLm.trans hN)
  have hNi : (20 : Int) + (m : Int) = (N : Int) := by omega
  have hN100 : N ≤ 120 := by omega
  have HI4 := Lib.hid (HI3.out.kept hmd.2 (fun hf => hf))
  have HK4 := Lib.hid (HK3.out.then hmd.2)
  have HY4 := Lib.hid hy9
  have hNc : N ≤ c9 := hy9.2.1
  clear hmd hy9 hLm hN hl1 hR HB3 HI3 HK3 HLN hsl hm hmn hbl HB0 hok
  obtain ⟨N1, hN1⟩ : ∃ x : Nat, N + 1 = x := ⟨_, rfl⟩
  have hN1i : (N : Int) + 1 = (N1 : Int) := by omega
  obtain ⟨k, hk⟩ : ∃ x : Nat, ma % N1 = x := ⟨_, rfl⟩
  have hki : (ma : Int) % (N1 : Int) = (k : Int) := by omega
  have hkN : k ≤ N := by have := Nat.mod_lt ma (show N1 > 0 by omega); omega
  have hkc : k ≤ c9 := by omega
  have hslk := run_cut_hi (P := Try.prog) Try.underlying22 inf5.1 A9 N c9 k (k : Int) rfl hkc
  obtain ⟨r, hr⟩ : ∃ x : Nat, wh % 5 = x := ⟨_, rfl⟩
  have hri : (wh : Int) % 5 = (r : Int) := by omega
  have hr5 : r < 5 := by omega
  obtain ⟨T, hT, hidx⟩ := idx5 r hr5
  have HT := Lib.hid hT
  clear hN1 hk hr hT
  go_upto_region 7 with (fail)
  try simp only [hki]
  refine wp_region_own3 Nil (fun _ => none) (fun _ => (ics Ms.zero none 0 0).toArray) 8 (fun i => undef) (by kernel_rfl) (by kernel_rfl) (by kernel_rfl) ⟨Kept.refl _ _, fun _ _ _ _ h => by cases h⟩ ?_
  apply Exists.intro
  refine And.intro ?hqa ?hta
  case hqa =>
    intro V hV
    dsimp only [List.take]
    refine wpQuiet_bd rfl _ _ rfl #[(0, .int .u8 3), (1, .int .u8 4), (2, .int .u8 5), (3, .int .u8 11), (4, .int .u8 12)] rfl (.agg #[.int .u8 3, .int .u8 4, .int .u8 5, .int .u8 11, .int .u8 12]) (fun w => buildA5 w) ?_
    simp only [Act.put, List.setIfInBounds_toArray, List.set_cons_succ, List.set_cons_zero]
    iterate 6 (go_big_quiet_step (fail))
    refine wpQuiet_bd rfl _ _ rfl #[(0, .int .u8 (T.toNat : Int)), (3, .slice A9 k c9)] rfl (.agg (ics (mQ T (L.take k)) A9 k c9).toArray) (fun w => buildMq _ _ _ _ w) ?_
    exact wpQuiet_nil rfl
  case hta =>
    intro vt hvt
    dsimp only [List.drop]
    refine sLex_alloc 25 rfl rfl (fun _ _ => by kernel_rfl) ?_
    intro g12 hg12 hL12
    refine sLex_store 25 (.tmp 12) (.tmp 56) rfl rfl rfl g12 (ics Ms.zero none 0 0).toArray (ics (mQ T (L.take k)) A9 k c9).toArray (by rfl) (by simp [upd]) (by rfl) (by rfl) (by rw [List.size_toArray]; exact infMs _ _ _ _) (by simpa using ics_one (mQ T (L.take k)) A9 k c9) ?_
    simp only [Act.put, List.setIfInBounds_toArray, List.set_cons_succ, List.set_cons_zero]
    intro w5 hh
    have hq5 : MB w5 g12 25 (mQ T (L.take k)) A9 k c9 := (hh.own g12 true _ 25 (by simp [upd])).2
    have hk5 := hh.kept
    have HM5 := Lib.hid hq5
    have HI5 := Lib.hid (HI4.out.kept hk5 (fun hf => hf))
    have HK5 := Lib.hid (HK4.out.then hk5)
    have HY5 := Lib.hid (HY4.out.kept hk5 (fun _ _ hf => hf))
    have HG := Lib.hid (show g4 < g12 by have := HI4.out.lt; omega)
    have HYL := Lib.hid (show ∀ i, Lies A9 N i → i < g12 from fun i hi => by have := HY4.out.lt i hi; omega)
    clear hq5 hk5 hh hvt hg12 hL12 HI4 HK4 HY4 hslk hidx hri hki hN1i
    obtain ⟨q, hq, hq1, hq2⟩ : ∃ q : Nat, min 8 m = q ∧ (if (m : Int) < 8 then (m : Int) else 8) = (q : Int) ∧ (if (8 : Int) < (m : Int) then (8 : Int) else (m : Int)) = (q : Int) := ⟨min 8 m, rfl, by split <;> omega, by split <;> omega⟩
    have hq3 : min (8 : Int) (m : Int) = (q : Int) := by omega
    have hq4 : min (m : Int) (8 : Int) = (q : Int) := by omega
    have HQK := Lib.hid (HQP.out k (by rw [HBD.out, HN.out]; exact hkN) T HT.out)
    have HQY := quote_yes (mQ T (L.take k)) A9 k c9 w5 (HY5.out.pre hkN) (by omega)
    have HQE := Lib.hid (quote_eight (L.take k))
    have HQ8 := Lib.hid (fun u hb => quote_yes (mQ 8 (L.take k)) A9 k c9 u hb (by omega))
    rw [HBD.out, hq] at HQK
    obtain ⟨Q, hQ⟩ : ∃ Q, quoteM (mQ T (L.take k)) = Q := ⟨_, rfl⟩
    rw [hQ] at HQY
    have HQK := Lib.hid (show (k < 20 + q → Q = (Hd.zero, [], 4)) ∧ (¬ k < 20 + q → Q = (H, bd.take (k - 20), 0)) by rw [← hQ]; exact HQK.out)
    obtain ⟨F, X, E⟩ := Q
    have HQY := Lib.hid HQY
    have HYK := Lib.hid (HY5.out.pre hkN)
    have HYKL := Lib.hid (show ∀ i, Lies A9 k i → i < g12 from fun i hi => HYL.out i ⟨by have := hi.1; omega, hi.2⟩)
    clear hQ hq HQP HY5 HYL
    go_wp2_with (first
      | (refine wpList_ld rfl _ _ rfl g12 0 rfl (ics (mQ T (L.take k)) A9 k c9) HM5.out.all _ Try.underlying25 rfl (infMs _ _ _ _) ?_; simp only [Act.put, List.setIfInBounds_toArray, List.set_cons_succ, List.set_cons_zero])
      | fail)
    refine HQY.out.mono ?_
    rintro e w6 ⟨A1, n1, c1, A2, n2, c2, rfl, hx1, hx2, hk6⟩
    dsimp only at hx1 hx2 ⊢
    have HZ6 := Lib.hid (HB.new w6 47 Hd.zero none 0 0)
    go_upto_region 9 with (first
      | (refine wpList_st rfl _ (.tmp 13) _ rfl w6.heap.size 0 rfl (hcs F A1 n1 c1) _ rfl rfl (infHi _ _ _ _) 47 _ HZ6.out (by rw [hcs_len, hcs_len]; omega) (hcs_one _ _ _ _) ?_; intro w7 hb hks hz; simp only [Act.put])
      | fail)
    have hks1 := ((Kept.refl Nil w6).alloc (.cells (hcs Hd.zero none 0 0).toArray 47)).fresh hks (fun i hi => by cases hi; exact Nat.le_refl _)
    have hks2 := hk6.then hks1
    have HJ7 := Lib.hid (show HB w7 w6.heap.size 47 F A1 n1 c1 from HB.of_all hb)
    have HX1 := Lib.hid (hx1.1.kept hks1 (fun _ _ hf => hf))
    have HX2 := Lib.hid (hx2.1.kept hks1 (fun _ _ hf => hf))
    have HM7 := Lib.hid (HM5.out.kept hks2 (fun hf => hf))
    have HI7 := Lib.hid (HI5.out.kept hks2 (fun hf => hf))
    have HY7 := Lib.hid (HYK.out.kept hks2 (fun _ _ hf => hf))
    have HK7 := Lib.hid (HK5.out.then hks2)
    obtain ⟨g13, hg13⟩ : ∃ g, w6.heap.size = g := ⟨_, rfl⟩
    have HG13 := Lib.hid (show g12 < g13 by have := HM5.out.lt; have := hk6.size; omega)
    have HL1 := Lib.hid (show ∀ i, Lies A1 n1 i → g12 < i from fun i hi => Nat.lt_of_lt_of_le HM5.out.lt (hx1.2 i hi))
    have HL2 := Lib.hid (show ∀ i, Lies A2 n2 i → g12 < i from fun i hi => Nat.lt_of_lt_of_le HM5.out.lt (hx2.2 i hi))
    rw [hg13] at HJ7 ⊢
    clear hb hks hz hks1 hks2 hk6 hx1 hx2 HZ6 HM5 HI5 HYK HK5 hg13 HQY
    by_cases hkq : k < 20 + q
    · have hkq' : (k : Int) < 20 + (q : Int) := by omega
      have hQ := HQK.out.1 hkq
      simp only [Prod.mk.injEq] at hQ
      obtain ⟨rfl, rfl, rfl⟩ := hQ
      obtain rfl : n2 = 0 := HX2.out.1.symm
      clear hkq HQK HX1 HX2 HM7 HI7 HY7 HJ7 HQ8 HQE
      go_wp2_with (fail)
      refine (itells_yes _).mono ?_
      rintro e w8 ⟨rfl, hk⟩
      have HKz := Lib.hid (HK7.out.then hk)
      clear hk
      go_wp2
      go_ret
      exact ⟨rfl, HKz.out.below (Nat.le_refl _) (fun _ hf => hf.elim)⟩
    · have hkq' : ¬ (k : Int) < 20 + (q : Int) := by omega
      have hQ := HQK.out.2 hkq
      simp only [Prod.mk.injEq] at hQ
      obtain ⟨rfl, rfl, rfl⟩ := hQ
      have hk20 : 20 ≤ k := by omega
      obtain ⟨kk, hkk⟩ : ∃ x : Nat, k - 20 = x := ⟨_, rfl⟩
      have hkki : (k : Int) - 20 = (kk : Int) := by omega
      have hkkm : kk ≤ m := by have := HN.out; omega
      rw [hkk] at HX2
      have hslb := run_cut_hi (P := Try.prog) Try.underlying22 inf5.1 B0 m bc kk (kk : Int) rfl (by omega)
      clear hkq HQK hkk
      go_upto_region 12 with (first
        | (refine wpList_st rfl _ _ _ rfl g12 0 rfl [.int .u8 8] _ rfl rfl infUq 25 _ HM7.out (show 0 + 1 ≤ 7 from by decide) (by intro u hu; simp at hu; subst hu; rfl) ?_; intro w8 hb hks hz; simp only [Act.put])
        | fail)
      have HM8 := Lib.hid (show MB w8 g12 25 (mQ 8 (L.take k)) A9 k c9 from hb)
      have HJ8 := Lib.hid (HJ7.out.kept hks (fun hf => by have := HG13.out; cases hf; omega))
      have HI8 := Lib.hid (HI7.out.kept hks (fun hf => by have := HG.out; cases hf; omega))
      have HX18 := Lib.hid (HX1.out.kept hks (fun i hi hf => by have := HL1.out i hi; cases hf; omega))
      have HX28 := Lib.hid (HX2.out.kept hks (fun i hi hf => by have := HL2.out i hi; cases hf; omega))
      have HY8 := Lib.hid (HY7.out.kept hks (fun i hi hf => by have := HYKL.out i hi; cases hf; omega))
      have HK8 := Lib.hid (HK7.out.fresh hks (fun i hi => by have := HG.out; have := HLO.out; cases hi; omega))
      have HB8 := Lib.hid (HBW.out.kept HK8.out (fun _ _ hf => hf))
      clear hb hks hz HM7 HJ7 HI7 HX1 HX2 HY7 HK7
      go_wp2_with (first
        | (refine wpList_ld rfl _ _ rfl g12 0 rfl (ics (mQ 8 (L.take k)) A9 k c9) HM8.out.all _ Try.underlying25 rfl (infMs _ _ _ _) ?_; simp only [Act.put, List.setIfInBounds_toArray, List.set_cons_succ, List.set_cons_zero])
        | fail)
      have hp := HQ8.out w8 HY8.out
      rw [show quoteM (mQ 8 (L.take k)) = (Hd.zero, [], 1) from HQE.out] at hp
      refine hp.mono ?_
      clear hp
      rintro e w9 ⟨A3, n3, c3, A4, n4, c4, rfl, -, -, hk9⟩
      dsimp only
      have HZ9 := Lib.hid (HB.new w9 47 Hd.zero none 0 0)
      go_upto_region 13 with (first
        | (refine wpList_st rfl _ (.tmp 16) _ rfl w9.heap.size 0 rfl (hcs Hd.zero A3 n3 c3) _ rfl rfl (infHi _ _ _ _) 47 _ HZ9.out (by rw [hcs_len, hcs_len]; omega) (hcs_one _ _ _ _) ?_; intro w10 hb hks hz; simp only [Act.put])
        | fail)
      have hks2 := hk9.then (((Kept.refl Nil w9).alloc (.cells (hcs Hd.zero none 0 0).toArray 47)).fresh hks (fun i hi => by cases hi; exact Nat.le_refl _))
      have HJ := Lib.hid (HJ8.out.kept hks2 (fun hf => hf))
      have HI := Lib.hid (HI8.out.kept hks2 (fun hf => hf))
      have HX1 := Lib.hid (HX18.out.kept hks2 (fun _ _ hf => hf))
      have HX2 := Lib.hid (HX28.out.kept hks2 (fun _ _ hf => hf))
      have HBz := Lib.hid ((HB8.out.pre hkkm).kept hks2 (fun _ _ hf => hf))
      have HK := Lib.hid (HK8.out.then hks2)
      clear hb hks hz hks2 hk9 HZ9 HJ8 HI8 HX18 HX28 HY8 HK8 HB8 HM8 HQ8 HQE
      have hof1 : ∀ u, Calls Try.prog 18 #[.agg (hcs F A1 n1 c1).toArray] u fun e w' => e = .returned (.agg (hcs F A1 n1 c1).toArray) ∧ Kept Nil u w' := fun u => iof_yes F A1 n1 c1 u
      have hof2 : ∀ u, Calls Try.prog 18 #[.agg (hcs F none 0 0).toArray] u fun e w' => e = .returned (.agg (hcs F none 0 0).toArray) ∧ Kept Nil u w' := fun u => iof_yes F none 0 0 u
      have hsm := fun d os => isame_yes F A1 n1 c1 none 0 0 (grow (redrawn w10 d) os) (HX1.out.kept (kept_grown' w10 d os) (fun _ _ hf => hf)) (by rw [HHX.out]; exact Byt.none _)
      obtain ⟨sX, hsX⟩ : ∃ s : ByteArray, (⟨(bd.take kk).toArray⟩ : ByteArray) = s := ⟨_, rfl⟩
      have tx1 := fun dr os => (HX2.out.kept (kept_grown' w10 dr os) (fun _ _ hf => hf)).text (P := Try.prog) Try.underlying22 Try.underlying5 Try.underlying9
      have tx2 := fun dr os => (HBz.out.kept (kept_grown' w10 dr os) (fun _ _ hf => hf)).text (P := Try.prog) Try.underlying22 Try.underlying5 Try.underlying9
      rw [hsX] at tx1 tx2
      clear hsX
      refine wp_region_quiet_below (by kernel_rfl) (by kernel_rfl) ?_
      repeat (first
        | (refine wpQuiet_ld rfl _ _ rfl g13 0 rfl (hcs F A1 n1 c1) (fun w1 hw => row_grown HJ.out.all hw) _ Try.underlying47 rfl (infHi _ _ _ _) ?_; simp only [Act.put, List.setIfInBounds_toArray, List.set_cons_succ, List.set_cons_zero])
        | (refine wpQuiet_ld rfl _ _ rfl g4 0 rfl (hcs F none 0 0) (fun w1 hw => row_grown HI.out.all hw) _ Try.underlying47 rfl (infHi _ _ _ _) ?_; simp only [Act.put, List.setIfInBounds_toArray, List.set_cons_succ, List.set_cons_zero])
        | (go_big_quiet_step (first | with_reducible exact quietK (hof1 _) | with_reducible exact quietK (hof2 _) | with_reducible exact quietK (hsm _ _) | with_reducible exact quietK (itells_yes _))))
      refine wpQuiet_nil ?_
      rintro wz ⟨nq, hw⟩
      have HKz := Lib.hid (HK.out.then (show Kept Nil w10 wz by rw [hw]; exact kept_grown _ _))
      clear hw
      go_wp2
      go_ret
      exact ⟨rfl, HKz.out.below (Nat.le_refl _) (fun _ hf => hf.elim)⟩
end Go.Proofs.Ytkpelaojjfcpfaa
