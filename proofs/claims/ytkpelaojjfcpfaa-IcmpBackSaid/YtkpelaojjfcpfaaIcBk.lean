/- tolllaw08.IcmpBack: the walk. -/
import Derived.Test.YtkpelaojjfcpfaaIcF
import Derived.Test.YtkpelaojjfcpfaaIcG
import Derived.Test.YtkpelaojjfcpfaaIcK
import Derived.Test.YtkpelaojjfcpfaaIcX
import Derived.Test.YtkpelaojjfcpfaaIcFr
import Derived.Test.YtkpelaojjfcpfaaOwnB
import Derived.Test.YtkpelaojjfcpfaaIcR
import Derived.Lib.Strings
import Derived.Test.YtkpelaojjfcpfaaIcS
import Derived.Laws.OwnMore
import Derived.Deep.CutRange
namespace Go.Proofs.Ytkpelaojjfcpfaa
open Go.RowKit Go.Sort
set_option linter.unusedVariables false

/-- A row's bytes, where the row is known as a block. -/
def OwnL (w : World) (g : Nat) (l : List UInt8) (cs : List Value) : Prop := Blo w g 5 cs.toArray ∧ ∀ (i : Nat) (u : UInt8), l[i]? = some u → cs[i]? = some (Value.int .u8 (u.toNat : Int))
theorem OwnL.byt {w : World} {g : Nat} {l : List UInt8} {cs : List Value} (h : OwnL w g l cs) (n c : Nat) (hn : l.length = n) (hc : n ≤ c) (hcm : c ≤ 9223372036854775807) : Byt w (some ⟨g, 0, none⟩) n c l := by
  subst hn
  refine ⟨rfl, hc, hcm, fun _ => ⟨g, 0, rfl, fun i hi => ?_⟩⟩
  rw [h.1.cell, Nat.zero_add, List.getElem?_toArray]
  exact h.2 i _ (List.getElem?_eq_getElem hi)
theorem OwnL.len {w : World} {g : Nat} {l : List UInt8} {cs : List Value} (h : OwnL w g l cs) : l.length ≤ cs.length := by
  rcases Nat.eq_zero_or_pos l.length with h0 | h0
  · omega
  · have := h.2 (l.length - 1) _ (List.getElem?_eq_getElem (by omega))
    have := (List.getElem?_eq_some_iff.1 this).1
    omega
theorem OwnL.kept {w w' : World} {g : Nat} {l : List UInt8} {cs : List Value} {F : Nat → Prop} (h : OwnL w g l cs) (k : Kept F w w') (hg : ¬ F g) : OwnL w' g l cs := ⟨h.1.kept k hg, h.2⟩
theorem OwnL.put {w w' : World} {g : Nat} {l : List UInt8} {cs : List Value} (h : OwnL w g l cs) (k : Nat) (u : UInt8) (hk : k < l.length) (hb : Blo w' g 5 (cs.take k ++ [Value.int .u8 (u.toNat : Int)] ++ cs.drop (k + [Value.int .u8 (u.toNat : Int)].length)).toArray) : OwnL w' g (l.set k u) (cs.set k (Value.int .u8 (u.toNat : Int))) := by
  have hl := h.len
  have e : cs.take k ++ [Value.int .u8 (u.toNat : Int)] ++ cs.drop (k + [Value.int .u8 (u.toNat : Int)].length) = cs.set k (.int .u8 (u.toNat : Int)) := by rw [List.set_eq_take_append_cons_drop, if_pos (by omega)]; simp
  rw [e] at hb
  refine ⟨hb, fun i v hv => ?_⟩
  by_cases hik : k = i
  · subst hik
    rw [List.getElem?_set_self hk] at hv
    cases hv
    rw [List.getElem?_set_self (by omega)]
  · rw [List.getElem?_set_ne hik] at hv ⊢
    exact h.2 i v hv
/-- Two cells turned, the rest as it was. -/
theorem OwnL.two {w w' : World} {g K K1 : Nat} {l : List UInt8} {cs cs' : List Value} {y z : UInt8} (h : OwnL w g l cs) (hK : K < l.length) (hK1 : K1 < l.length) (hne : K ≠ K1) (hb : Blo w' g 5 cs'.toArray)
    (h0 : w'.cell? ⟨g, K, none⟩ = some (Value.int .u8 (y.toNat : Int))) (h1 : w'.cell? ⟨g, K1, none⟩ = some (Value.int .u8 (z.toNat : Int))) (hr : ∀ i, i ≠ K → i ≠ K1 → cs'[i]? = cs[i]?) : OwnL w' g ((l.set K y).set K1 z) cs' := by
  rw [hb.cell, List.getElem?_toArray] at h0 h1
  refine ⟨hb, fun i v hv => ?_⟩
  by_cases e1 : K1 = i
  · subst e1
    rw [List.getElem?_set_self (by rw [List.length_set]; exact hK1)] at hv
    cases hv
    exact h1
  · rw [List.getElem?_set_ne e1] at hv
    by_cases e0 : K = i
    · subst e0
      rw [List.getElem?_set_self hK] at hv
      cases hv
      exact h0
    · rw [List.getElem?_set_ne e0] at hv
      rw [hr i (fun e => e0 e.symm) (fun e => e1 e.symm)]
      exact h.2 i v hv
def biK (w : World) (g q j : Nat) (M : List Value) (u : World) : Prop := Kept Nil w u ∧ ∃ cs : List Value, Blo u g 5 cs.toArray ∧ cs.length = M.length ∧ ∀ k, k ≠ q → k ≠ j → cs[k]? = M[k]?
theorem own_L {w : World} {base m : Nat} {A : Option Addr} {c : Nat} {l : List UInt8} (h : w.ownsRow base 5 1 (.slice A m c) m (bys l)) (hm : 0 < m) (hl : l.length = m) : ∃ g cs, A = some ⟨g, 0, none⟩ ∧ base ≤ g ∧ OwnL w g l cs ∧ m ≤ c ∧ c ≤ 9223372036854775807 := by
  obtain ⟨b1, cs, h1, h2⟩ := own_B h
  obtain ⟨rfl, hb⟩ := h1 hm
  obtain ⟨h3, h4, h5⟩ := h2 hm
  have hh : w.ownsRow base 5 1 (.slice (some ⟨b1, 0, none⟩) m c) l.length (bys l) := by rw [hl]; exact h
  obtain ⟨A', c', e, hy, _⟩ := Byt.of_own hh
  injection e with e1 e2 e3
  subst e1 e3
  rw [hl] at hy
  refine ⟨b1, cs, rfl, hb, ⟨h3, fun i u hu => ?_⟩, hy.2.1, hy.2.2.1⟩
  obtain ⟨hi, rfl⟩ := List.getElem?_eq_some_iff.1 hu
  obtain ⟨b, o, e, hc⟩ := hy.at hi
  cases e
  rw [Nat.zero_add, h3.cell, List.getElem?_toArray] at hc
  exact hc
theorem infS6 : (Try.prog.info? 22).map (·.size) = some 1 := by kernel_rfl
set_option maxRecDepth 100000 in
set_option maxHeartbeats 16000000 in
theorem ibk_yes (x : MsA) (ai bi : Int) (C : Option Addr) (zn zc : Nat) (z0 : List UInt8) (w : World) (hx : x.In w) (hat : (Lit.int .u8 ai).wf = true) (hby : (Lit.int .u16 bi).wf = true) (hz : Byt w C zn zc z0) :
    Calls Try.prog 4 #[.agg (ics x.m x.A x.n x.c).toArray, .int .u8 ai, .int .u16 bi, .slice C zn zc] w fun e w' => e = .returned (.bool true) ∧ Below w.heap.size w w' := by
  obtain ⟨m0, A, n, c⟩ := x
  obtain ⟨hb0⟩ := hx
  dsimp only at hb0 ⊢
  have hb8 := wfu8 ai hat
  obtain ⟨at', rfl⟩ := Int.eq_ofNat_of_zero_le hb8.1
  have hat8 : at' < 256 := by omega
  have hb16 := wfu16 bi hby
  obtain ⟨by', rfl⟩ := Int.eq_ofNat_of_zero_le hb16.1
  have hby16 : by' < 65536 := by omega
  clear hat hby hb8 hb16
  have hnc := hb0.2.1
  obtain ⟨mm, hm, hm1, hm2⟩ : ∃ m : Nat, (if (200 : Int) < (n : Int) then (200 : Int) else (n : Int)) = (m : Int) ∧ m ≤ n ∧ m ≤ 200 := ⟨min n 200, by split <;> omega, by omega, by omega⟩
  have hmn : min (n : Int) 200 = (mm : Int) := by rw [← hm]; split <;> omega
  obtain ⟨hh, hh2⟩ : ∃ h : Nat, mm / 2 = h := ⟨_, rfl⟩
  have hhi : (mm : Int) / 2 = (hh : Int) := by omega
  obtain ⟨k, hk⟩ : ∃ k : Nat, hh * 2 = k := ⟨_, rfl⟩
  have hki : (hh : Int) * 2 = (k : Int) := by omega
  have hkn : k ≤ n := by omega
  have hk200 : k ≤ 200 := by omega
  have hk2 : k % 2 = 0 := by omega
  have hsl := run_cut_hi (P := Try.prog) Try.underlying22 inf5.1 A n c k (k : Int) rfl (by omega)
  have HBY := Lib.hid (hb0.pre hkn)
  have HKN := Lib.hid (And.intro hk200 hk2)
  have HZB := Lib.hid hz
  obtain ⟨mt, mc, mp, mq, mr, ms, mb⟩ := m0
  have hP := MB.new w 25 ⟨mt, mc, mp, mq, mr, ms, mb⟩ A n c
  have hkw := (Kept.refl Nil w).alloc (.cells (ics ⟨mt, mc, mp, mq, mr, ms, mb⟩ A n c).toArray 25)
  have HBL := Lib.hid hb0.lt
  dsimp only at HBY
  obtain ⟨bd, hbd⟩ : ∃ b, mb.take k = b := ⟨_, rfl⟩
  rw [hbd] at HBY
  clear hb0 hz hm1 hm2 hh2 hk hnc hbd hk200 hk2 hkn
  go_enter Try.func4, Try.ntmps4
  go_upto_region 1 with (fail)
  refine wp_nameE (fun W => MB W w.heap.size 25 ⟨mt, mc, mp, mq, mr, ms, mb⟩ A n c ∧ Kept Nil w W) ⟨hP, hkw⟩ ?_
  clear hP hkw
  rintro W ⟨hP, hkw⟩
  obtain ⟨g4, hg4⟩ : ∃ g, w.heap.size = g := ⟨_, rfl⟩
  have HLO := Lib.hid (show w.heap.size ≤ g4 by omega)
  have HBG := Lib.hid (show ∀ i, Lies A n i → i < g4 from fun i hi => by have := HBL.out i hi; omega)
  have HP := Lib.hid (show MB W g4 25 ⟨mt, mc, mp, mq, mr, ms, mb⟩ A n c from hg4 ▸ hP)
  have HK := Lib.hid hkw
  have c6 := HP.out.c6
  rw [hg4]
  clear hP hkw hg4 HBL
  go_upto_region 2 with (first
    | (refine wpList_st rfl _ _ _ rfl g4 6 rfl [.slice A k c] _ rfl rfl infS6 25 _ HP.out (show 6 + 1 ≤ 7 from by decide) (by intro u hu; simp at hu; subst hu; rfl) ?_; intro w1 hb hks hz; simp only [Act.put])
    | fail)
  have HP1 := Lib.hid (show MB w1 g4 25 ⟨mt, mc, mp, mq, mr, ms, bd⟩ A k c from hb)
  have HK1 := Lib.hid (HK.out.fresh hks (fun i hi => by cases hi; exact HLO.out))
  have HBY1 := Lib.hid (HBY.out.kept HK1.out (fun _ _ hf => hf))
  clear hb hks hz HP HK c6 hsl hm hmn hhi hki HBY
  have hkl : bd.length = k := HBY1.out.1
  have HKL := Lib.hid hkl
  have HPT := Lib.hid (show putI ⟨mt, mc, mp, mq, mr, ms, bd⟩ = (rawM ⟨mt, mc, mp, mq, mr, ms, bd⟩ (sumM (rawM ⟨mt, mc, mp, mq, mr, ms, bd⟩ 0)), 0) by unfold putI; rw [if_neg (by dsimp only; have := HKN.out.1; omega)])
  have HSM := Lib.hid (raw_sum ⟨mt, mc, mp, mq, mr, ms, bd⟩)
  have HGE := Lib.hid (get_put ⟨mt, mc, mp, mq, mr, ms, bd⟩ _ rfl)
  have HRL := Lib.hid (show (rawM ⟨mt, mc, mp, mq, mr, ms, bd⟩ (sumM (rawM ⟨mt, mc, mp, mq, mr, ms, bd⟩ 0))).length = 8 + k by rw [rawM_len]; dsimp only; rw [hkl])
  clear hkl
  obtain ⟨M, hM⟩ : ∃ M : Ms, (⟨mt, mc, mp, mq, mr, ms, bd⟩ : Ms) = M := ⟨_, rfl⟩
  have HMB := Lib.hid (show M.b = bd by rw [← hM])
  rw [hM] at HPT HSM HGE HRL HP1
  clear hM
  generalize rawM M (sumM (rawM M 0)) = B at *
  obtain ⟨N, hN⟩ : ∃ N, 8 + k = N := ⟨_, rfl⟩
  rw [hN] at HRL
  have hNI : (8 : Int) + (k : Int) = (N : Int) := by omega
  have HN := Lib.hid (And.intro hN (show N % 2 = 0 by have := HKN.out.2; omega))
  have hN8 : 8 ≤ N ∧ N ≤ 208 := by have := HKN.out.1; omega
  clear hN
  go_wp2_with (first
    | (refine wpList_ld rfl _ _ rfl g4 0 rfl (ics M A k c) HP1.out.all _ Try.underlying25 rfl (infMs _ _ _ _) ?_; simp only [Act.put, List.setIfInBounds_toArray, List.set_cons_succ, List.set_cons_zero])
    | fail)
  have hp := icput_yes M A k c w1 (by rw [HMB.out]; exact HBY1.out) (by have := HKN.out.1; omega)
  rw [HPT.out] at hp
  refine hp.mono ?_
  clear hp
  rintro e w2 ⟨v, rfl, hmd⟩
  dsimp only at hmd ⊢
  obtain ⟨A9, c9, rfl, hy9, hl9⟩ := byt_own hmd
  have ho9 := hmd.1
  rw [HRL.out] at hy9 hl9 ho9 ⊢
  obtain ⟨g9, cs9, rfl, hg9, ho9, hc9, hc9m⟩ := own_L ho9 (by omega) HRL.out
  have HO9 := Lib.hid ho9
  have HC9 := Lib.hid (And.intro hc9 hc9m)
  have HG9 := Lib.hid (show g4 < g9 from Nat.lt_of_lt_of_le HP1.out.lt hg9)
  have HP2 := Lib.hid (HP1.out.kept hmd.2 (fun hf => hf))
  have HK2 := Lib.hid (HK1.out.then hmd.2)
  have HY2 := Lib.hid hy9
  have HBY2 := Lib.hid (HBY1.out.kept hmd.2 (fun _ _ hf => hf))
  have c6 := HP2.out.c6
  clear hmd hy9 hl9 ho9 hg9 HP1 HK1 HBY1 HPT
  go_wp2_with (fail)
  have hp := icget_yes (some ⟨g9, 0, none⟩) N c9 B w2 HY2.out (by omega)
  rw [HGE.out] at hp
  refine hp.mono ?_
  clear hp
  rintro e w3 ⟨A3, n3, c3, rfl, hn3, hk3⟩
  dsimp only at hn3 ⊢
  have HZ3 := Lib.hid (MB.new w3 25 Ms.zero none 0 0)
  go_upto_region 6 with (first
    | (refine wpList_st rfl _ (.tmp 11) _ rfl w3.heap.size 0 rfl (ics M A3 n3 c3) _ rfl rfl (infMs _ _ _ _) 25 _ HZ3.out (by rw [ics_len, ics_len]; omega) (ics_one _ _ _ _) ?_; intro w4 hb hks hz; simp only [Act.put])
    | fail)
  have hks2 := ((Kept.refl Nil w3).alloc (.cells (ics Ms.zero none 0 0).toArray 25)).fresh hks (fun i hi => by cases hi; exact Nat.le_refl _)
  have hk34 := hk3.then hks2
  have HM4 := Lib.hid (show MB w4 w3.heap.size 25 M A3 n3 c3 from hb)
  have HN4 := Lib.hid (hn3.1.kept hks2 (fun _ _ hf => hf))
  have HP4 := Lib.hid (HP2.out.kept hk34 (fun hf => hf))
  have HO4 := Lib.hid (HO9.out.kept hk34 (fun hf => hf))
  have HY4 := Lib.hid (HY2.out.kept hk34 (fun _ _ hf => hf))
  have HBY4 := Lib.hid (HBY2.out.kept hk34 (fun _ _ hf => hf))
  have HK4 := Lib.hid (HK2.out.then hk34)
  obtain ⟨g11, hg11⟩ : ∃ g, w3.heap.size = g := ⟨_, rfl⟩
  rw [hg11] at HM4 ⊢
  clear hb hks hz hks2 hk34 hk3 hn3 HZ3 HP2 HO9 HY2 HBY2 HK2 hg11 c6 HGE
  obtain ⟨at8, hat8'⟩ : ∃ x : Nat, at' % 8 = x := ⟨_, rfl⟩
  have hat8i : (at' : Int) % 8 = (at8 : Int) := by omega
  have hat88 : at8 < 8 := by omega
  have hsl8 := run_cut_hi (P := Try.prog) Try.underlying22 inf5.1 (some ⟨g9, 0, none⟩) N c9 at8 (at8 : Int) rfl (by omega)
  go_wp2_with (fail)
  have hp := icget_yes (some ⟨g9, 0, none⟩) at8 c9 (B.take at8) w4 (HY4.out.pre (by omega)) (by omega)
  rw [getI_short _ (by rw [List.length_take]; omega)] at hp
  refine hp.mono ?_
  clear hp hsl8
  rintro e w5 ⟨A5, n5, c5, rfl, hn5, hk5⟩
  dsimp only at hn5 ⊢
  have HZ5 := Lib.hid (MB.new w5 25 Ms.zero none 0 0)
  go_upto_region 7 with (first
    | (refine wpList_st rfl _ (.tmp 13) _ rfl w5.heap.size 0 rfl (ics Ms.zero A5 n5 c5) _ rfl rfl (infMs _ _ _ _) 25 _ HZ5.out (by rw [ics_len, ics_len]; omega) (ics_one _ _ _ _) ?_; intro w6 hb hks hz; simp only [Act.put])
    | fail)
  have hks2 := hk5.then (((Kept.refl Nil w5).alloc (.cells (ics Ms.zero none 0 0).toArray 25)).fresh hks (fun i hi => by cases hi; exact Nat.le_refl _))
  have HM6 := Lib.hid (HM4.out.kept hks2 (fun hf => hf))
  have HP6 := Lib.hid (HP4.out.kept hks2 (fun hf => hf))
  have HO6 := Lib.hid (HO4.out.kept hks2 (fun hf => hf))
  have HK6 := Lib.hid (HK4.out.then hks2)
  have tx1 := (HN4.out.kept hks2 (fun _ _ hf => hf)).text (P := Try.prog) Try.underlying22 Try.underlying5 Try.underlying9
  have tx2 := (HBY4.out.kept hks2 (fun _ _ hf => hf)).text (P := Try.prog) Try.underlying22 Try.underlying5 Try.underlying9
  have hE := eq_rest M.rest rfl
  rw [HMB.out] at tx1
  have p0 := HP6.out.c0
  have p1 := HP6.out.c1
  have p6 := HP6.out.c6
  have q0 := HM6.out.c0
  have q1 := HM6.out.c1
  have q6 := HM6.out.c6
  clear hb hks hz hks2 hk5 hn5 HZ5 HM4 HN4 HP4 HO4 HY4 HBY4 HK4
  obtain ⟨N2, hN2⟩ : ∃ x : Nat, N / 2 = x := ⟨_, rfl⟩
  have hN2i : (N : Int) / 2 = (N2 : Int) := by omega
  have hN2p : 0 < N2 := by omega
  obtain ⟨r, hr⟩ : ∃ x : Nat, at' % N2 = x := ⟨_, rfl⟩
  have hri : (at' : Int) % (N2 : Int) = (r : Int) := by omega
  have hrl : r < N2 := by rw [← hr]; exact Nat.mod_lt _ hN2p
  obtain ⟨K, hK⟩ : ∃ x : Nat, 2 * r = x := ⟨_, rfl⟩
  have hKi : 2 * (r : Int) = (K : Int) := by omega
  obtain ⟨K1, hK1⟩ : ∃ x : Nat, K + 1 = x := ⟨_, rfl⟩
  have hK1i : (K : Int) + 1 = (K1 : Int) := by omega
  have hK1N : K1 < N := by have := HN.out.2; omega
  have hKN : K < N := by omega
  have HK2 := Lib.hid (And.intro (show K % 2 = 0 by omega) hK1)
  clear hN2 hr hK
  go_upto_region 10 with (first
    | (refine wpList_ld rfl 23 _ rfl g11 2 rfl (bys M.rest) HM6.out.rr _ Try.underlying23 rfl (infR4 M) ?_; simp only [Act.put, List.setIfInBounds_toArray, List.set_cons_succ, List.set_cons_zero])
    | (refine wpList_ld rfl 23 _ rfl g4 2 rfl (bys M.rest) HP6.out.rr _ Try.underlying23 rfl (infR4 M) ?_; simp only [Act.put, List.setIfInBounds_toArray, List.set_cons_succ, List.set_cons_zero])
    | fail)
  clear p0 p1 p6 q0 q1 q6 tx1 tx2 hE HM6 HP6 hN2i hri hKi
  obtain ⟨x0, hx0⟩ : ∃ u, B[K]? = some u := ⟨_, List.getElem?_eq_getElem (by rw [HRL.out]; exact hKN)⟩
  obtain ⟨x1, hx1⟩ : ∃ u, B[K1]? = some u := ⟨_, List.getElem?_eq_getElem (by rw [HRL.out]; exact hK1N)⟩
  have z0' := fun d os => Blo.gcell HO6.out.1 K d os
  have z1' := fun d os => Blo.gcell HO6.out.1 K1 d os
  simp only [List.getElem?_toArray, HO6.out.2 K x0 hx0, HO6.out.2 K1 x1 hx1] at z0' z1'
  have hX0 : IntKind.u16.wrap (x0.toNat : Int) = (x0.toNat : Int) := IntWalk.u16_in _ (by have := x0.toNat_lt; omega)
  have hX1 : IntKind.u16.wrap (x1.toNat : Int) = (x1.toNat : Int) := IntWalk.u16_in _ (by have := x1.toNat_lt; omega)
  obtain ⟨h0, hh0⟩ : ∃ h : Nat, 256 * x0.toNat = h := ⟨_, rfl⟩
  have hX2 : IntKind.u16.wrap ((x0.toNat : Int) * 256) = (h0 : Int) := by rw [IntWalk.u16_in _ (by have := x0.toNat_lt; omega)]; omega
  obtain ⟨ws, hws⟩ : ∃ v : Nat, 256 * x0.toNat + x1.toNat = v := ⟨_, rfl⟩
  have hX3 : bits .or .u16 (h0 : Int) (x1.toNat : Int) = (ws : Int) := by
    rw [u16_or_nat _ _ (by have := x0.toNat_lt; omega) (by have := x1.toNat_lt; omega), nat_join 8 h0 x1.toNat (by show h0 % 256 = 0; omega) x1.toNat_lt]
    omega
  have HWS := Lib.hid hws
  have HX := Lib.hid (And.intro hx0 hx1)
  clear hx0 hx1 hh0 hws
  refine wp_region_quiet_below (by kernel_rfl) (by kernel_rfl) ?_
  repeat (go_big_quiet_step (fail))
  refine wpQuiet_nil ?_
  rintro w7 ⟨nq, hw⟩
  have hk67 : Kept Nil w6 w7 := by rw [hw]; exact kept_grown _ _
  have HO7 := Lib.hid (HO6.out.kept hk67 (fun hf => hf))
  have HK7 := Lib.hid (HK6.out.then hk67)
  clear hw hk67 HO6 HK6 z0' z1' hX0 hX1 hX2 hX3
  obtain ⟨bh, hbh⟩ : ∃ v : Nat, by' / 256 = v := ⟨_, rfl⟩
  obtain ⟨bl, hbl⟩ : ∃ v : Nat, by' % 256 = v := ⟨_, rfl⟩
  obtain ⟨H, hH⟩ : ∃ v : UInt8, v.toNat = bh := ⟨UInt8.ofNat bh, by rw [UInt8.toNat_ofNat']; omega⟩
  obtain ⟨Lo, hLo⟩ : ∃ v : UInt8, v.toNat = bl := ⟨UInt8.ofNat bl, by rw [UInt8.toNat_ofNat']; omega⟩
  have HHL := Lib.hid (And.intro (show by' / 256 = H.toNat by rw [hH]; exact hbh) (show by' % 256 = Lo.toNat by rw [hLo]; exact hbl))
  clear hbh hbl hH hLo hK1i
  have HB16 := Lib.hid hby16
  have HC0 := Lib.hid (And.intro (HO7.out.2 K x0 HX.out.1) (HO7.out.2 K1 x1 HX.out.2))
  go_upto_region 11 with (fail)
  refine wp_nameC2 fun A0 hA0 => ?_
  have HSZ : A0.tmps.size = 258 := by rw [hA0]; rfl
  have a2 : A0.tmps.getD 2 undef = .int .u16 (by' : Int) := by rw [hA0]; rfl
  have a9 : A0.tmps.getD 9 undef = .slice (some ⟨g9, 0, none⟩) N c9 := by rw [hA0]; rfl
  have a15 : A0.tmps.getD 15 undef = .int .i64 (K : Int) := by rw [hA0]; rfl
  have HA0 := Lib.hid hA0
  clear hA0
  have hne : K ≠ K1 := by have := HK2.out.2; omega
  have am : A0.eval (.tmp 9) = .slice (some ⟨g9, 0, none⟩) N c9 := a9
  refine wp_region_posts 258 (cI [120, 121, 122, 123, 124, 125, 126, 127, 128, 129, 130, 131, 132, 133, 134, 135, 136, 137, 138, 139, 140, 141, 142] 9 (.slice (some ⟨g9, 0, none⟩) N c9) (.slice (some ⟨g9, 0, none⟩) N c9) (biK w g9 K K1 cs9) A0) (cR [(fun v => v = .slice (some ⟨g9, 0, none⟩) N c9), (fun v => v = .int .i64 (K : Int)), (fun v => v = .slice (some ⟨g9, 0, none⟩) N c9), (fun v => v = .int .i64 (K : Int)), (fun v => v = .int .i64 (K1 : Int)), (fun v => v = .slice (some ⟨g9, 0, none⟩) N c9), (fun v => v = .int .i64 (K : Int)), (fun v => v = pAt g9 K), (fun v => v = .int .u8 (x0.toNat : Int)), (fun v => v = .int .u16 (by' : Int)), (fun v => v = .int .u16 (H.toNat : Int)), (fun v => v = .int .u8 (H.toNat : Int)), (fun v => v = .int .u8 ((x0 ^^^ H).toNat : Int)), (fun v => v = .slice (some ⟨g9, 0, none⟩) N c9), (fun v => v = .int .i64 (K : Int)), (fun v => v = .int .i64 (K1 : Int)), (fun v => v = pAt g9 K1), (fun v => v = .int .u8 (x1.toNat : Int)), (fun v => v = .int .u16 (by' : Int)), (fun v => v = .int .u8 (Lo.toNat : Int)), (fun v => v = .int .u8 ((x1 ^^^ Lo).toNat : Int)), (fun v => v = pAt g9 K), (fun v => v = undef), (fun v => v = pAt g9 K1), (fun v => v = undef)] [⟨22, g9, K, .int .u8 (x0.toNat : Int), .int .u8 ((x0 ^^^ H).toNat : Int)⟩, ⟨24, g9, K1, .int .u8 (x1.toNat : Int), .int .u8 ((x1 ^^^ Lo).toNat : Int)⟩]) (cU [⟨22, g9, K, .int .u8 (x0.toNat : Int), .int .u8 ((x0 ^^^ H).toNat : Int)⟩, ⟨24, g9, K1, .int .u8 (x1.toNat : Int), .int .u8 ((x1 ^^^ Lo).toNat : Int)⟩]) (by kernel_rfl) (by kernel_rfl) (fun a u h => h.size.trans HSZ) (fun u hu => ⟨⟨rfl, rfl, fun _ _ => rfl, .inl am, HK7.out.then hu, _, HO7.out.1.kept hu (fun hf => hf), rfl, fun _ _ _ => rfl⟩, fun i e he _ => by
    simp only [List.mem_cons, List.not_mem_nil, or_false] at he
    rcases he with rfl | rfl
    · show u.cell? ⟨g9, K, none⟩ = _; rw [(HO7.out.1.kept hu (fun hf => hf)).cell, List.getElem?_toArray]; exact HC0.out.1
    · show u.cell? ⟨g9, K1, none⟩ = _; rw [(HO7.out.1.kept hu (fun hf => hf)).cell, List.getElem?_toArray]; exact HC0.out.2⟩) ?_ ?_
  · refine ⟨?_, ?_, ?_, ?_, ?_, ?_, ?_, ?_, ?_, ?_, ?_, ?_, ?_, ?_, ?_, ?_, ?_, ?_, ?_, ?_, ?_, ?_, ?_, ?_, ?_, trivial⟩
    · intro a u hI hp hU
      have e0 : a.eval (.tmp 9) = .slice (some ⟨g9, 0, none⟩) N c9 := (hI.fr 9 (by decide)).trans a9
      exact c_pure hI (.slice (some ⟨g9, 0, none⟩) N c9) (exec_mv2 _ rfl e0) 120 rfl (by rfl) (by rfl) rfl (by rfl)
    · intro a u hI hp hU
      have e0 : a.eval (.tmp 15) = .int .i64 (K : Int) := (hI.fr 15 (by decide)).trans a15
      exact c_pure hI (.int .i64 (K : Int)) (exec_mv2 _ rfl e0) 121 rfl (by rfl) (by rfl) rfl (by rfl)
    · intro a u hI hp hU
      have e0 : a.eval (.tmp 9) = .slice (some ⟨g9, 0, none⟩) N c9 := (hI.fr 9 (by decide)).trans a9
      exact c_pure hI (.slice (some ⟨g9, 0, none⟩) N c9) (exec_mv2 _ rfl e0) 122 rfl (by rfl) (by rfl) rfl (by rfl)
    · intro a u hI hp hU
      have e0 : a.eval (.tmp 15) = .int .i64 (K : Int) := (hI.fr 15 (by decide)).trans a15
      exact c_pure hI (.int .i64 (K : Int)) (exec_mv2 _ rfl e0) 123 rfl (by rfl) (by rfl) rfl (by rfl)
    · intro a u hI hp hU
      exact c_pure hI (.int .i64 (K1 : Int)) (exec_bin2 _ _ _ _ _ rfl (got hp ⟨3, .data⟩ (by simp) rfl 123 rfl).1 rfl (add_c K K1 HK2.out.2 (by have := hN8.2; omega) _ _ u)) 124 rfl (by rfl) (by rfl) rfl (by rfl)
    · intro a u hI hp hU
      have e0 : a.eval (.tmp 9) = .slice (some ⟨g9, 0, none⟩) N c9 := (hI.fr 9 (by decide)).trans a9
      exact c_pure hI (.slice (some ⟨g9, 0, none⟩) N c9) (exec_mv2 _ rfl e0) 125 rfl (by rfl) (by rfl) rfl (by rfl)
    · intro a u hI hp hU
      have e0 : a.eval (.tmp 15) = .int .i64 (K : Int) := (hI.fr 15 (by decide)).trans a15
      exact c_pure hI (.int .i64 (K : Int)) (exec_mv2 _ rfl e0) 126 rfl (by rfl) (by rfl) rfl (by rfl)
    · intro a u hI hp hU
      exact c_pure hI (pAt g9 K) (exec_iaB _ _ _ rfl (got hp ⟨5, .data⟩ (by simp) rfl 125 rfl).1 (got hp ⟨6, .data⟩ (by simp) rfl 126 rfl).1 (ia_b g9 N c9 _ hKN u)) 127 rfl (by rfl) (by rfl) rfl (by rfl)
    · intro a u hI hp hU
      exact c_pure hI (.int .u8 (x0.toNat : Int)) (exec_ldI _ _ rfl (got hp ⟨7, .data⟩ (by simp) rfl 127 rfl).1 (c_old hU _ rfl ⟨⟨8, .phase⟩, by simp, rfl, rfl⟩ ⟨22, g9, K, .int .u8 (x0.toNat : Int), .int .u8 ((x0 ^^^ H).toNat : Int)⟩ (by simp) rfl) Try.underlying5) 128 rfl (by rfl) (by rfl) rfl (by rfl)
    · intro a u hI hp hU
      have e0 : a.eval (.tmp 2) = .int .u16 (by' : Int) := (hI.fr 2 (by decide)).trans a2
      exact c_pure hI (.int .u16 (by' : Int)) (exec_mv2 _ rfl e0) 129 rfl (by rfl) (by rfl) rfl (by rfl)
    · intro a u hI hp hU
      exact c_pure hI (.int .u16 (H.toNat : Int)) (exec_bin2 _ _ _ _ _ rfl (got hp ⟨9, .data⟩ (by simp) rfl 129 rfl).1 rfl (shr_c by' H HHL.out.1 _ _ u)) 130 rfl (by rfl) (by rfl) rfl (by rfl)
    · intro a u hI hp hU
      exact c_pure hI (.int .u8 (H.toNat : Int)) (exec_cvI _ _ _ rfl (got hp ⟨10, .data⟩ (by simp) rfl 130 rfl).1 (cvH_c H u)) 131 rfl (by rfl) (by rfl) rfl (by rfl)
    · intro a u hI hp hU
      exact c_pure hI (.int .u8 ((x0 ^^^ H).toNat : Int)) (exec_bin2 _ _ _ _ _ rfl (got hp ⟨8, .data⟩ (by simp) rfl 128 rfl).1 (got hp ⟨11, .data⟩ (by simp) rfl 131 rfl).1 (xor_c x0 H _ _ u)) 132 rfl (by rfl) (by rfl) rfl (by rfl)
    · intro a u hI hp hU
      have e0 : a.eval (.tmp 9) = .slice (some ⟨g9, 0, none⟩) N c9 := (hI.fr 9 (by decide)).trans a9
      exact c_pure hI (.slice (some ⟨g9, 0, none⟩) N c9) (exec_mv2 _ rfl e0) 133 rfl (by rfl) (by rfl) rfl (by rfl)
    · intro a u hI hp hU
      have e0 : a.eval (.tmp 15) = .int .i64 (K : Int) := (hI.fr 15 (by decide)).trans a15
      exact c_pure hI (.int .i64 (K : Int)) (exec_mv2 _ rfl e0) 134 rfl (by rfl) (by rfl) rfl (by rfl)
    · intro a u hI hp hU
      exact c_pure hI (.int .i64 (K1 : Int)) (exec_bin2 _ _ _ _ _ rfl (got hp ⟨14, .data⟩ (by simp) rfl 134 rfl).1 rfl (add_c K K1 HK2.out.2 (by have := hN8.2; omega) _ _ u)) 135 rfl (by rfl) (by rfl) rfl (by rfl)
    · intro a u hI hp hU
      exact c_pure hI (pAt g9 K1) (exec_iaB _ _ _ rfl (got hp ⟨13, .data⟩ (by simp) rfl 133 rfl).1 (got hp ⟨15, .data⟩ (by simp) rfl 135 rfl).1 (ia_b g9 N c9 _ hK1N u)) 136 rfl (by rfl) (by rfl) rfl (by rfl)
    · intro a u hI hp hU
      exact c_pure hI (.int .u8 (x1.toNat : Int)) (exec_ldI _ _ rfl (got hp ⟨16, .data⟩ (by simp) rfl 136 rfl).1 (c_old hU _ rfl ⟨⟨17, .phase⟩, by simp, rfl, rfl⟩ ⟨24, g9, K1, .int .u8 (x1.toNat : Int), .int .u8 ((x1 ^^^ Lo).toNat : Int)⟩ (by simp) rfl) Try.underlying5) 137 rfl (by rfl) (by rfl) rfl (by rfl)
    · intro a u hI hp hU
      have e0 : a.eval (.tmp 2) = .int .u16 (by' : Int) := (hI.fr 2 (by decide)).trans a2
      exact c_pure hI (.int .u16 (by' : Int)) (exec_mv2 _ rfl e0) 138 rfl (by rfl) (by rfl) rfl (by rfl)
    · intro a u hI hp hU
      exact c_pure hI (.int .u8 (Lo.toNat : Int)) (exec_cvI _ _ _ rfl (got hp ⟨18, .data⟩ (by simp) rfl 138 rfl).1 (cvL_c by' Lo HHL.out.2 u)) 139 rfl (by rfl) (by rfl) rfl (by rfl)
    · intro a u hI hp hU
      exact c_pure hI (.int .u8 ((x1 ^^^ Lo).toNat : Int)) (exec_bin2 _ _ _ _ _ rfl (got hp ⟨17, .data⟩ (by simp) rfl 137 rfl).1 (got hp ⟨19, .data⟩ (by simp) rfl 139 rfl).1 (xor_c x1 Lo _ _ u)) 140 rfl (by rfl) (by rfl) rfl (by rfl)
    · intro a u hI hp hU
      exact c_pure hI (pAt g9 K) (exec_iaB _ _ _ rfl (got hp ⟨0, .data⟩ (by simp) rfl 120 rfl).1 (got hp ⟨1, .data⟩ (by simp) rfl 121 rfl).1 (ia_b g9 N c9 _ hKN u)) 141 rfl (by rfl) (by rfl) rfl (by rfl)
    · intro a u hI hp hU
      obtain ⟨hk1, cs, hb, hl, hrest⟩ := hI.inv
      have hfl : K < cs.length := by rw [hl]; have := HO7.out.len; rw [HRL.out] at this; omega
      refine c_st hI _ _ _ rfl rfl (got hp ⟨21, .data⟩ (by simp) rfl 141 rfl).1 (got hp ⟨12, .data⟩ (by simp) rfl 132 rfl).1 rfl rfl infU' hb hfl ?_ rfl fun u' hbl hk hz => ?_
      · intro e he
        simp only [List.mem_cons, List.not_mem_nil, or_false] at he
        rcases he with rfl | rfl
        · exact .inl ⟨rfl, rfl, rfl, rfl⟩
        · exact .inr ⟨by show (24 : Nat) ≠ 22; decide, .inr (by show K ≠ K1; omega)⟩
      · have e : cs.take K ++ [Value.int .u8 ((x0 ^^^ H).toNat : Int)] ++ cs.drop (K + [Value.int .u8 ((x0 ^^^ H).toNat : Int)].length) = cs.set K (Value.int .u8 ((x0 ^^^ H).toNat : Int)) := by rw [List.set_eq_take_append_cons_drop, if_pos hfl]; simp
        rw [e] at hbl
        refine ⟨hk1.fresh hk (fun i hi => by have := HLO.out; have := HG9.out; cases hi; omega), cs.set K (Value.int .u8 ((x0 ^^^ H).toNat : Int)), hbl, by rw [List.length_set]; exact hl, fun k h1 h2 => ?_⟩
        rw [List.getElem?_set_ne (by omega)]
        exact hrest k h1 h2
    · intro a u hI hp hU
      exact c_pure hI (pAt g9 K1) (exec_iaB _ _ _ rfl (got hp ⟨2, .data⟩ (by simp) rfl 122 rfl).1 (got hp ⟨4, .data⟩ (by simp) rfl 124 rfl).1 (ia_b g9 N c9 _ hK1N u)) 142 rfl (by rfl) (by rfl) rfl (by rfl)
    · intro a u hI hp hU
      obtain ⟨hk1, cs, hb, hl, hrest⟩ := hI.inv
      have hfl : K1 < cs.length := by rw [hl]; have := HO7.out.len; rw [HRL.out] at this; omega
      refine c_st hI _ _ _ rfl rfl (got hp ⟨23, .data⟩ (by simp) rfl 142 rfl).1 (got hp ⟨20, .data⟩ (by simp) rfl 140 rfl).1 rfl rfl infU' hb hfl ?_ rfl fun u' hbl hk hz => ?_
      · intro e he
        simp only [List.mem_cons, List.not_mem_nil, or_false] at he
        rcases he with rfl | rfl
        · exact .inr ⟨by show (22 : Nat) ≠ 24; decide, .inr (by show K1 ≠ K; omega)⟩
        · exact .inl ⟨rfl, rfl, rfl, rfl⟩
      · have e : cs.take K1 ++ [Value.int .u8 ((x1 ^^^ Lo).toNat : Int)] ++ cs.drop (K1 + [Value.int .u8 ((x1 ^^^ Lo).toNat : Int)].length) = cs.set K1 (Value.int .u8 ((x1 ^^^ Lo).toNat : Int)) := by rw [List.set_eq_take_append_cons_drop, if_pos hfl]; simp
        rw [e] at hbl
        refine ⟨hk1.fresh hk (fun i hi => by have := HLO.out; have := HG9.out; cases hi; omega), cs.set K1 (Value.int .u8 ((x1 ^^^ Lo).toNat : Int)), hbl, by rw [List.length_set]; exact hl, fun k h1 h2 => ?_⟩
        rw [List.getElem?_set_ne (by omega)]
        exact hrest k h1 h2
  · intro a u hI hR
    obtain ⟨hk1, cs, hb, hl, hrest⟩ := hI.inv
    have z22 := (hR 22 _ rfl).2 ⟨22, g9, K, .int .u8 (x0.toNat : Int), .int .u8 ((x0 ^^^ H).toNat : Int)⟩ (by simp) rfl
    have z24 := (hR 24 _ rfl).2 ⟨24, g9, K1, .int .u8 (x1.toNat : Int), .int .u8 ((x1 ^^^ Lo).toNat : Int)⟩ (by simp) rfl
    have e120 : a.tmps.getD 120 undef = .slice (some ⟨g9, 0, none⟩) N c9 := (hR 0 _ rfl).1
    have e121 : a.tmps.getD 121 undef = .int .i64 (K : Int) := (hR 1 _ rfl).1
    have e122 : a.tmps.getD 122 undef = .slice (some ⟨g9, 0, none⟩) N c9 := (hR 2 _ rfl).1
    have e123 : a.tmps.getD 123 undef = .int .i64 (K : Int) := (hR 3 _ rfl).1
    have e124 : a.tmps.getD 124 undef = .int .i64 (K1 : Int) := (hR 4 _ rfl).1
    have e125 : a.tmps.getD 125 undef = .slice (some ⟨g9, 0, none⟩) N c9 := (hR 5 _ rfl).1
    have e126 : a.tmps.getD 126 undef = .int .i64 (K : Int) := (hR 6 _ rfl).1
    have e127 : a.tmps.getD 127 undef = pAt g9 K := (hR 7 _ rfl).1
    have e128 : a.tmps.getD 128 undef = .int .u8 (x0.toNat : Int) := (hR 8 _ rfl).1
    have e129 : a.tmps.getD 129 undef = .int .u16 (by' : Int) := (hR 9 _ rfl).1
    have e130 : a.tmps.getD 130 undef = .int .u16 (H.toNat : Int) := (hR 10 _ rfl).1
    have e131 : a.tmps.getD 131 undef = .int .u8 (H.toNat : Int) := (hR 11 _ rfl).1
    have e132 : a.tmps.getD 132 undef = .int .u8 ((x0 ^^^ H).toNat : Int) := (hR 12 _ rfl).1
    have e133 : a.tmps.getD 133 undef = .slice (some ⟨g9, 0, none⟩) N c9 := (hR 13 _ rfl).1
    have e134 : a.tmps.getD 134 undef = .int .i64 (K : Int) := (hR 14 _ rfl).1
    have e135 : a.tmps.getD 135 undef = .int .i64 (K1 : Int) := (hR 15 _ rfl).1
    have e136 : a.tmps.getD 136 undef = pAt g9 K1 := (hR 16 _ rfl).1
    have e137 : a.tmps.getD 137 undef = .int .u8 (x1.toNat : Int) := (hR 17 _ rfl).1
    have e138 : a.tmps.getD 138 undef = .int .u16 (by' : Int) := (hR 18 _ rfl).1
    have e139 : a.tmps.getD 139 undef = .int .u8 (Lo.toNat : Int) := (hR 19 _ rfl).1
    have e140 : a.tmps.getD 140 undef = .int .u8 ((x1 ^^^ Lo).toNat : Int) := (hR 20 _ rfl).1
    have e141 : a.tmps.getD 141 undef = pAt g9 K := (hR 21 _ rfl).1
    have e142 : a.tmps.getD 142 undef = pAt g9 K1 := (hR 23 _ rfl).1
    have ha := act_eq a A0 [(120, .slice (some ⟨g9, 0, none⟩) N c9), (121, .int .i64 (K : Int)), (122, .slice (some ⟨g9, 0, none⟩) N c9), (123, .int .i64 (K : Int)), (124, .int .i64 (K1 : Int)), (125, .slice (some ⟨g9, 0, none⟩) N c9), (126, .int .i64 (K : Int)), (127, pAt g9 K), (128, .int .u8 (x0.toNat : Int)), (129, .int .u16 (by' : Int)), (130, .int .u16 (H.toNat : Int)), (131, .int .u8 (H.toNat : Int)), (132, .int .u8 ((x0 ^^^ H).toNat : Int)), (133, .slice (some ⟨g9, 0, none⟩) N c9), (134, .int .i64 (K : Int)), (135, .int .i64 (K1 : Int)), (136, pAt g9 K1), (137, .int .u8 (x1.toNat : Int)), (138, .int .u16 (by' : Int)), (139, .int .u8 (Lo.toNat : Int)), (140, .int .u8 ((x1 ^^^ Lo).toNat : Int)), (141, pAt g9 K), (142, pAt g9 K1)] hI.size hI.defs (show ([120, 121, 122, 123, 124, 125, 126, 127, 128, 129, 130, 131, 132, 133, 134, 135, 136, 137, 138, 139, 140, 141, 142] : List Nat).Nodup by decide) (fun p hp => by
      rw [HSZ]
      have h1 : p.1 ∈ [120, 121, 122, 123, 124, 125, 126, 127, 128, 129, 130, 131, 132, 133, 134, 135, 136, 137, 138, 139, 140, 141, 142] := List.mem_map_of_mem (f := Prod.fst) hp
      simp at h1
      omega) (fun p hp => by
      simp only [List.mem_cons, List.not_mem_nil, or_false] at hp
      rcases hp with rfl | rfl | rfl | rfl | rfl | rfl | rfl | rfl | rfl | rfl | rfl | rfl | rfl | rfl | rfl | rfl | rfl | rfl | rfl | rfl | rfl | rfl | rfl
      · exact e120
      · exact e121
      · exact e122
      · exact e123
      · exact e124
      · exact e125
      · exact e126
      · exact e127
      · exact e128
      · exact e129
      · exact e130
      · exact e131
      · exact e132
      · exact e133
      · exact e134
      · exact e135
      · exact e136
      · exact e137
      · exact e138
      · exact e139
      · exact e140
      · exact e141
      · exact e142
      ) (fun d hd => hI.fr d hd)
    have HO8 := Lib.hid (OwnL.two HO7.out (by rw [HRL.out]; exact hKN) (by rw [HRL.out]; exact hK1N) hne hb z22 z24 hrest)
    have HK8 := Lib.hid hk1
    clear hI hR hb hk1 hl hrest z22 z24 e120 e121 e122 e123 e124 e125 e126 e127 e128 e129 e130 e131 e132 e133 e134 e135 e136 e137 e138 e139 e140 e141 e142 am a2 a9 a15 HSZ HO7 HK7 HC0
    subst ha
    have hA := HA0.out
    clear HA0
    subst hA
    unfold pAt
    simp only [List.foldl_cons, List.foldl_nil, Act.put, List.setIfInBounds_toArray, List.set_cons_succ, List.set_cons_zero]
    have HIG := Lib.hid (chg_get B K HK2.out.1 (by rw [HRL.out]; omega) (by rw [HRL.out]; have := HK2.out.2; omega) HSM.out H Lo x0 x1 HX.out.1 (by rw [HK2.out.2]; exact HX.out.2) _ rfl)
    rw [HK2.out.2, HRL.out] at HIG
    have HL2 := Lib.hid (show ((B.set K (x0 ^^^ H)).set K1 (x1 ^^^ Lo)).length = N by rw [List.length_set, List.length_set, HRL.out])
    generalize (B.set K (x0 ^^^ H)).set K1 (x1 ^^^ Lo) = B' at *
    have HBB := Lib.hid (HO8.out.byt N c9 HL2.out HC9.out.1 HC9.out.2)
    clear HO8 HX
    go_wp2_with (fail)
    refine (icget_yes (some ⟨g9, 0, none⟩) N c9 B' u HBB.out (by omega)).mono ?_
    obtain ⟨R, hR⟩ : ∃ r, getI B' = r := ⟨_, rfl⟩
    rw [hR] at HIG ⊢
    obtain ⟨F, E⟩ := R
    dsimp only at HIG
    rintro e w9 ⟨A5, n5, c5, rfl, hn5, hk5⟩
    dsimp only at hn5 ⊢
    have HZ5 := Lib.hid (MB.new w9 25 Ms.zero none 0 0)
    clear hR
    go_upto_region 13 with (first
      | (refine wpList_st rfl _ (.tmp 17) _ rfl w9.heap.size 0 rfl (ics F A5 n5 c5) _ rfl rfl (infMs _ _ _ _) 25 _ HZ5.out (by rw [ics_len, ics_len]; omega) (ics_one _ _ _ _) ?_; intro w10 hb hks hz; simp only [Act.put])
      | fail)
    have hks2 := hk5.then (((Kept.refl Nil w9).alloc (.cells (ics Ms.zero none 0 0).toArray 25)).fresh hks (fun i hi => by cases hi; exact Nat.le_refl _))
    have HBB10 := Lib.hid (HBB.out.kept hks2 (fun _ _ hf => hf))
    have HK10 := Lib.hid (HK8.out.then hks2)
    clear hb hks hz hks2 hk5 hn5 HZ5 HBB HK8
    go_cut [181] from 148 to 180 (fun s wx => s = .bool false ∧ Kept Nil w10 wx)
    case first =>
      have hbb : by' / 256 = H.toNat ∧ by' % 256 = Lo.toNat := HHL.out
      have hb16 := HB16.out
      have hws := HWS.out
      have tx1 := fun dr os => (HBB10.out.kept (kept_grown' w10 dr os) (fun _ _ hf => hf)).text (P := Try.prog) Try.underlying22 Try.underlying5 Try.underlying9
      rcases HIG.out with ⟨q1, q2, q3⟩ | ⟨q1, q2, q3⟩ | ⟨q1, q2, q3, q4, q5⟩ | ⟨q1, q2, q3, q4, q5⟩ | ⟨q1, q2, q3, q4, q5⟩
      · have f1 : (E == 0) = true := by rw [q3]; rfl
        have f2 : (E != 0) = false := by rw [q3]; rfl
        have f3 : ((by' : Int) == 0) = true := by rw [q1, q2] at hbb; have h1 : (0 : UInt8).toNat = 0 := rfl; rw [h1] at hbb; simp; omega
        clear q1 q2 q3 hbb hws tx1
        refine wp_region_quiet_below (by kernel_rfl) (by kernel_rfl) ?_
        repeat (go_big_quiet_step (fail))
        refine wpQuiet_nil ?_
        rintro wz ⟨nq, hw⟩
        go_wp2
        go_meet
        exact ⟨rfl, by rw [hw]; exact kept_grown _ _⟩
      · have f1 : (E == 0) = false := by rw [q3]; rfl
        have f2 : (E != 0) = true := by rw [q3]; rfl
        have f5 : (E != 21) = false := by rw [q3]; rfl
        have f3 : ((by' : Int) == 0) = false := by
          simp
          rintro rfl
          exact q1 ⟨eq_nat _ _ (show _ = 0 by omega), eq_nat _ _ (show _ = 0 by omega)⟩
        have f4 : ((by' : Int) == 65535) = false := by
          simp
          intro hb
          have : by' = 65535 := by omega
          subst this
          exact q2 ⟨eq_nat _ _ (show _ = 255 by omega), eq_nat _ _ (show _ = 255 by omega)⟩
        clear q1 q2 q3 hbb hws tx1
        refine wp_region_quiet_below (by kernel_rfl) (by kernel_rfl) ?_
        repeat (go_big_quiet_step (fail))
        refine wpQuiet_nil ?_
        rintro wz ⟨nq, hw⟩
        go_wp2
        go_meet
        exact ⟨rfl, by rw [hw]; exact kept_grown _ _⟩
      · have f1 : (E == 0) = false := by rw [q5]; rfl
        have f2 : (E != 0) = true := by rw [q5]; rfl
        have f5 : (E != 21) = false := by rw [q5]; rfl
        have h255 : (255 : UInt8).toNat = 255 := rfl
        have f3 : ((by' : Int) == 0) = false := by rw [q1, h255] at hbb; simp; omega
        have f4 : ((by' : Int) == 65535) = true := by rw [q1, q2, h255] at hbb; simp; omega
        have f6 : ((ws : Int) == 0) = false := by
          simp
          rintro rfl
          exact q3 ⟨eq_nat _ _ (show _ = 0 by omega), eq_nat _ _ (show _ = 0 by omega)⟩
        have f7 : ((ws : Int) == 65535) = false := by
          simp
          intro hb
          have := x0.toNat_lt
          have := x1.toNat_lt
          exact q4 ⟨eq_nat _ _ (show _ = 255 by omega), eq_nat _ _ (show _ = 255 by omega)⟩
        clear q1 q2 q3 q4 q5 hbb hws tx1 h255
        refine wp_region_quiet_below (by kernel_rfl) (by kernel_rfl) ?_
        repeat (go_big_quiet_step (fail))
        refine wpQuiet_nil ?_
        rintro wz ⟨nq, hw⟩
        go_wp2
        go_meet
        exact ⟨rfl, by rw [hw]; exact kept_grown _ _⟩
      · have h255 : (255 : UInt8).toNat = 255 := rfl
        have f3 : ((by' : Int) == 0) = false := by rw [q1, h255] at hbb; simp; omega
        have f4 : ((by' : Int) == 65535) = true := by rw [q1, q2, h255] at hbb; simp; omega
        have f1 : (E == 0) = true := by rw [q5]; rfl
        have f2 : (E != 0) = false := by rw [q5]; rfl
        obtain ⟨sB, hsB⟩ : ∃ s : ByteArray, (⟨B'.toArray⟩ : ByteArray) = s := ⟨_, rfl⟩
        obtain ⟨sZ, hsZ'⟩ : ∃ s : ByteArray, s = (⟨(List.replicate N (0 : UInt8)).toArray⟩ : ByteArray) := ⟨_, rfl⟩
        have hsZ : Value.string sZ = .string ⟨(List.replicate N (0 : UInt8)).toArray⟩ := by rw [hsZ']
        have g1 : (sB.toList == sZ.toList) = false := by rw [Lib.toList_data, Lib.toList_data, ← hsB, hsZ']; simpa using q4
        have HSZ' := Lib.hid hsZ'
        have HSZ := Lib.hid hsZ
        clear tx1 hsZ' hsZ
        rcases q3 with ⟨r1, r2⟩ | ⟨r1, r2⟩
        · have f6 : ((ws : Int) == 0) = true := by rw [r1, r2] at hws; have h1 : (0 : UInt8).toNat = 0 := rfl; rw [h1] at hws; simp; omega
          clear q1 q2 q4 q5 r1 r2 hbb hws h255
          refine wp_region_acts Nil [20, 21] (fun i vl => (#[], 0)) (fun i => .int .i64 (N : Int)) (mzI N) (mzP N) 34 (by kernel_rfl) (by kernel_rfl) (mzI_keeps N) trivial ?_
          simp only [List.take_succ_cons, List.take_zero, List.drop_succ_cons, List.drop_zero]
          refine tLex_quiets 20 rfl (by kernel_rfl) ?_
          simp only [List.take_succ_cons, List.take_zero, List.drop_succ_cons, List.drop_zero]
          apply Exists.intro
          refine ⟨?hq, ?hv, ?ht⟩
          case hq =>
            intro V hV
            have tx1 := fun dr os => ((HBB10.out.kept hV (fun _ _ hf => hf)).kept (kept_grown' V dr os) (fun _ _ hf => hf)).text (P := Try.prog) Try.underlying22 Try.underlying5 Try.underlying9
            rw [hsB] at tx1
            clear hV
            repeat (go_big_quiet_step (fail))
            exact wpQuiet_nil rfl
          case hv => exact ⟨trivial, trivial, trivial, trivial, trivial, trivial, trivial, trivial, trivial, trivial, trivial, trivial, trivial, trivial, trivial, trivial, trivial, trivial, trivial, rfl, trivial⟩
          case ht =>
            refine tLex_mks rfl rfl _ _ rfl N (by omega) rfl rfl (.slice (some ⟨0, 0, none⟩) N N) ⟨0, rfl⟩ ?hI ?_
            case hI =>
              intro D u u' g hu hI hg hb hk
              exact ⟨⟨g, rfl⟩, g, rfl, hb⟩
            intro v hv
            obtain ⟨g, rfl⟩ : ∃ g, v = .slice (some ⟨g, 0, none⟩) N N := hv
            simp only [Act.put, mkVal, List.setIfInBounds_toArray, List.set_cons_succ, List.set_cons_zero]
            refine tLex_val rfl rfl (.string sZ) (show mzP N 21 _ from HSZ.out) ?hc ?_
            case hc =>
              intro D u hu hI
              obtain ⟨g', he, hb⟩ : ∃ g', Value.slice (some ⟨g, 0, none⟩) N N = .slice (some ⟨g', 0, none⟩) N N ∧ Blo u g' 5 (bys (List.replicate N 0)).toArray := hI
              cases he
              have htx := (bloB hb N List.length_replicate (by omega)).text (P := Try.prog) Try.underlying22 Try.underlying5 Try.underlying9
              exact ⟨_, exec_cvI _ _ _ rfl rfl htx, rfl, g, rfl, hb⟩
            intro v hv
            have hv : v = .string ⟨(List.replicate N (0 : UInt8)).toArray⟩ := hv
            rw [← HSZ'.out] at hv
            subst hv
            simp only [Act.put, mkVal, List.setIfInBounds_toArray, List.set_cons_succ, List.set_cons_zero]
            refine tLex_quiets 12 rfl (by kernel_rfl) ?_
            simp only [List.take_succ_cons, List.take_zero, List.drop_succ_cons, List.drop_zero]
            apply Exists.intro
            refine ⟨?hq, ?hv, ?ht⟩
            case hq =>
              intro V hV
              clear hV
              repeat (go_big_quiet_step (fail))
              exact wpQuiet_nil rfl
            case hv => exact ⟨trivial, trivial, trivial, trivial, trivial, trivial, trivial, trivial, trivial, trivial, trivial, trivial, trivial⟩
            case ht =>
              intro wz hs
              have hkz := hs.kept
              clear hs
              go_wp2
              go_meet
              exact ⟨rfl, hkz⟩
        · have f6 : ((ws : Int) == 0) = false := by rw [r1, r2, h255] at hws; simp; omega
          have f7 : ((ws : Int) == 65535) = true := by rw [r1, r2, h255] at hws; simp; omega
          clear q1 q2 q4 q5 r1 r2 hbb hws h255
          refine wp_region_acts Nil [20, 21] (fun i vl => (#[], 0)) (fun i => .int .i64 (N : Int)) (mzI N) (mzP N) 34 (by kernel_rfl) (by kernel_rfl) (mzI_keeps N) trivial ?_
          simp only [List.take_succ_cons, List.take_zero, List.drop_succ_cons, List.drop_zero]
          refine tLex_quiets 20 rfl (by kernel_rfl) ?_
          simp only [List.take_succ_cons, List.take_zero, List.drop_succ_cons, List.drop_zero]
          apply Exists.intro
          refine ⟨?hq, ?hv, ?ht⟩
          case hq =>
            intro V hV
            have tx1 := fun dr os => ((HBB10.out.kept hV (fun _ _ hf => hf)).kept (kept_grown' V dr os) (fun _ _ hf => hf)).text (P := Try.prog) Try.underlying22 Try.underlying5 Try.underlying9
            rw [hsB] at tx1
            clear hV
            repeat (go_big_quiet_step (fail))
            exact wpQuiet_nil rfl
          case hv => exact ⟨trivial, trivial, trivial, trivial, trivial, trivial, trivial, trivial, trivial, trivial, trivial, trivial, trivial, trivial, trivial, trivial, trivial, trivial, trivial, rfl, trivial⟩
          case ht =>
            refine tLex_mks rfl rfl _ _ rfl N (by omega) rfl rfl (.slice (some ⟨0, 0, none⟩) N N) ⟨0, rfl⟩ ?hI ?_
            case hI =>
              intro D u u' g hu hI hg hb hk
              exact ⟨⟨g, rfl⟩, g, rfl, hb⟩
            intro v hv
            obtain ⟨g, rfl⟩ : ∃ g, v = .slice (some ⟨g, 0, none⟩) N N := hv
            simp only [Act.put, mkVal, List.setIfInBounds_toArray, List.set_cons_succ, List.set_cons_zero]
            refine tLex_val rfl rfl (.string sZ) (show mzP N 21 _ from HSZ.out) ?hc ?_
            case hc =>
              intro D u hu hI
              obtain ⟨g', he, hb⟩ : ∃ g', Value.slice (some ⟨g, 0, none⟩) N N = .slice (some ⟨g', 0, none⟩) N N ∧ Blo u g' 5 (bys (List.replicate N 0)).toArray := hI
              cases he
              have htx := (bloB hb N List.length_replicate (by omega)).text (P := Try.prog) Try.underlying22 Try.underlying5 Try.underlying9
              exact ⟨_, exec_cvI _ _ _ rfl rfl htx, rfl, g, rfl, hb⟩
            intro v hv
            have hv : v = .string ⟨(List.replicate N (0 : UInt8)).toArray⟩ := hv
            rw [← HSZ'.out] at hv
            subst hv
            simp only [Act.put, mkVal, List.setIfInBounds_toArray, List.set_cons_succ, List.set_cons_zero]
            refine tLex_quiets 12 rfl (by kernel_rfl) ?_
            simp only [List.take_succ_cons, List.take_zero, List.drop_succ_cons, List.drop_zero]
            apply Exists.intro
            refine ⟨?hq, ?hv, ?ht⟩
            case hq =>
              intro V hV
              clear hV
              repeat (go_big_quiet_step (fail))
              exact wpQuiet_nil rfl
            case hv => exact ⟨trivial, trivial, trivial, trivial, trivial, trivial, trivial, trivial, trivial, trivial, trivial, trivial, trivial⟩
            case ht =>
              intro wz hs
              have hkz := hs.kept
              clear hs
              go_wp2
              go_meet
              exact ⟨rfl, hkz⟩
      · have h255 : (255 : UInt8).toNat = 255 := rfl
        have f3 : ((by' : Int) == 0) = false := by rw [q1, h255] at hbb; simp; omega
        have f4 : ((by' : Int) == 65535) = true := by rw [q1, q2, h255] at hbb; simp; omega
        have f1 : (E == 0) = false := by rw [q5]; rfl
        have f2 : (E != 0) = true := by rw [q5]; rfl
        have f5 : (E != 21) = false := by rw [q5]; rfl
        obtain ⟨sB, hsB⟩ : ∃ s : ByteArray, (⟨B'.toArray⟩ : ByteArray) = s := ⟨_, rfl⟩
        obtain ⟨sZ, hsZ'⟩ : ∃ s : ByteArray, s = (⟨(List.replicate N (0 : UInt8)).toArray⟩ : ByteArray) := ⟨_, rfl⟩
        have hsZ : Value.string sZ = .string ⟨(List.replicate N (0 : UInt8)).toArray⟩ := by rw [hsZ']
        have g1 : (sB.toList == sZ.toList) = true := by rw [Lib.toList_data, Lib.toList_data, ← hsB, hsZ']; simpa using q4
        have HSZ' := Lib.hid hsZ'
        have HSZ := Lib.hid hsZ
        clear tx1 hsZ' hsZ
        rcases q3 with ⟨r1, r2⟩ | ⟨r1, r2⟩
        · have f6 : ((ws : Int) == 0) = true := by rw [r1, r2] at hws; have h1 : (0 : UInt8).toNat = 0 := rfl; rw [h1] at hws; simp; omega
          clear q1 q2 q4 q5 r1 r2 hbb hws h255
          refine wp_region_acts Nil [20, 21] (fun i vl => (#[], 0)) (fun i => .int .i64 (N : Int)) (mzI N) (mzP N) 34 (by kernel_rfl) (by kernel_rfl) (mzI_keeps N) trivial ?_
          simp only [List.take_succ_cons, List.take_zero, List.drop_succ_cons, List.drop_zero]
          refine tLex_quiets 20 rfl (by kernel_rfl) ?_
          simp only [List.take_succ_cons, List.take_zero, List.drop_succ_cons, List.drop_zero]
          apply Exists.intro
          refine ⟨?hq, ?hv, ?ht⟩
          case hq =>
            intro V hV
            have tx1 := fun dr os => ((HBB10.out.kept hV (fun _ _ hf => hf)).kept (kept_grown' V dr os) (fun _ _ hf => hf)).text (P := Try.prog) Try.underlying22 Try.underlying5 Try.underlying9
            rw [hsB] at tx1
            clear hV
            repeat (go_big_quiet_step (fail))
            exact wpQuiet_nil rfl
          case hv => exact ⟨trivial, trivial, trivial, trivial, trivial, trivial, trivial, trivial, trivial, trivial, trivial, trivial, trivial, trivial, trivial, trivial, trivial, trivial, trivial, rfl, trivial⟩
          case ht =>
            refine tLex_mks rfl rfl _ _ rfl N (by omega) rfl rfl (.slice (some ⟨0, 0, none⟩) N N) ⟨0, rfl⟩ ?hI ?_
            case hI =>
              intro D u u' g hu hI hg hb hk
              exact ⟨⟨g, rfl⟩, g, rfl, hb⟩
            intro v hv
            obtain ⟨g, rfl⟩ : ∃ g, v = .slice (some ⟨g, 0, none⟩) N N := hv
            simp only [Act.put, mkVal, List.setIfInBounds_toArray, List.set_cons_succ, List.set_cons_zero]
            refine tLex_val rfl rfl (.string sZ) (show mzP N 21 _ from HSZ.out) ?hc ?_
            case hc =>
              intro D u hu hI
              obtain ⟨g', he, hb⟩ : ∃ g', Value.slice (some ⟨g, 0, none⟩) N N = .slice (some ⟨g', 0, none⟩) N N ∧ Blo u g' 5 (bys (List.replicate N 0)).toArray := hI
              cases he
              have htx := (bloB hb N List.length_replicate (by omega)).text (P := Try.prog) Try.underlying22 Try.underlying5 Try.underlying9
              exact ⟨_, exec_cvI _ _ _ rfl rfl htx, rfl, g, rfl, hb⟩
            intro v hv
            have hv : v = .string ⟨(List.replicate N (0 : UInt8)).toArray⟩ := hv
            rw [← HSZ'.out] at hv
            subst hv
            simp only [Act.put, mkVal, List.setIfInBounds_toArray, List.set_cons_succ, List.set_cons_zero]
            refine tLex_quiets 12 rfl (by kernel_rfl) ?_
            simp only [List.take_succ_cons, List.take_zero, List.drop_succ_cons, List.drop_zero]
            apply Exists.intro
            refine ⟨?hq, ?hv, ?ht⟩
            case hq =>
              intro V hV
              clear hV
              repeat (go_big_quiet_step (fail))
              exact wpQuiet_nil rfl
            case hv => exact ⟨trivial, trivial, trivial, trivial, trivial, trivial, trivial, trivial, trivial, trivial, trivial, trivial, trivial⟩
            case ht =>
              intro wz hs
              have hkz := hs.kept
              clear hs
              go_wp2
              go_meet
              exact ⟨rfl, hkz⟩
        · have f6 : ((ws : Int) == 0) = false := by rw [r1, r2, h255] at hws; simp; omega
          have f7 : ((ws : Int) == 65535) = true := by rw [r1, r2, h255] at hws; simp; omega
          clear q1 q2 q4 q5 r1 r2 hbb hws h255
          refine wp_region_acts Nil [20, 21] (fun i vl => (#[], 0)) (fun i => .int .i64 (N : Int)) (mzI N) (mzP N) 34 (by kernel_rfl) (by kernel_rfl) (mzI_keeps N) trivial ?_
          simp only [List.take_succ_cons, List.take_zero, List.drop_succ_cons, List.drop_zero]
          refine tLex_quiets 20 rfl (by kernel_rfl) ?_
          simp only [List.take_succ_cons, List.take_zero, List.drop_succ_cons, List.drop_zero]
          apply Exists.intro
          refine ⟨?hq, ?hv, ?ht⟩
          case hq =>
            intro V hV
            have tx1 := fun dr os => ((HBB10.out.kept hV (fun _ _ hf => hf)).kept (kept_grown' V dr os) (fun _ _ hf => hf)).text (P := Try.prog) Try.underlying22 Try.underlying5 Try.underlying9
            rw [hsB] at tx1
            clear hV
            repeat (go_big_quiet_step (fail))
            exact wpQuiet_nil rfl
          case hv => exact ⟨trivial, trivial, trivial, trivial, trivial, trivial, trivial, trivial, trivial, trivial, trivial, trivial, trivial, trivial, trivial, trivial, trivial, trivial, trivial, rfl, trivial⟩
          case ht =>
            refine tLex_mks rfl rfl _ _ rfl N (by omega) rfl rfl (.slice (some ⟨0, 0, none⟩) N N) ⟨0, rfl⟩ ?hI ?_
            case hI =>
              intro D u u' g hu hI hg hb hk
              exact ⟨⟨g, rfl⟩, g, rfl, hb⟩
            intro v hv
            obtain ⟨g, rfl⟩ : ∃ g, v = .slice (some ⟨g, 0, none⟩) N N := hv
            simp only [Act.put, mkVal, List.setIfInBounds_toArray, List.set_cons_succ, List.set_cons_zero]
            refine tLex_val rfl rfl (.string sZ) (show mzP N 21 _ from HSZ.out) ?hc ?_
            case hc =>
              intro D u hu hI
              obtain ⟨g', he, hb⟩ : ∃ g', Value.slice (some ⟨g, 0, none⟩) N N = .slice (some ⟨g', 0, none⟩) N N ∧ Blo u g' 5 (bys (List.replicate N 0)).toArray := hI
              cases he
              have htx := (bloB hb N List.length_replicate (by omega)).text (P := Try.prog) Try.underlying22 Try.underlying5 Try.underlying9
              exact ⟨_, exec_cvI _ _ _ rfl rfl htx, rfl, g, rfl, hb⟩
            intro v hv
            have hv : v = .string ⟨(List.replicate N (0 : UInt8)).toArray⟩ := hv
            rw [← HSZ'.out] at hv
            subst hv
            simp only [Act.put, mkVal, List.setIfInBounds_toArray, List.set_cons_succ, List.set_cons_zero]
            refine tLex_quiets 12 rfl (by kernel_rfl) ?_
            simp only [List.take_succ_cons, List.take_zero, List.drop_succ_cons, List.drop_zero]
            apply Exists.intro
            refine ⟨?hq, ?hv, ?ht⟩
            case hq =>
              intro V hV
              clear hV
              repeat (go_big_quiet_step (fail))
              exact wpQuiet_nil rfl
            case hv => exact ⟨trivial, trivial, trivial, trivial, trivial, trivial, trivial, trivial, trivial, trivial, trivial, trivial, trivial⟩
            case ht =>
              intro wz hs
              have hkz := hs.kept
              clear hs
              go_wp2
              go_meet
              exact ⟨rfl, hkz⟩
    case rest =>
      obtain ⟨rfl, hcw⟩ := hcut
      have HKc := Lib.hid (HK10.out.then hcw)
      have HZc := Lib.hid (HZB.out.kept HKc.out (fun _ _ hf => hf))
      clear hcw HK10 HBB10 HIG HL2 HHL HB16 HWS HK2 HC9 HG9 HBG
      obtain ⟨m, hm, hm1, hm2⟩ : ∃ m : Nat, (if (300 : Int) < (zn : Int) then (300 : Int) else (zn : Int)) = (m : Int) ∧ m ≤ zn ∧ m ≤ 300 := ⟨min zn 300, by split <;> omega, by omega, by omega⟩
      have hmn : min (zn : Int) 300 = (m : Int) := by rw [← hm]; split <;> omega
      have hsl := run_cut_hi (P := Try.prog) Try.underlying22 inf5.1 C zn zc m (m : Int) rfl (by have := HZc.out.2.1; omega)
      have HBM := Lib.hid (HZc.out.pre hm1)
      obtain ⟨z, hz⟩ : ∃ z, z0.take m = z := ⟨_, rfl⟩
      rw [hz] at HBM
      have hmc : m ≤ zc := by have := HZc.out.2.1; omega
      have hzl : z.length = m := HBM.out.1
      have HZL := Lib.hid hzl
      clear hz hzl hm1 HZc HZB
      go_wp2_with (fail)
      refine (icget_yes C m zc z wc HBM.out (by omega)).mono ?_
      obtain ⟨R2, hR2⟩ : ∃ r, getI z = r := ⟨_, rfl⟩
      have HR2 := Lib.hid hR2
      rw [hR2]
      obtain ⟨X, E2⟩ := R2
      rintro e w11 ⟨A6, n6, c6, rfl, hn6, hk6⟩
      dsimp only at hn6 ⊢
      have HZ6 := Lib.hid (MB.new w11 25 Ms.zero none 0 0)
      clear hR2 hm hmn hsl
      go_upto_region 17 with (first
        | (refine wpList_st rfl _ (.tmp 19) _ rfl w11.heap.size 0 rfl (ics X A6 n6 c6) _ rfl rfl (infMs _ _ _ _) 25 _ HZ6.out (by rw [ics_len, ics_len]; omega) (ics_one _ _ _ _) ?_; intro w12 hb hks hz; simp only [Act.put])
        | fail)
      have hks1 := ((Kept.refl Nil w11).alloc (.cells (ics Ms.zero none 0 0).toArray 25)).fresh hks (fun i hi => by cases hi; exact Nat.le_refl _)
      have hks2 := hk6.then hks1
      have HX12 := Lib.hid (show MB w12 w11.heap.size 25 X A6 n6 c6 from hb)
      have HN12 := Lib.hid (hn6.1.kept hks1 (fun _ _ hf => hf))
      have HB12 := Lib.hid (HBM.out.kept hks2 (fun _ _ hf => hf))
      have HK12 := Lib.hid (HKc.out.then hks2)
      obtain ⟨g19, hg19⟩ : ∃ g, w11.heap.size = g := ⟨_, rfl⟩
      rw [hg19] at HX12 ⊢
      clear hb hks hz hks1 hks2 hk6 hn6 HZ6 hg19 HKc HBM
      by_cases hE2 : E2 = 0
      · subst hE2
        obtain ⟨t, cd, u0, v0, pp, qq, rr, ss, body, S, hzz, hX, hS, hput, hor⟩ := put_got z X HR2.out (by have := HZL.out; omega)
        subst hzz
        have hlen : (rawM X S).length = m := by rw [rawM_len, hX, ← HZL.out]; simp; omega
        have HLN := Lib.hid hlen
        have hm8 : 8 ≤ m := by have := HZL.out; simp at this; omega
        have HPT := Lib.hid hput
        have HOR := Lib.hid hor
        have HXX := Lib.hid hX
        clear hput hor hlen hX
        have hs24 := run_cut (P := Try.prog) Try.underlying22 inf5.1 inf5.2 C m zc 2 4 (2 : Int) (4 : Int) rfl rfl (by omega) (by omega)
        have HT24 := Lib.hid (show Byt w12 (cutA C zc 2) 2 (zc - 2) [u0, v0] from HB12.out.cut (lo := 2) (hi := 4) (by omega) (by omega))
        obtain ⟨AU, hAU⟩ : ∃ A, cutA C zc 2 = A := ⟨_, rfl⟩
        obtain ⟨cU, hcU⟩ : ∃ A, zc - 2 = A := ⟨_, rfl⟩
        replace hs24 : ∀ w, (Instr.slice 22 (.slice C m zc) (some (.int .i64 2)) (some (.int .i64 4)) none).run Try.prog w = .ok (.slice AU 2 cU) w := fun w => by rw [← hAU, ← hcU]; exact hs24 w
        rw [hAU, hcU] at HT24
        clear hAU hcU
        go_wp2_with (first
          | (refine wpList_ld rfl _ _ rfl g19 0 rfl (ics X A6 n6 c6) HX12.out.all _ Try.underlying25 rfl (infMs _ _ _ _) ?_; simp only [Act.put, List.setIfInBounds_toArray, List.set_cons_succ, List.set_cons_zero])
          | fail)
        have hp := icput_yes X A6 n6 c6 w12 HN12.out (by have := HN12.out.1; rw [HXX.out] at this; have := HZL.out; simp at this; dsimp only at *; omega)
        rw [HPT.out] at hp
        refine hp.mono ?_
        clear hp
        rintro e w13 ⟨v, rfl, hmd⟩
        dsimp only at hmd ⊢
        obtain ⟨AC, cC, rfl, hyC, -⟩ := byt_own hmd
        rw [HLN.out] at hyC ⊢
        have HYC := Lib.hid hyC
        have HB13 := Lib.hid (HB12.out.kept hmd.2 (fun _ _ hf => hf))
        have HT13 := Lib.hid (HT24.out.kept hmd.2 (fun _ _ hf => hf))
        have HK13 := Lib.hid (HK12.out.then hmd.2)
        have hmcC : m ≤ cC := hyC.2.1
        clear hmd hyC HB12 HT24 HK12 HX12 HN12 HPT
        obtain ⟨sU, hsU⟩ : ∃ s : ByteArray, (⟨[u0, v0].toArray⟩ : ByteArray) = s := ⟨_, rfl⟩
        have tx0 := HT13.out.text (P := Try.prog) Try.underlying22 Try.underlying5 Try.underlying9
        rw [hsU] at tx0
        go_upto_region 21 with (fail)
        clear tx0 hs24
        -- the slices of both
        have sl1 := run_cut_hi (P := Try.prog) Try.underlying22 inf5.1 AC m cC 2 (2 : Int) rfl (by omega)
        have sl2 := run_cut_hi (P := Try.prog) Try.underlying22 inf5.1 C m zc 2 (2 : Int) rfl (by omega)
        have sl3 := run_cut_lo (P := Try.prog) Try.underlying22 inf5.1 inf5.2 AC m cC 4 (4 : Int) rfl (by omega)
        have sl4 := run_cut_lo (P := Try.prog) Try.underlying22 inf5.1 inf5.2 C m zc 4 (4 : Int) rfl (by omega)
        have sl5 := run_cut (P := Try.prog) Try.underlying22 inf5.1 inf5.2 AC m cC 2 4 (2 : Int) (4 : Int) rfl rfl (by omega) (by omega)
        have y1 : Byt w13 AC 2 cC [t, cd] := by have := HYC.out.pre (hi := 2) (by omega); rw [HXX.out] at this; exact this
        have y2 : Byt w13 C 2 zc [t, cd] := HB13.out.pre (hi := 2) (by omega)
        have y3 : Byt w13 (cutA AC cC 4) (m - 4) (cC - 4) (pp :: qq :: rr :: ss :: body) := by
          have := HYC.out.cut (lo := 4) (hi := m) (by omega) (Nat.le_refl _)
          rw [List.take_of_length_le (by rw [HLN.out]; exact Nat.le_refl _), HXX.out] at this
          exact this
        have y4 : Byt w13 (cutA C zc 4) (m - 4) (zc - 4) (pp :: qq :: rr :: ss :: body) := by
          have := HB13.out.cut (lo := 4) (hi := m) (by omega) (Nat.le_refl _)
          rw [List.take_of_length_le (by rw [HZL.out]; exact Nat.le_refl _)] at this
          exact this
        have y5 : Byt w13 (cutA AC cC 2) 2 (cC - 2) [UInt8.ofNat (S / 256), UInt8.ofNat S] := by
          have := HYC.out.cut (lo := 2) (hi := 4) (by omega) (by omega)
          rw [HXX.out] at this
          exact this
        replace sl5 : ∀ w, (Instr.slice 22 (.slice AC m cC) (some (.int .i64 2)) (some (.int .i64 4)) none).run Try.prog w = .ok (.slice (cutA AC cC 2) 2 (cC - 2)) w := fun w => sl5 w
        generalize cutA AC cC 4 = A3 at *
        generalize cutA C zc 4 = A4 at *
        generalize cutA AC cC 2 = A7 at *
        generalize cC - 4 = c3' at *
        generalize zc - 4 = c4' at *
        generalize cC - 2 = c7' at *
        generalize m - 4 = m4 at *
        obtain ⟨sT, hsT⟩ : ∃ s : ByteArray, (⟨[t, cd].toArray⟩ : ByteArray) = s := ⟨_, rfl⟩
        obtain ⟨sR, hsR⟩ : ∃ s : ByteArray, (⟨(pp :: qq :: rr :: ss :: body).toArray⟩ : ByteArray) = s := ⟨_, rfl⟩
        have tx1 := fun dr os => (y1.kept (kept_grown' w13 dr os) (fun _ _ hf => hf)).text (P := Try.prog) Try.underlying22 Try.underlying5 Try.underlying9
        have tx2 := fun dr os => (y2.kept (kept_grown' w13 dr os) (fun _ _ hf => hf)).text (P := Try.prog) Try.underlying22 Try.underlying5 Try.underlying9
        have tx3 := fun dr os => (y3.kept (kept_grown' w13 dr os) (fun _ _ hf => hf)).text (P := Try.prog) Try.underlying22 Try.underlying5 Try.underlying9
        have tx4 := fun dr os => (y4.kept (kept_grown' w13 dr os) (fun _ _ hf => hf)).text (P := Try.prog) Try.underlying22 Try.underlying5 Try.underlying9
        have tx5 := fun dr os => (y5.kept (kept_grown' w13 dr os) (fun _ _ hf => hf)).text (P := Try.prog) Try.underlying22 Try.underlying5 Try.underlying9
        rw [hsT] at tx1 tx2
        rw [hsR] at tx3 tx4
        clear y1 y2 y3 y4 y5 hsT hsR HYC HB13 HT13 HR2
        rcases HOR.out with ⟨r1, r2⟩ | ⟨r1, r2, r3⟩
        · rw [r1, r2, hsU] at tx5
          clear r1 r2 hsU HOR HXX
          refine wp_region_quiet_below (by kernel_rfl) (by kernel_rfl) ?_
          repeat (go_big_quiet_step (with_reducible exact quietK (itells_yes _)))
          refine wpQuiet_nil ?_
          rintro wz ⟨nq, hw⟩
          have HKz := Lib.hid (HK13.out.then (show Kept Nil w13 wz by rw [hw]; exact kept_grown _ _))
          clear hw
          go_wp2
          go_ret
          exact ⟨rfl, HKz.out.below (Nat.le_refl _) (fun _ hf => hf.elim)⟩
        · obtain ⟨sS, hsS⟩ : ∃ s : ByteArray, (⟨[UInt8.ofNat (S / 256), UInt8.ofNat S].toArray⟩ : ByteArray) = s := ⟨_, rfl⟩
          rw [hsS] at tx5
          have k1 : (sS.toList == sU.toList) = false := by rw [Lib.toList_data, Lib.toList_data, ← hsS, ← hsU, r1, r2, r3]; rfl
          have k2 : (sU.toList == [255, 255]) = true := by rw [Lib.toList_data, ← hsU, r1, r2]; rfl
          have k3 : (sS.toList == [0, 0]) = true := by rw [Lib.toList_data, ← hsS, r3]; rfl
          clear r1 r2 r3 hsU hsS HOR HXX
          refine wp_region_quiet_below (by kernel_rfl) (by kernel_rfl) ?_
          repeat (go_big_quiet_step (with_reducible exact quietK (itells_yes _)))
          refine wpQuiet_nil ?_
          rintro wz ⟨nq, hw⟩
          have HKz := Lib.hid (HK13.out.then (show Kept Nil w13 wz by rw [hw]; exact kept_grown _ _))
          clear hw
          go_wp2
          go_ret
          exact ⟨rfl, HKz.out.below (Nat.le_refl _) (fun _ hf => hf.elim)⟩
      · have hne : (E2 != 0) = true := by simp [hE2]
        have hq : (m < 8 ∧ E2 = 4) ∨ (¬ m < 8 ∧ E2 = 21) := by
          by_cases h8 : m < 8
          · left
            have h1 := getI_short z (by rw [HZL.out]; exact h8)
            rw [HR2.out] at h1
            injection h1 with _ h1
            exact ⟨h8, h1⟩
          · right
            refine ⟨h8, ?_⟩
            by_cases hs0 : sumM z = 0
            · obtain ⟨t, cd, u0, v0, pp, qq, rr, ss, body, rfl⟩ := eight z (by rw [HZL.out]; omega)
              have h1 := getI_ok _ _ _ _ _ _ _ _ _ hs0
              rw [HR2.out] at h1
              injection h1 with _ h1
              exact absurd h1 hE2
            · have h1 := getI_sum z (by rw [HZL.out]; omega) hs0
              rw [HR2.out] at h1
              injection h1
        clear hE2 HX12 HN12
        rcases hq with ⟨h8, rfl⟩ | ⟨h8, rfl⟩
        · have h8' : (m : Int) < 8 := by omega
          clear h8
          go_wp2_with (fail)
          refine (itells_yes _).mono ?_
          rintro e w13 ⟨rfl, hk⟩
          have HKz := Lib.hid (HK12.out.then hk)
          clear hk
          go_wp2
          go_ret
          exact ⟨rfl, HKz.out.below (Nat.le_refl _) (fun _ hf => hf.elim)⟩
        · have h8' : ¬ (m : Int) < 8 := by omega
          clear h8
          go_wp2_with (fail)
          refine (itells_yes _).mono ?_
          rintro e w13 ⟨rfl, hk⟩
          have HKz := Lib.hid (HK12.out.then hk)
          clear hk
          go_wp2
          go_ret
          exact ⟨rfl, HKz.out.below (Nat.le_refl _) (fun _ hf => hf.elim)⟩
end Go.Proofs.Ytkpelaojjfcpfaa
