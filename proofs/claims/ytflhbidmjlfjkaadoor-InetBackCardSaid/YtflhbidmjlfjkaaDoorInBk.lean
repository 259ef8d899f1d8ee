/- tolllaw06.InetBack: the walk. -/
import Derived.Test.YtflhbidmjlfjkaaDoorInBa
import Derived.Test.YtflhbidmjlfjkaaDoorInO
import Derived.Test.YtflhbidmjlfjkaaDoorInFr
namespace Go.Proofs.YtflhbidmjlfjkaaDoor
open Go.RowKit Go.Sort
set_option linter.unusedVariables false

theorem mdB_len (h : Hd) (body : List UInt8) : (mdB h body).length ≤ body.length := by
  unfold mdB
  split <;> simp only [List.length_take] <;> omega
theorem put_facts (H : Hd) (b : List UInt8) (hm : H.may b) : (putHM H b).2 = 0 ∧ (putHM H b).1.length = 20 + H.x.length + b.length ∧ sumM ((putHM H b).1.take (20 + H.x.length)) = 0 := by
  rw [put_may H b hm]
  refine ⟨rfl, by simp only [List.length_append, headB_len], ?_⟩
  simp only
  rw [take_eq _ _ _ (headB_len _ _ _)]
  exact headB_sum H _ (opts_len hm.x).1
theorem ln_c (A : Option Addr) (n c : Nat) (ty : TypeId) (u : World) : (Builtin.len_ #[25] ty #[.slice A n c]).run Tryd.prog u = .ok (.int .i64 (n : Int)) u := by
  simp [Builtin.len_, Builtin.lenOf, run_underlying Tryd.underlying25, goInt]
theorem mn_c (n b m : Nat) (ty : TypeId) (u : World) (h : (if (b : Int) < (n : Int) then (b : Int) else (n : Int)) = (m : Int)) : (Builtin.min_ #[3, 3] ty #[.int .i64 (n : Int), .int .i64 (b : Int)]).run Tryd.prog u = .ok (.int .i64 (m : Int)) u := by
  rw [← h]
  simp [Builtin.min_, Builtin.min2]
theorem tx_0 (H : Hd) (A1 : Option Addr) (n1 c1 : Nat) (A2 : Option Addr) (n2 c2 : Nat) (u : World) : (Instr.extract (tupH H A1 n1 c1 A2 n2 c2) 0).run Tryd.prog u = .ok (.agg (hcs H A1 n1 c1).toArray) u := rfl
theorem tx_1 (H : Hd) (A1 : Option Addr) (n1 c1 : Nat) (A2 : Option Addr) (n2 c2 : Nat) (u : World) : (Instr.extract (tupH H A1 n1 c1 A2 n2 c2) 1).run Tryd.prog u = .ok (.slice A2 n2 c2) u := rfl
theorem tx_2 (H : Hd) (A1 : Option Addr) (n1 c1 : Nat) (A2 : Option Addr) (n2 c2 : Nat) (u : World) : (Instr.extract (tupH H A1 n1 c1 A2 n2 c2) 2).run Tryd.prog u = .ok (.int .i64 0) u := rfl
/-- A step that stores. -/
theorem stepX_st {P : Program} {o : Oper} {a : Act} {u : World} {I : Act → World → Prop} {R : Nat → Act → World → Prop} {U : Nat → Act → World → Prop} {Q : Exit → Act → World → Prop} {i : Nat} (ty : TypeId) (p x : Operand) (ho : o.op = .store ty p x) (hd : o.dst = none) {g f : Nat} (hp : a.eval p = .pointer (some ⟨g, f, none⟩)) (l : List Value) {v : Value} (hx : a.eval x = v) (hvc : v.cells = l.toArray) (hi : (P.info? ty).map (·.size) = some l.length) {T : TypeId} {cs : List Value} (hb : Blo u g T cs.toArray) (hf : f + l.length ≤ cs.length) (h1 : ∀ u ∈ l, u.oneCell' = true)
    (h : ∀ u', Blo u' g T (cs.take f ++ l ++ cs.drop (f + l.length)).toArray → Kept (One g) u u' → u'.heap.size = u.heap.size → I a u' ∧ R i a u' ∧ (∀ j, j ≠ i → R j a u → R j a u') ∧ ∀ j, j ≠ i → (∀ e ∈ o.after, Region.binds .any e = true → e.on ≠ j) → U j a u → U j a u') :
    o.wp P a u (fun a' w' => ∃ v, a' = a.put o.dst v ∧ I a' w' ∧ R i a' w' ∧ (∀ j, j ≠ i → R j a u → R j a w') ∧ ∀ j, j ≠ i → (∀ e ∈ o.after, Region.binds .any e = true → e.on ≠ j) → U j a u → U j a' w') Q := by
  obtain ⟨u', hr, hbl, hk, hz⟩ := exec_st (P := P) (o := o) ty p x ho hp l hx hvc hi hb hf h1
  obtain ⟨h1, h2, h3, h4⟩ := h u' hbl hk hz
  unfold Oper.wp
  rw [hr]
  have e : a.put o.dst undef = a := by rw [hd]; rfl
  exact ⟨undef, rfl, by rw [e]; exact h1, by rw [e]; exact h2, h3, by rw [e]; exact h4⟩
set_option maxRecDepth 100000 in
set_option maxHeartbeats 16000000 in
theorem back_yes (h : Hd) (hok : h.ok) (A : Option Addr) (n c : Nat) (B : Option Addr) (m d : Nat) (body : List UInt8) (C : Option Addr) (p q : Nat) (z0 : List UInt8) (cut : Nat) (hcut : cut < 65536) (w : World) (hx : Byt w A n c h.x) (hy : Byt w B m d body) (hz : Byt w C p q z0) (hG : Gl w) :
    Calls Tryd.prog 6 #[.agg (hcs h A n c).toArray, .slice B m d, .slice C p q, .int .u16 (cut : Int)] w fun e w' => e = .returned (.bool true) ∧ Below w.heap.size w w' := by
  obtain ⟨mz, hmz, hmz1, hmz2⟩ : ∃ k : Nat, (if (20 : Int) < (p : Int) then (20 : Int) else (p : Int)) = (k : Int) ∧ k ≤ p ∧ k ≤ 20 := ⟨min p 20, by split <;> omega, by omega, by omega⟩
  have hpq := hz.2.1
  have hslz := run_cut_hi (P := Tryd.prog) Tryd.underlying25 inf5.1 C p q mz (mz : Int) rfl (by omega)
  have hI := HB.new w 27 h A n c
  have hk := (Kept.refl Nil w).alloc (.cells (hcs h A n c).toArray 27)
  have hmay := md_may h hok body
  have HP := Lib.hid hI
  have HK := Lib.hid hk
  have HX := Lib.hid (hx.kept hk (fun _ _ hf => hf))
  have HY := Lib.hid (hy.kept hk (fun _ _ hf => hf))
  have HZ := Lib.hid (hz.kept hk (fun _ _ hf => hf))
  have HZL := Lib.hid hz.lt
  have HYL := Lib.hid hy.lt
  have HOK := Lib.hid hok
  have HMAY := Lib.hid hmay
  have HMZ := Lib.hid (And.intro hmz1 hmz2)
  have HMZI := Lib.hid hmz
  have HSLZ := Lib.hid hslz
  obtain ⟨i0, hi, hz0, hz1, hz2⟩ := info_parts Tryd.infb
  clear hI hk hx hy hz hok hmay hmz1 hmz2 hslz hmz hpq
  have HGG := Lib.hid hG
  go_enter Tryd.func6, Tryd.ntmps6
  go_upto_region 1 with (fail)
  refine wp_nameE (fun W => HB W w.heap.size 27 h A n c ∧ Kept Nil w W ∧ Byt W A n c h.x ∧ Byt W B m d body ∧ Byt W C p q z0) ⟨HP.out, HK.out, HX.out, HY.out, HZ.out⟩ ?_
  clear HP HK HX HY HZ
  rintro W ⟨hp, hk, hx, hy, hz⟩
  have HP := Lib.hid hp
  have HK := Lib.hid hk
  have HX := Lib.hid hx
  have HY := Lib.hid hy
  have HZ := Lib.hid hz
  clear hp hk hx hy hz
  go_wp2_with (first
    | (refine wpList_ld rfl _ _ rfl w.heap.size 0 rfl (hcs h A n c) HP.out.all _ Tryd.underlying27 rfl (infI _ _ _ _) ?_; simp only [Act.put, List.setIfInBounds_toArray, List.set_cons_succ, List.set_cons_zero])
    | fail)
  refine (made_yes h HOK.out A n c B m d body W HX.out HY.out).mono ?_
  rintro e w1 ⟨A1, c1, m1, rfl, hx1, hl1, hy1, hk1⟩
  have hgw : w.heap.size < W.heap.size := HP.out.lt
  dsimp only
  have hxl : (mdH h).x.length = mdN h := hx1.1
  have hyl : (mdB h body).length = m1 := hy1.1
  have hm1m : m1 ≤ m := by have h1 := mdB_len h body; have h2 := HY.out.1; omega
  generalize mdH h = H at *
  generalize mdB h body = b at *
  generalize mdN h = N at *
  obtain ⟨hf1, hf2, hf3⟩ := put_facts H b HMAY.out
  obtain ⟨L, hL⟩ : ∃ L, (putHM H b).1 = L := ⟨_, rfl⟩
  have HRP := Lib.hid (fun z => read_put H b HMAY.out true z)
  have HRC := Lib.hid (fun k hk => read_cut H b HMAY.out k hk)
  have CP := Lib.hid (fun w hx hy => iput_yes H HMAY.out.ok A1 N c1 B m1 d b w hx hy (by have := (opts_len HMAY.out.x).1; omega) (by have := HMAY.out.n; omega))
  rw [hL, hf1] at CP
  rw [hL] at HRP HRC hf2 hf3
  rw [hxl] at HRC hf3
  rw [hxl, hyl] at hf2
  obtain ⟨LL, hLL⟩ : ∃ k, L.length = k := ⟨_, rfl⟩
  rw [hLL] at hf2 HRC
  have hN40 : N ≤ 40 ∧ m1 ≤ 65535 ∧ LL ≤ 65535 := by have := (opts_len HMAY.out.x).1; have := HMAY.out.n; omega
  have HN40 := Lib.hid hN40
  have HLL := Lib.hid hLL
  have HXL := Lib.hid hxl
  have HBL := Lib.hid hyl
  have HP1 := Lib.hid (HP.out.kept hk1 (fun hf => hf))
  have HX1 := Lib.hid hx1
  have HB1 := Lib.hid hy1
  have HZ1 := Lib.hid (HZ.out.kept hk1 (fun _ _ hf => hf))
  have HK1 := Lib.hid (HK.out.then hk1)
  have HS3 := Lib.hid hf3
  clear hf1 hf3 hL hLL hxl hyl hx1 hy1 hk1 HP HK HX HY HZ HOK HMAY hN40
  have HYL1 := Lib.hid (show ∀ i, Lies B m1 i → i < w.heap.size from fun i hi => by
    obtain ⟨h0, ad, g1, g2⟩ := hi
    exact HYL.out i ⟨by have := hm1m; omega, ad, g1, g2⟩)
  have HX1L := Lib.hid (show ∀ i, Lies A1 N i → w.heap.size < i from fun i hi => Nat.lt_of_lt_of_le hgw (hl1 i hi))
  clear hl1 hgw hm1m
  go_upto_region 2 with (first
    | (refine wpList_st rfl _ (.tmp 4) _ rfl w.heap.size 0 rfl (hcs H A1 N c1) _ rfl rfl (infI _ _ _ _) 27 _ HP1.out (by rw [hcs_len, hcs_len]; omega) (hcs_one _ _ _ _) ?_; intro w2 hb2 hk2 hz2; simp only [Act.put])
    | fail)
  have HP2 := Lib.hid (show HB w2 w.heap.size 27 H A1 N c1 from HB.of_all hb2)
  have HX2 := Lib.hid (HX1.out.kept hk2 (fun i hi hf => by have := HX1L.out i hi; unfold One at hf; omega))
  have HB2 := Lib.hid (HB1.out.kept hk2 (fun i hi hf => by have := HYL1.out i hi; unfold One at hf; omega))
  have HZ2 := Lib.hid (HZ1.out.kept hk2 (fun i hi hf => by have := HZL.out i hi; unfold One at hf; omega))
  have HK2 := Lib.hid (HK1.out.fresh hk2 (fun i hi => by cases hi; exact Nat.le_refl _))
  clear hb2 hk2 hz2 HP1 HX1 HB1 HZ1 HK1
  go_wp2_with (first
    | (refine wpList_ld rfl _ _ rfl w.heap.size 0 rfl (hcs H A1 N c1) HP2.out.all _ Tryd.underlying27 rfl (infI _ _ _ _) ?_; simp only [Act.put, List.setIfInBounds_toArray, List.set_cons_succ, List.set_cons_zero])
    | fail)
  refine (CP.out _ HX2.out HB2.out).mono ?_
  rintro e w3 ⟨v9, rfl, hm9⟩
  dsimp only
  obtain ⟨A9, c9, rfl, hy9, -⟩ := byt_own hm9
  rw [HLL.out] at hy9 ⊢
  have HL3 := Lib.hid hy9
  have HP3 := Lib.hid (HP2.out.kept hm9.2 (fun hf => hf))
  have HX3 := Lib.hid (HX2.out.kept hm9.2 (fun _ _ hf => hf))
  have HB3 := Lib.hid (HB2.out.kept hm9.2 (fun _ _ hf => hf))
  have HZ3 := Lib.hid (HZ2.out.kept hm9.2 (fun _ _ hf => hf))
  have HK3 := Lib.hid (HK2.out.then hm9.2)
  clear hy9 hm9 HP2 HX2 HB2 HZ2 HK2 CP
  have d10 := HP3.out.cx
  have hlc := HL3.out.2.1
  obtain ⟨n20, hn20⟩ : ∃ k : Nat, 20 + N = k := ⟨_, rfl⟩
  have hn20I : 20 + (N : Int) = (n20 : Int) := by omega
  have hLLI : (n20 : Int) + (m1 : Int) = (LL : Int) := by omega
  have hsl20 := run_cut_hi (P := Tryd.prog) Tryd.underlying25 inf5.1 A9 LL c9 n20 (n20 : Int) rfl (by omega)
  have hs20 := isum_yes A9 n20 c9 (L.take n20) w3 (HL3.out.pre (by omega)) (by have := HN40.out; omega)
  rw [← hn20, HS3.out, hn20] at hs20
  have HS20 := Lib.hid hs20
  have HN20 := Lib.hid hn20
  have HLL2 := Lib.hid hf2
  rw [HN20.out] at HRC
  have hn20l : n20 ≤ LL := by omega
  have hb60 : n20 ≤ 60 ∧ m1 ≤ 65535 ∧ LL ≤ 65535 := by have := HN40.out; omega
  obtain ⟨hb1, hb2, hb3⟩ := hb60
  clear hs20 HS3 hf2 hn20
  go_wp2_with (fail)
  refine HS20.out.mono ?_
  rintro e w4 ⟨rfl, hk4⟩
  dsimp only
  have HL4 := Lib.hid (HL3.out.kept hk4 (fun _ _ hf => hf))
  have HP4 := Lib.hid (HP3.out.kept hk4 (fun hf => hf))
  have HX4 := Lib.hid (HX3.out.kept hk4 (fun _ _ hf => hf))
  have HB4 := Lib.hid (HB3.out.kept hk4 (fun _ _ hf => hf))
  have HZ4 := Lib.hid (HZ3.out.kept hk4 (fun _ _ hf => hf))
  have HK4 := Lib.hid (HK3.out.then hk4)
  clear hk4 HL3 HP3 HX3 HB3 HZ3 HK3 HS20 d10 hsl20 hlc hn20l hb1 hb2 hb3
  go_upto_region 5 with (fail)
  obtain ⟨i1, hi1, hw0, hw1, hw2⟩ := info_parts Tryd.infb
  have hzl : (z0.take mz).length = mz := by rw [List.length_take, HZ4.out.1]; have := HMZ.out.1; omega
  obtain ⟨zz, hzz⟩ : ∃ z, L ++ z0.take mz = z := ⟨_, rfl⟩
  obtain ⟨ZL, hZL⟩ : ∃ k, LL + mz = k := ⟨_, rfl⟩
  have HZZ := Lib.hid hzz
  have HZLL := Lib.hid hZL
  have HZL5 := Lib.hid (show zz.length = ZL ∧ ZL ≤ 70000 by rw [← hzz, List.length_append, hzl, HLL.out]; have := HN40.out; have := HMZ.out; omega)
  have HGZ := Lib.hid (show readHM zz true = (H, b, 0) by rw [← hzz]; exact HRP.out _)
  have HZ4P := Lib.hid (HZ4.out.pre HMZ.out.1)
  clear hzl hzz hZL
  refine wp_nameA fun A0 hA0 => ?_
  have HS : A0.tmps.size = 146 := by rw [hA0]; rfl
  have a2 : A0.eval (.tmp 2) = .slice C p q := by rw [hA0]; rfl
  have a9 : A0.eval (.tmp 9) = .slice A9 LL c9 := by rw [hA0]; rfl
  have a11 : A0.eval (.tmp 11) = undef := by rw [hA0]; rfl
  have a60 : A0.eval (.tmp 60) = undef := by rw [hA0]; rfl
  have a66 : A0.eval (.tmp 66) = undef := by rw [hA0]; rfl
  have a67 : A0.eval (.tmp 67) = undef := by rw [hA0]; rfl
  have HA0 := Lib.hid hA0
  clear hA0
  refine wp_region_postsX 146 (baI w4 H b A0) (baW H LL ZL (.slice A9 LL c9) (.slice C p q) p mz (.slice C mz q)) (baU w4.heap.size LL ZL L zz) (by kernel_rfl) (by kernel_rfl) (fun a u h => h.size.trans HS)
    ⟨fun a a' w h hr => ⟨(h 59 (of_decide_eq_true (by kernel_rfl))).symm.trans hr.out⟩,
      fun a a' w h ⟨⟨A, c, hr⟩⟩ => ⟨⟨A, c, (h 60 (of_decide_eq_true (by kernel_rfl))).symm.trans hr⟩⟩,
      fun a a' w h hr => ⟨(h 61 (of_decide_eq_true (by kernel_rfl))).symm.trans hr.out⟩,
      fun a a' w h hr => ⟨(h 62 (of_decide_eq_true (by kernel_rfl))).symm.trans hr.out⟩,
      fun a a' w h hr => ⟨(h 63 (of_decide_eq_true (by kernel_rfl))).symm.trans hr.out⟩,
      fun a a' w h hr => ⟨(h 64 (of_decide_eq_true (by kernel_rfl))).symm.trans hr.out⟩,
      fun a a' w h hr => ⟨(h 65 (of_decide_eq_true (by kernel_rfl))).symm.trans hr.out⟩,
      fun a a' w h ⟨⟨A, c, hr⟩⟩ => ⟨⟨A, c, (h 66 (of_decide_eq_true (by kernel_rfl))).symm.trans hr⟩⟩,
      fun a a' w h ⟨⟨A1, n1, c1, A2, n2, c2, hr⟩⟩ => ⟨⟨A1, n1, c1, A2, n2, c2, (h 67 (of_decide_eq_true (by kernel_rfl))).symm.trans hr⟩⟩,
      fun a a' w h ⟨⟨h1, A1, n1, c1, A2, n2, c2, hr⟩⟩ => ⟨⟨(h 58 (of_decide_eq_true (by kernel_rfl))).symm.trans (h1.trans (h 67 (of_decide_eq_true (by kernel_rfl)))), A1, n1, c1, A2, n2, c2, (h 67 (of_decide_eq_true (by kernel_rfl))).symm.trans hr⟩⟩,
      fun a a' w h ⟨⟨A1, n1, c1, A2, n2, c2, hr, h2⟩⟩ => ⟨⟨A1, n1, c1, A2, n2, c2, (h 58 (of_decide_eq_true (by kernel_rfl))).symm.trans hr, (h 68 (of_decide_eq_true (by kernel_rfl))).symm.trans h2⟩⟩,
      fun a a' w h ⟨⟨A1, n1, c1, A2, n2, c2, hr, h2⟩⟩ => ⟨⟨A1, n1, c1, A2, n2, c2, (h 58 (of_decide_eq_true (by kernel_rfl))).symm.trans hr, (h 69 (of_decide_eq_true (by kernel_rfl))).symm.trans h2⟩⟩,
      fun a a' w h hr => ⟨(h 70 (of_decide_eq_true (by kernel_rfl))).symm.trans hr.out⟩,
      fun a a' w h ⟨⟨x, hr⟩⟩ => ⟨⟨x, (h 11 (of_decide_eq_true (by kernel_rfl))).symm.trans hr⟩⟩,
      fun a a' w h ⟨⟨x, y, z, t, h1, h2, h3⟩⟩ => ⟨⟨x, y, z, t, (h 11 (of_decide_eq_true (by kernel_rfl))).symm.trans h1, (h 68 (of_decide_eq_true (by kernel_rfl))).symm.trans h2, h3⟩⟩,
      fun a a' w h hr => ⟨(h 12 (of_decide_eq_true (by kernel_rfl))).symm.trans (hr.out.trans (h 69 (of_decide_eq_true (by kernel_rfl))))⟩,
      fun a a' w h hr => ⟨(h 13 (of_decide_eq_true (by kernel_rfl))).symm.trans hr.out⟩, trivial⟩
    (fun u hu => ⟨⟨rfl, rfl, fun _ _ => rfl, hu, fun g f' e => (by rw [a11] at e; cases e), fun A1 n1 c1 A2 n2 c2 e => (by rw [a67] at e; cases e)⟩, fun j => by
      unfold baU
      split
      · exact ⟨fun A n c e => (by rw [a60] at e; cases e), a67⟩
      · exact fun A n c e => (by rw [a66] at e; cases e)
      · trivial⟩) ?_ ?_
  · refine ⟨?_, ?_, ?_, ?_, ?_, ?_, ?_, ?_, ?_, ?_, ?_, ?_, ?_, ?_, ?_, ?_, ?_, trivial⟩
    · intro a u hI hp hU
      have e9 : a.eval (.tmp 9) = .slice A9 LL c9 := (hI.fr 9 (by decide)).trans a9
      have hsz : 59 < a.tmps.size := by rw [hI.size, HS]; decide
      refine stepX_pure (.slice A9 LL c9) ?_ ?_ ?_ ?_
      · exact exec_mv _ rfl e9
      · exact hI.put 59 _ (by decide) (by decide) (by decide)
      · exact ⟨eval_same a 59 _ hsz⟩
      · exact fun j h => h.put 59 _ (by decide) (by decide) (by decide) (by decide)
    · intro a u hI hp hU
      have h0 : a.eval (.tmp 59) = .slice A9 LL c9 := (hp ⟨0, .data⟩ (by simp) rfl).out
      have hsz : 60 < a.tmps.size := by rw [hI.size, HS]; decide
      have hu7 : a.eval (.tmp 67) = undef := (hU.2 7 _ rfl ⟨⟨1, .data⟩, by simp, rfl, rfl⟩).2
      obtain ⟨v', u', hr, hown, hgr, hnew⟩ := run_app (P := Tryd.prog) (ty := 25) Tryd.underlying25 hi1 hw0 hw1 hw2 rfl (World.ownsRow_nil u w4.heap.size 5 1) (HL4.out.kept hI.kept (fun _ _ hf => hf)) (by have := HN40.out; omega) hI.kept.size
      have hk : Kept Nil u u' := (Kept.refl Nil u).grown hgr (fun k hk => by cases hk)
      rw [Nat.zero_add, List.nil_append] at hown
      obtain ⟨A6, c6, rfl⟩ := own_form hown
      unfold Oper.wp
      rw [exec_app _ _ _ rfl rfl h0 hr]
      refine ⟨_, rfl, (hI.put 60 _ (by decide) (by decide) (by decide)).next hk, ⟨⟨A6, c6, eval_same a 60 _ hsz⟩⟩, fun j _ h => h.next hk, fun j hj _ h => ?_⟩
      unfold baU at h ⊢
      split at h
      · refine ⟨fun A n c e => ?_, by rw [eval_put _ _ _ _ (by decide)]; exact h.2⟩
        rw [eval_same a 60 _ hsz] at e
        cases e
        refine ⟨rfl, hown, fun g f' eg eo => ?_⟩
        rw [eval_put _ _ _ _ (by decide)] at eg
        have hg := (hI.al g f' eg).2.1
        rcases hnew with hn | hn
        · rw [hn] at eo; cases eo
        · rw [hn] at eo; cases eo; exact Nat.lt_irrefl _ hg
      · exact (baO.put h 60 _ (by decide) (by decide)).next hk
      · trivial
    · intro a u hI hp hU
      have e2 : a.eval (.tmp 2) = .slice C p q := (hI.fr 2 (by decide)).trans a2
      have hsz : 61 < a.tmps.size := by rw [hI.size, HS]; decide
      refine stepX_pure (.slice C p q) ?_ ?_ ?_ ?_
      · exact exec_mv _ rfl e2
      · exact hI.put 61 _ (by decide) (by decide) (by decide)
      · exact ⟨eval_same a 61 _ hsz⟩
      · exact fun j h => h.put 61 _ (by decide) (by decide) (by decide) (by decide)
    · intro a u hI hp hU
      have e2 : a.eval (.tmp 2) = .slice C p q := (hI.fr 2 (by decide)).trans a2
      have hsz : 62 < a.tmps.size := by rw [hI.size, HS]; decide
      refine stepX_pure (.slice C p q) ?_ ?_ ?_ ?_
      · exact exec_mv _ rfl e2
      · exact hI.put 62 _ (by decide) (by decide) (by decide)
      · exact ⟨eval_same a 62 _ hsz⟩
      · exact fun j h => h.put 62 _ (by decide) (by decide) (by decide) (by decide)
    · intro a u hI hp hU
      have h3 : a.eval (.tmp 62) = .slice C p q := (hp ⟨3, .data⟩ (by simp) rfl).out
      have hsz : 63 < a.tmps.size := by rw [hI.size, HS]; decide
      refine stepX_pure (.int .i64 (p : Int)) ?_ ?_ ?_ ?_
      · exact exec_len _ _ rfl h3 (ln_c _ _ _ _ _)
      · exact hI.put 63 _ (by decide) (by decide) (by decide)
      · exact ⟨eval_same a 63 _ hsz⟩
      · exact fun j h => h.put 63 _ (by decide) (by decide) (by decide) (by decide)
    · intro a u hI hp hU
      have h4 : a.eval (.tmp 63) = .int .i64 (p : Int) := (hp ⟨4, .data⟩ (by simp) rfl).out
      have hsz : 64 < a.tmps.size := by rw [hI.size, HS]; decide
      refine stepX_pure (.int .i64 (mz : Int)) ?_ ?_ ?_ ?_
      · exact exec_min _ _ _ _ rfl h4 rfl (mn_c _ _ _ _ _ HMZI.out)
      · exact hI.put 64 _ (by decide) (by decide) (by decide)
      · exact ⟨eval_same a 64 _ hsz⟩
      · exact fun j h => h.put 64 _ (by decide) (by decide) (by decide) (by decide)
    · intro a u hI hp hU
      have h2 : a.eval (.tmp 61) = .slice C p q := (hp ⟨2, .data⟩ (by simp) rfl).out
      have h5 : a.eval (.tmp 64) = .int .i64 (mz : Int) := (hp ⟨5, .data⟩ (by simp) rfl).out
      have hsz : 65 < a.tmps.size := by rw [hI.size, HS]; decide
      refine stepX_pure (.slice C mz q) ?_ ?_ ?_ ?_
      · exact exec_cut _ _ _ rfl Tryd.underlying25 h2 h5 (HSLZ.out u)
      · exact hI.put 65 _ (by decide) (by decide) (by decide)
      · exact ⟨eval_same a 65 _ hsz⟩
      · exact fun j h => h.put 65 _ (by decide) (by decide) (by decide) (by decide)
    · intro a u hI hp hU
      obtain ⟨A6, c6, h1⟩ : ∃ A c, a.eval (.tmp 60) = .slice A LL c := (hp ⟨1, .data⟩ (by simp) rfl).out
      have h6 : a.eval (.tmp 65) = .slice C mz q := (hp ⟨6, .data⟩ (by simp) rfl).out
      have hsz : 66 < a.tmps.size := by rw [hI.size, HS]; decide
      obtain ⟨hb0, hb7⟩ := hU.1
      obtain ⟨-, hown6, hfar⟩ := hb0 A6 LL c6 h1
      obtain ⟨v', u', hr, hown, hgr, hnew⟩ := run_app (P := Tryd.prog) (ty := 25) Tryd.underlying25 hi1 hw0 hw1 hw2 rfl hown6 (HZ4P.out.kept hI.kept (fun _ _ hf => hf)) (by have := HN40.out; have := HMZ.out; omega) hI.kept.size
      have hk : Kept (fun k => (Value.slice A6 LL c6).ownBlock = some k) u u' := (Kept.refl _ u).grown hgr (fun k hk _ => hk)
      have hF : ∀ g, (Value.slice A6 LL c6).ownBlock = some g → w4.heap.size ≤ g := fun g hg => (hown6.lt g hg).1
      have hs : ∀ g f', a.eval (.tmp 11) = .pointer (some ⟨g, f', none⟩) → ¬ (Value.slice A6 LL c6).ownBlock = some g := fun g f' e => hfar g f' e
      rw [← bys_app, HZZ.out, HZLL.out] at hown
      obtain ⟨A7, c7, rfl⟩ := own_form hown
      unfold Oper.wp
      rw [exec_app _ _ _ rfl h1 h6 hr]
      refine ⟨_, rfl, hI.app hk hF hs hb7 _, ⟨⟨A7, c7, eval_same a 66 _ hsz⟩⟩, fun j _ h => h.own hk hs, fun j hj hno h => ?_⟩
      unfold baU at h ⊢
      split at h
      · exact absurd rfl hj
      · intro A n c e
        rw [eval_same a 66 _ hsz] at e
        cases e
        refine ⟨rfl, hown, fun g f' eg eo => ?_⟩
        rw [eval_put _ _ _ _ (by decide)] at eg
        have hg := (hI.al g f' eg).2.1
        rcases hnew with hn | hn
        · rw [hn] at eo; exact hs g f' eg eo
        · rw [hn] at eo; cases eo; exact Nat.lt_irrefl _ hg
      · trivial
    · intro a u hI hp hU
      obtain ⟨A7, c7, h7⟩ : ∃ A c, a.eval (.tmp 66) = .slice A ZL c := (hp ⟨7, .data⟩ (by simp) rfl).out
      have hsz : 67 < a.tmps.size := by rw [hI.size, HS]; decide
      obtain ⟨-, hown7, -⟩ := hU.1 A7 ZL c7 h7
      obtain ⟨A7', c7', e7, hy7, -⟩ := Byt.of_own hown7
      cases e7
      refine stepX_call 17 #[.slice A7 ZL c7] ?_ ?_
      · simp [execOp, go_sem]
        exact ev_simp h7
      refine (iget_yes A7 ZL c7 zz u hy7 (by have := HZL5.out.2; omega)).mono ?_
      rw [HGZ.out]
      rintro e w' ⟨B1, n1, d1, B2, n2, d2, rfl, hn1, hn2, hk⟩
      refine ⟨_, rfl, hI.got hk hsz B1 n1 d1 B2 n2 d2 hn1 hn2, ⟨⟨B1, n1, d1, B2, n2, d2, eval_same a 67 _ hsz⟩⟩, fun j _ h => h.next hk, fun j hj hno h => ?_⟩
      unfold baU at h ⊢
      split at h
      · exact absurd rfl (hno ⟨7, .data⟩ (by simp) rfl)
      · exact absurd rfl hj
      · trivial
    · intro a u hI hp hU
      obtain ⟨A1', n1', c1', A2', n2', c2', e1⟩ : ∃ A1 n1 c1 A2 n2 c2, a.eval (.tmp 67) = tupH H A1 n1 c1 A2 n2 c2 := (hp ⟨8, .data⟩ (by simp) rfl).out
      have hsz : 58 < a.tmps.size := by rw [hI.size, HS]; decide
      have e2 : (a.put (some 58) (a.eval (.tmp 67))).eval (.tmp 67) = a.eval (.tmp 67) := eval_put _ _ _ _ (by decide)
      refine stepX_pure (a.eval (.tmp 67)) ?_ ?_ ?_ ?_
      · exact exec_mv _ rfl rfl
      · exact hI.put 58 _ (by decide) (by decide) (by decide)
      · exact ⟨⟨(eval_same a 58 _ hsz).trans e2.symm, A1', n1', c1', A2', n2', c2', e2.trans e1⟩⟩
      · exact fun j h => h.put 58 _ (by decide) (by decide) (by decide) (by decide)
    · intro a u hI hp hU
      obtain ⟨e0, A1', n1', c1', A2', n2', c2', e1⟩ : a.eval (.tmp 58) = a.eval (.tmp 67) ∧ ∃ A1 n1 c1 A2 n2 c2, a.eval (.tmp 67) = tupH H A1 n1 c1 A2 n2 c2 := (hp ⟨9, .data⟩ (by simp) rfl).out
      have hsz : 68 < a.tmps.size := by rw [hI.size, HS]; decide
      refine stepX_pure (.agg (hcs H A1' n1' c1').toArray) ?_ ?_ ?_ ?_
      · exact exec_ex _ _ rfl (e0.trans e1) (tx_0 _ _ _ _ _ _ _ _)
      · exact hI.put 68 _ (by decide) (by decide) (by decide)
      · exact ⟨⟨A1', n1', c1', A2', n2', c2', (eval_put _ _ _ _ (by decide)).trans (e0.trans e1), eval_same a 68 _ hsz⟩⟩
      · exact fun j h => h.put 68 _ (by decide) (by decide) (by decide) (by decide)
    · intro a u hI hp hU
      obtain ⟨e0, A1', n1', c1', A2', n2', c2', e1⟩ : a.eval (.tmp 58) = a.eval (.tmp 67) ∧ ∃ A1 n1 c1 A2 n2 c2, a.eval (.tmp 67) = tupH H A1 n1 c1 A2 n2 c2 := (hp ⟨9, .data⟩ (by simp) rfl).out
      have hsz : 69 < a.tmps.size := by rw [hI.size, HS]; decide
      refine stepX_pure (.slice A2' n2' c2') ?_ ?_ ?_ ?_
      · exact exec_ex _ _ rfl (e0.trans e1) (tx_1 _ _ _ _ _ _ _ _)
      · exact hI.put 69 _ (by decide) (by decide) (by decide)
      · exact ⟨⟨A1', n1', c1', A2', n2', c2', (eval_put _ _ _ _ (by decide)).trans (e0.trans e1), eval_same a 69 _ hsz⟩⟩
      · exact fun j h => h.put 69 _ (by decide) (by decide) (by decide) (by decide)
    · intro a u hI hp hU
      obtain ⟨e0, A1', n1', c1', A2', n2', c2', e1⟩ : a.eval (.tmp 58) = a.eval (.tmp 67) ∧ ∃ A1 n1 c1 A2 n2 c2, a.eval (.tmp 67) = tupH H A1 n1 c1 A2 n2 c2 := (hp ⟨9, .data⟩ (by simp) rfl).out
      have hsz : 70 < a.tmps.size := by rw [hI.size, HS]; decide
      refine stepX_pure (.int .i64 0) ?_ ?_ ?_ ?_
      · exact exec_ex _ _ rfl (e0.trans e1) (tx_2 _ _ _ _ _ _ _ _)
      · exact hI.put 70 _ (by decide) (by decide) (by decide)
      · exact ⟨eval_same a 70 _ hsz⟩
      · exact fun j h => h.put 70 _ (by decide) (by decide) (by decide) (by decide)
    · intro a u hI hp hU
      have hsz : 11 < a.tmps.size := by rw [hI.size, HS]; decide
      have hk := (Kept.refl Nil u).alloc (.cells (hcs Hd.zero none 0 0).toArray 27)
      unfold Oper.wp
      rw [show (execOp a.eval _).run Tryd.prog u = .ok (.value (pAt u.heap.size 0)) (u.alloc (.cells (hcs Hd.zero none 0 0).toArray 27)) by kernel_rfl]
      refine ⟨_, rfl, hI.alloc11 hsz, ⟨⟨_, eval_same a 11 _ hsz⟩⟩, fun j _ h => h.next hk, fun j hj _ h => ?_⟩
      unfold baU at h ⊢
      split at h
      · exact ⟨h.1.alloc hsz (by decide), by rw [eval_put _ _ _ _ (by decide)]; exact h.2⟩
      · exact baO.alloc h hsz (by decide)
      · trivial
    · intro a u hI hp hU
      obtain ⟨g, e11⟩ : ∃ g, a.eval (.tmp 11) = pAt g 0 := (hp ⟨13, .data⟩ (by simp) rfl).out
      obtain ⟨A1', n1', c1', A2', n2', c2', e58, e68⟩ : ∃ A1 n1 c1 A2 n2 c2, a.eval (.tmp 58) = tupH H A1 n1 c1 A2 n2 c2 ∧ a.eval (.tmp 68) = .agg (hcs H A1 n1 c1).toArray := (hp ⟨10, .data⟩ (by simp) rfl).out
      obtain ⟨-, -, F, x, y, z, hfb⟩ := hI.al g 0 e11
      refine stepX_st 27 (.tmp 11) (.tmp 68) rfl rfl e11 (hcs H A1' n1' c1') e68 rfl (infI _ _ _ _) hfb (by rw [hcs_len, hcs_len]; omega) (hcs_one _ _ _ _) fun u' hbl hk hz => ?_
      have hfb' : HB u' g 27 H A1' n1' c1' := HB.of_all hbl
      refine ⟨hI.store14 hk hz e11 hfb', ⟨⟨g, A1', n1', c1', e11, e68, hfb'⟩⟩, fun j hj h => h.st hj, fun j hj hno h => ?_⟩
      unfold baU at h ⊢
      split at h
      · exact absurd rfl (hno ⟨7, .phase⟩ (by simp) rfl)
      · exact absurd rfl (hno ⟨8, .phase⟩ (by simp) rfl)
      · trivial
    · intro a u hI hp hU
      have hsz : 12 < a.tmps.size := by rw [hI.size, HS]; decide
      have e2 : (a.put (some 12) (a.eval (.tmp 69))).eval (.tmp 69) = a.eval (.tmp 69) := eval_put _ _ _ _ (by decide)
      refine stepX_pure (a.eval (.tmp 69)) ?_ ?_ ?_ ?_
      · exact exec_as _ rfl rfl
      · exact hI.put 12 _ (by decide) (by decide) (by decide)
      · exact ⟨(eval_same a 12 _ hsz).trans e2.symm⟩
      · exact fun j h => h.put 12 _ (by decide) (by decide) (by decide) (by decide)
    · intro a u hI hp hU
      have h12 : a.eval (.tmp 70) = .int .i64 0 := (hp ⟨12, .data⟩ (by simp) rfl).out
      have hsz : 13 < a.tmps.size := by rw [hI.size, HS]; decide
      refine stepX_pure (.int .i64 0) ?_ ?_ ?_ ?_
      · exact exec_as _ rfl h12
      · exact hI.put 13 _ (by decide) (by decide) (by decide)
      · exact ⟨eval_same a 13 _ hsz⟩
      · exact fun j h => h.put 13 _ (by decide) (by decide) (by decide) (by decide)
  · intro a u hI hR
    obtain ⟨A6, c6, t60⟩ : ∃ A c, a.eval (.tmp 60) = .slice A LL c := (hR 1 _ rfl).out
    obtain ⟨A7, c7, t66⟩ : ∃ A c, a.eval (.tmp 66) = .slice A ZL c := (hR 7 _ rfl).out
    obtain ⟨B1, n1, e1, B2, n2, e2, t67⟩ : ∃ A1 n1 c1 A2 n2 c2, a.eval (.tmp 67) = tupH H A1 n1 c1 A2 n2 c2 := (hR 8 _ rfl).out
    have t58 : a.eval (.tmp 58) = tupH H B1 n1 e1 B2 n2 e2 := by
      have h : a.eval (.tmp 58) = a.eval (.tmp 67) ∧ ∃ A1 n1 c1 A2 n2 c2, a.eval (.tmp 67) = tupH H A1 n1 c1 A2 n2 c2 := (hR 9 _ rfl).out
      exact h.1.trans t67
    have t68 : a.eval (.tmp 68) = .agg (hcs H B1 n1 e1).toArray := by
      obtain ⟨x1, x2, x3, x4, x5, x6, h1, h2⟩ : ∃ A1 n1 c1 A2 n2 c2, a.eval (.tmp 58) = tupH H A1 n1 c1 A2 n2 c2 ∧ a.eval (.tmp 68) = .agg (hcs H A1 n1 c1).toArray := (hR 10 _ rfl).out
      obtain ⟨⟨rfl, rfl, rfl⟩, rfl, rfl, rfl⟩ := tup_inj (t58.symm.trans h1)
      exact h2
    have t69 : a.eval (.tmp 69) = .slice B2 n2 e2 := by
      obtain ⟨x1, x2, x3, x4, x5, x6, h1, h2⟩ : ∃ A1 n1 c1 A2 n2 c2, a.eval (.tmp 58) = tupH H A1 n1 c1 A2 n2 c2 ∧ a.eval (.tmp 69) = .slice A2 n2 c2 := (hR 11 _ rfl).out
      obtain ⟨⟨rfl, rfl, rfl⟩, rfl, rfl, rfl⟩ := tup_inj (t58.symm.trans h1)
      exact h2
    obtain ⟨g, t11, hfb⟩ : ∃ g, a.eval (.tmp 11) = pAt g 0 ∧ HB u g 27 H B1 n1 e1 := by
      obtain ⟨g, x1, x2, x3, h1, h2, h3⟩ : ∃ g A1 n1 c1, a.eval (.tmp 11) = pAt g 0 ∧ a.eval (.tmp 68) = .agg (hcs H A1 n1 c1).toArray ∧ HB u g 27 H A1 n1 c1 := (hR 14 _ rfl).out
      obtain ⟨rfl, rfl, rfl⟩ := hcs_inj (t68.symm.trans h2)
      exact ⟨g, h1, h3⟩
    have t59 : a.eval (.tmp 59) = .slice A9 LL c9 := (hR 0 _ rfl).out
    have t61 : a.eval (.tmp 61) = .slice C p q := (hR 2 _ rfl).out
    have t62 : a.eval (.tmp 62) = .slice C p q := (hR 3 _ rfl).out
    have t63 : a.eval (.tmp 63) = .int .i64 (p : Int) := (hR 4 _ rfl).out
    have t64 : a.eval (.tmp 64) = .int .i64 (mz : Int) := (hR 5 _ rfl).out
    have t65 : a.eval (.tmp 65) = .slice C mz q := (hR 6 _ rfl).out
    have t70 : a.eval (.tmp 70) = .int .i64 0 := (hR 12 _ rfl).out
    have t12 : a.eval (.tmp 12) = .slice B2 n2 e2 := by
      have h : a.eval (.tmp 12) = a.eval (.tmp 69) := (hR 15 _ rfl).out
      exact h.trans t69
    have t13 : a.eval (.tmp 13) = .int .i64 0 := (hR 16 _ rfl).out
    obtain ⟨hg1, hg2, -⟩ := hI.al g 0 t11
    obtain ⟨hx5, hb5, -⟩ := hI.g67 B1 n1 e1 B2 n2 e2 t67
    have ha := act_eq a A0 [(59, .slice A9 LL c9), (60, .slice A6 LL c6), (61, .slice C p q), (62, .slice C p q), (63, .int .i64 (p : Int)), (64, .int .i64 (mz : Int)), (65, .slice C mz q), (66, .slice A7 ZL c7), (67, tupH H B1 n1 e1 B2 n2 e2), (58, tupH H B1 n1 e1 B2 n2 e2), (68, .agg (hcs H B1 n1 e1).toArray), (69, .slice B2 n2 e2), (70, .int .i64 0), (11, pAt g 0), (12, .slice B2 n2 e2), (13, .int .i64 0)] hI.size hI.defs (show ([59, 60, 61, 62, 63, 64, 65, 66, 67, 58, 68, 69, 70, 11, 12, 13] : List Nat).Nodup by decide) (fun p hp => by
      rw [HS]
      have h1 : p.1 ∈ [59, 60, 61, 62, 63, 64, 65, 66, 67, 58, 68, 69, 70, 11, 12, 13] := List.mem_map_of_mem (f := Prod.fst) hp
      simp at h1
      omega) (fun p hp => by
      simp only [List.mem_cons, List.not_mem_nil, or_false] at hp
      rcases hp with rfl | rfl | rfl | rfl | rfl | rfl | rfl | rfl | rfl | rfl | rfl | rfl | rfl | rfl | rfl | rfl
      · exact t59
      · exact t60
      · exact t61
      · exact t62
      · exact t63
      · exact t64
      · exact t65
      · exact t66
      · exact t67
      · exact t58
      · exact t68
      · exact t69
      · exact t70
      · exact t11
      · exact t12
      · exact t13
      ) (fun d hd => hI.fr d hd)
    have HP5 := Lib.hid (HP4.out.kept hI.kept (fun hf => hf))
    have HX5 := Lib.hid (HX4.out.kept hI.kept (fun _ _ hf => hf))
    have HB5 := Lib.hid (HB4.out.kept hI.kept (fun _ _ hf => hf))
    have HL5 := Lib.hid (HL4.out.kept hI.kept (fun _ _ hf => hf))
    have HK5 := Lib.hid (HK4.out.then hI.kept)
    have HG5 := Lib.hid hfb
    have HY5 := Lib.hid hx5
    have HZ5 := Lib.hid hb5
    clear hI hR hfb hx5 hb5 t60 t66 t67 t58 t68 t69 t11 t59 t61 t62 t63 t64 t65 t70 t12 t13 hg1 hg2 HP4 HX4 HB4 HL4 HK4 HZ4P HZ4 HGZ HZL5 HZLL HZZ HSLZ HMZI HMZ HZL HYL HN20
    subst ha
    have hA := HA0.out
    clear HA0 a2 a9 a11 a60 a66 a67 HS
    subst hA
    unfold pAt tupH
    simp only [List.foldl_cons, List.foldl_nil, Act.put, List.setIfInBounds_toArray, List.set_cons_succ, List.set_cons_zero]
    go_wp2_with (fail)
    have hof1 : ∀ u, Calls Tryd.prog 11 #[.agg (hcs H B1 n1 e1).toArray] u fun e w' => e = .returned (.agg (hcs H B1 n1 e1).toArray) ∧ Kept Nil u w' := fun u => of_yes H B1 n1 e1 u
    have hof2 : ∀ u, Calls Tryd.prog 11 #[.agg (hcs H A1 N c1).toArray] u fun e w' => e = .returned (.agg (hcs H A1 N c1).toArray) ∧ Kept Nil u w' := fun u => of_yes H A1 N c1 u
    have hsm := fun d os => same_yes H B1 n1 e1 A1 N c1 (grow (redrawn u d) os) (HY5.out.kept (kept_grown' u d os) (fun _ _ hf => hf)) (HX5.out.kept (kept_grown' u d os) (fun _ _ hf => hf))
    have tx1 := fun dr os => (HZ5.out.kept (kept_grown' u dr os) (fun _ _ hf => hf)).text (P := Tryd.prog) Tryd.underlying25 Tryd.underlying5 Tryd.underlying9
    have tx2 := fun dr os => (HB5.out.kept (kept_grown' u dr os) (fun _ _ hf => hf)).text (P := Tryd.prog) Tryd.underlying25 Tryd.underlying5 Tryd.underlying9
    refine wp_region_quiet_below (by kernel_rfl) (by kernel_rfl) ?_
    repeat (first
      | (refine wpQuiet_ld rfl _ _ rfl g 0 rfl (hcs H B1 n1 e1) (fun w1 hw => row_grown HG5.out.all hw) _ Tryd.underlying27 rfl (infI _ _ _ _) ?_; simp only [Act.put, List.setIfInBounds_toArray, List.set_cons_succ, List.set_cons_zero])
      | (refine wpQuiet_ld rfl _ _ rfl w.heap.size 0 rfl (hcs H A1 N c1) (fun w1 hw => row_grown HP5.out.all hw) _ Tryd.underlying27 rfl (infI _ _ _ _) ?_; simp only [Act.put, List.setIfInBounds_toArray, List.set_cons_succ, List.set_cons_zero])
      | (go_big_quiet_step (first | with_reducible exact quietK (hof1 _) | with_reducible exact quietK (hof2 _) | with_reducible exact quietK (hsm _ _))))
    refine wpQuiet_nil ?_
    rintro w6 ⟨nq, hw⟩
    have hk6 : Kept Nil u w6 := by rw [hw]; exact kept_grown _ _
    have HP6 := Lib.hid (HP5.out.kept hk6 (fun hf => hf))
    have HX6 := Lib.hid (HX5.out.kept hk6 (fun _ _ hf => hf))
    have HB6 := Lib.hid (HB5.out.kept hk6 (fun _ _ hf => hf))
    have HL6 := Lib.hid (HL5.out.kept hk6 (fun _ _ hf => hf))
    have HK6 := Lib.hid (HK5.out.then hk6)
    clear hw hk6 hof1 hof2 hsm tx1 tx2 HP5 HX5 HB5 HL5 HK5 HG5 HY5 HZ5
    have hl20 : 0 < LL ∧ LL ≤ 65535 := by have := HN40.out; have := HLL2.out; omega
    obtain ⟨k, hkk⟩ : ∃ k : Nat, cut % LL = k := ⟨_, rfl⟩
    have hkl : k < LL := by rw [← hkk]; exact Nat.mod_lt _ hl20.1
    have hkI : (cut : Int) % (LL : Int) = (k : Int) := by omega
    obtain ⟨hl1, hl2⟩ := hl20
    clear hkk
    have hslk := run_cut_hi (P := Tryd.prog) Tryd.underlying25 inf5.1 A9 LL c9 k (k : Int) rfl (by have := HL6.out.2.1; omega)
    obtain ⟨hr1, hr2, hr3⟩ := HRC.out k hkl
    have CG := iget_yes A9 k c9 (L.take k) w6 (HL6.out.pre (by omega)) (by omega)
    have CC := Lib.hid (fun u hb => icut_yes A9 k c9 (L.take k) u hb (by omega))
    have HL6K := Lib.hid (HL6.out.pre (Nat.le_of_lt hkl))
    generalize readHM (L.take k) true = R at *
    generalize readHM (L.take k) false = R' at *
    obtain ⟨F, X, E⟩ := R
    obtain ⟨F', X', E'⟩ := R'
    simp only at hr1 hr2 hr3 CG CC
    subst hr1
    have CG := Lib.hid CG
    have HR2 := Lib.hid hr2
    have HR3 := Lib.hid hr3
    clear hr2 hr3 HRC HL6
    go_wp2_with (fail)
    refine CG.out.mono ?_
    rintro e w7 ⟨C1, p1, q1, C2, p2, q2, rfl, -, -, hk7⟩
    dsimp only
    have HP7 := Lib.hid (HP6.out.kept hk7 (fun hf => hf))
    have HX7 := Lib.hid (HX6.out.kept hk7 (fun _ _ hf => hf))
    have HB7 := Lib.hid (HB6.out.kept hk7 (fun _ _ hf => hf))
    have HL7 := Lib.hid (HL6K.out.kept hk7 (fun _ _ hf => hf))
    have HK7 := Lib.hid (HK6.out.then hk7)
    have HZ7 := Lib.hid (HB.new w7 27 Hd.zero none 0 0)
    clear hk7 HP6 HX6 HB6 HL6K HK6 CG
    go_upto_region 9 with (first
      | (refine wpList_st rfl _ (.tmp 15) _ rfl w7.heap.size 0 rfl (hcs F C1 p1 q1) _ rfl rfl (infI _ _ _ _) 27 _ HZ7.out (by rw [hcs_len, hcs_len]; omega) (hcs_one _ _ _ _) ?_; intro w8 hb8 hk8 hz8; simp only [Act.put])
      | fail)
    have hk78 := ((Kept.refl Nil w7).alloc (.cells (hcs Hd.zero none 0 0).toArray 27)).fresh hk8 (fun i hi => by cases hi; exact Nat.le_refl _)
    have HP8 := Lib.hid (HP7.out.kept hk78 (fun hf => hf))
    have HX8 := Lib.hid (HX7.out.kept hk78 (fun _ _ hf => hf))
    have HB8 := Lib.hid (HB7.out.kept hk78 (fun _ _ hf => hf))
    have HL8 := Lib.hid (HL7.out.kept hk78 (fun _ _ hf => hf))
    have HK8 := Lib.hid (HK7.out.then hk78)
    clear hb8 hk8 hz8 hk78 HP7 HX7 HB7 HL7 HK7 HZ7
    go_wp2_with (fail)
    refine (CC.out w8 HL8.out).mono ?_
    rintro e w9 ⟨D1, s1, f1, D2, s2, f2, rfl, hn1, hn2, hk9⟩
    dsimp only
    have HP9 := Lib.hid (HP8.out.kept hk9 (fun hf => hf))
    have HX9 := Lib.hid (HX8.out.kept hk9 (fun _ _ hf => hf))
    have HB9 := Lib.hid (HB8.out.kept hk9 (fun _ _ hf => hf))
    have HK9 := Lib.hid (HK8.out.then hk9)
    have HN1 := Lib.hid hn1.1
    have HN2 := Lib.hid hn2.1
    have HZ9 := Lib.hid (HB.new w9 27 Hd.zero none 0 0)
    clear hk9 HP8 HX8 HB8 HL8 HK8 CC hn1 hn2 hslk
    have hlm : n20 + m1 = LL := by have := HLL2.out; omega
    have hn60 : n20 ≤ 60 := by have := HN40.out; omega
    by_cases hkn : n20 ≤ k
    · have h2 := HR2.out hkn
      simp only [Prod.mk.injEq] at h2
      obtain ⟨f1', f2', f3'⟩ := h2
      subst F'
      subst E'
      obtain ⟨kn, hkn1⟩ : ∃ x, k - n20 = x := ⟨_, rfl⟩
      rw [hkn1] at f2'
      subst X'
      have hknI : (k : Int) - (n20 : Int) = (kn : Int) := by omega
      have hknm : kn ≤ m1 := by omega
      have hkn2 : (n20 : Int) ≤ (k : Int) := by omega
      have hslb := run_cut_hi (P := Tryd.prog) Tryd.underlying25 inf5.1 B m1 d kn (kn : Int) rfl (by have := HB9.out.2.1; omega)
      clear hkn1 HR2 HR3 hlm
      go_upto_region 15 with (first
        | (refine wpList_st rfl _ (.tmp 18) _ rfl w9.heap.size 0 rfl (hcs H D1 s1 f1) _ rfl rfl (infI _ _ _ _) 27 _ HZ9.out (by rw [hcs_len, hcs_len]; omega) (hcs_one _ _ _ _) ?_; intro w10 hb10 hk10 hz10; have hk910 := ((Kept.refl Nil w9).alloc (.cells (hcs Hd.zero none 0 0).toArray 27)).fresh hk10 (fun i hi => by cases hi; exact Nat.le_refl _); have d10 := (HP9.out.kept hk910 (fun hf => hf)).cx; simp only [Act.put])
        | fail)
      have HJ := Lib.hid (show HB w10 w9.heap.size 27 H D1 s1 f1 from HB.of_all hb10)
      have HPx := Lib.hid (HP9.out.kept hk910 (fun hf => hf))
      have HXx := Lib.hid (HX9.out.kept hk910 (fun _ _ hf => hf))
      have HBx := Lib.hid ((HB9.out.pre hknm).kept hk910 (fun _ _ hf => hf))
      have HN1x := Lib.hid (HN1.out.kept hk910 (fun _ _ hf => hf))
      have HN2x := Lib.hid (HN2.out.kept hk910 (fun _ _ hf => hf))
      have HKx := Lib.hid (HK9.out.then hk910)
      obtain ⟨g18, hg18⟩ : ∃ g, w9.heap.size = g := ⟨_, rfl⟩
      rw [hg18] at HJ ⊢
      clear hb10 hk10 hz10 hk910 d10 HP9 HX9 HB9 HN1 HN2 HK9 HZ9 hg18
      have hof1 : ∀ u, Calls Tryd.prog 11 #[.agg (hcs H D1 s1 f1).toArray] u fun e w' => e = .returned (.agg (hcs H D1 s1 f1).toArray) ∧ Kept Nil u w' := fun u => of_yes H D1 s1 f1 u
      have hof2 : ∀ u, Calls Tryd.prog 11 #[.agg (hcs H A1 N c1).toArray] u fun e w' => e = .returned (.agg (hcs H A1 N c1).toArray) ∧ Kept Nil u w' := fun u => of_yes H A1 N c1 u
      have hsm := fun d os => same_yes H D1 s1 f1 A1 N c1 (grow (redrawn w10 d) os) (HN1x.out.kept (kept_grown' w10 d os) (fun _ _ hf => hf)) (HXx.out.kept (kept_grown' w10 d os) (fun _ _ hf => hf))
      have tx1 := fun dr os => (HN2x.out.kept (kept_grown' w10 dr os) (fun _ _ hf => hf)).text (P := Tryd.prog) Tryd.underlying25 Tryd.underlying5 Tryd.underlying9
      have tx2 := fun dr os => (HBx.out.kept (kept_grown' w10 dr os) (fun _ _ hf => hf)).text (P := Tryd.prog) Tryd.underlying25 Tryd.underlying5 Tryd.underlying9
      refine wp_region_quiet_below (by kernel_rfl) (by kernel_rfl) ?_
      repeat (first
        | (refine wpQuiet_ld rfl _ _ rfl g18 0 rfl (hcs H D1 s1 f1) (fun w1 hw => row_grown HJ.out.all hw) _ Tryd.underlying27 rfl (infI _ _ _ _) ?_; simp only [Act.put, List.setIfInBounds_toArray, List.set_cons_succ, List.set_cons_zero])
        | (refine wpQuiet_ld rfl _ _ rfl w.heap.size 0 rfl (hcs H A1 N c1) (fun w1 hw => row_grown HPx.out.all hw) _ Tryd.underlying27 rfl (infI _ _ _ _) ?_; simp only [Act.put, List.setIfInBounds_toArray, List.set_cons_succ, List.set_cons_zero])
        | (go_big_quiet_step (first | with_reducible exact quietK (hof1 _) | with_reducible exact quietK (hof2 _) | with_reducible exact quietK (hsm _ _) | with_reducible exact quietK (tells_yes _ (HGG.out.kept (HKx.out.then (kept_grown' _ _ _)))))))
      refine wpQuiet_nil ?_
      rintro wz ⟨nq, hw⟩
      have HKz := Lib.hid (HKx.out.then (show Kept Nil w10 wz by rw [hw]; exact kept_grown _ _))
      clear hw
      go_wp2
      go_ret
      exact ⟨rfl, HKz.out.below (Nat.le_refl _) (fun _ hf => hf.elim)⟩
    · have f3' : E' = 4 := HR3.out (by omega)
      subst E'
      have hkn2 : (k : Int) < (n20 : Int) := by omega
      have hkn3 : ¬ ((n20 : Int) ≤ (k : Int)) := by omega
      clear HR2 HR3 hlm
      go_wp2_with (first
        | (refine wpList_st rfl _ (.tmp 18) _ rfl w9.heap.size 0 rfl (hcs F' D1 s1 f1) _ rfl rfl (infI _ _ _ _) 27 _ HZ9.out (by rw [hcs_len, hcs_len]; omega) (hcs_one _ _ _ _) ?_; intro w10 hb10 hk10 hz10; have hk910 := ((Kept.refl Nil w9).alloc (.cells (hcs Hd.zero none 0 0).toArray 27)).fresh hk10 (fun i hi => by cases hi; exact Nat.le_refl _); have d10 := (HP9.out.kept hk910 (fun hf => hf)).cx; simp only [Act.put])
        | fail)
      refine (tells_yes _ (HGG.out.kept (HK9.out.then hk910))).mono ?_
      rintro e w11 ⟨rfl, hk11⟩
      dsimp only
      have HKz := Lib.hid ((HK9.out.then hk910).then hk11)
      clear hk11
      go_wp2
      go_ret
      exact ⟨rfl, HKz.out.below (Nat.le_refl _) (fun _ hf => hf.elim)⟩

theorem back_go (x : HdA) (B : Option Addr) (m d : Nat) (body : List UInt8) (C : Option Addr) (p q : Nat) (z0 : List UInt8) (cut : Int) (w : World) (hx : x.In w) (hy : Byt w B m d body) (hz : Byt w C p q z0) (hcut : (Lit.int .u16 cut).wf) (hG : Gl w) :
    Calls Tryd.prog 6 #[hdv x.h x.A x.n x.c, .slice B m d, .slice C p q, .int .u16 cut] w fun e w' => e = .returned (.bool true) ∧ Below w.heap.size w w' := by
  obtain ⟨k, rfl, hk⟩ : ∃ k : Nat, cut = (k : Int) ∧ k < 65536 := by
    simp [Lit.wf, IntKind.min, IntKind.max, IntKind.signed, IntKind.bits] at hcut
    exact ⟨cut.toNat, by omega, by omega⟩
  exact back_yes x.h hx.ok x.A x.n x.c B m d body C p q z0 k hk w hx.x hy hz hG
end Go.Proofs.YtflhbidmjlfjkaaDoor
