/- Texts that belong together, one behind the other: RtB, RtC. Conditions: those of each. -/
import Derived.Test.YthjbabkmjmfmjaaDoorMg26
/- tollref07: contract of GetTcp. -/
namespace Go.Proofs.YthjbabkmjmfmjaaDoor
open Go.RowKit Go.Sort
set_option linter.unusedVariables false

theorem infSl' : (Tryd.prog.info? 22).map (·.size) = some 1 := by kernel_rfl
theorem buildQ (f t o g ww c u s a : Int) (w : World) : (Instr.build 34 #[(0, .int .i64 f), (1, .int .i64 t), (7, .int .u32 s), (8, .int .u32 a), (2, .int .i64 o), (3, .int .i64 g), (4, .int .i64 ww), (5, .int .i64 c), (6, .int .i64 u)]).run Tryd.prog w = .ok (.agg #[.int .i64 f, .int .i64 t, .int .i64 o, .int .i64 g, .int .i64 ww, .int .i64 c, .int .i64 u, .int .u32 s, .int .u32 a, .slice none 0 0, .slice none 0 0]) w := by kernel_rfl
/-- What the reference's reader of TCP answers. -/
def QGot (w : World) (e : Ending) (w' : World) (r : Tc × Int) : Prop := ∃ A n c B m d, e = .returned (.tuple #[.agg (tqs r.1 A n c B m d).toArray, .int .i64 r.2]) ∧ Byt w' A n c r.1.x ∧ Byt w' B m d r.1.b ∧ Kept Nil w w'
theorem qgot_zero {w w' : World} {er : Int} {r : Tc × Int} (hr : r = (Tc.zero, er)) (hk : Kept Nil w w') : QGot w (.returned (.tuple #[.agg (tqs Tc.zero none 0 0 none 0 0).toArray, .int .i64 er])) w' r := by
  subst hr
  exact ⟨none, 0, 0, none, 0, 0, rfl, Byt.none _, Byt.none _, hk⟩
theorem tget_forms (l : List UInt8) (n : Nat) (hl : l.length = n) (h : 20 ≤ n) (x y : UInt8) (hx : l[12]? = some x) (hy : l[13]? = some y) (q N : Nat) (hq : x.toNat / 16 = q) (hN : q * 4 = N) :
    (N < 20 → getT l = (Tc.zero, 5)) ∧ (20 ≤ N → n < N → getT l = (Tc.zero, 4)) ∧ (20 ≤ N → N ≤ n → getT l = (⟨numM ((l.drop 0).take 2), numM ((l.drop 2).take 2), numM ((l.drop 4).take 4), numM ((l.drop 8).take 4), x.toNat % 16, y.toNat, numM ((l.drop 14).take 2), numM ((l.drop 16).take 2), numM ((l.drop 18).take 2), (l.take N).drop 20, l.drop N⟩, 0)) := by
  have e1 : l.getD 12 0 = x := by rw [List.getD_eq_getElem?_getD, hx]; rfl
  have e2 : l.getD 13 0 = y := by rw [List.getD_eq_getElem?_getD, hy]; rfl
  have hn : tcN l = N := by unfold tcN; rw [e1, hq, hN]
  refine ⟨fun h => ?_, fun h h2 => ?_, fun h h2 => ?_⟩
  · unfold getT; rw [if_neg (by omega), hn, if_pos h]
  · unfold getT; rw [if_neg (by omega), hn, if_neg (by omega), if_pos (by omega)]
  · unfold getT
    rw [if_neg (by omega), hn, if_neg (by omega), if_neg (by omega)]
    unfold tcOf
    rw [hn, e1, e2, List.drop_zero]
set_option maxRecDepth 100000 in
set_option maxHeartbeats 16000000 in
theorem qget_yes (A : Option Addr) (n c : Nat) (l : List UInt8) (w : World) (h : Byt w A n c l) (hn : n ≤ 1099511627776) : Calls Tryd.prog 11 #[.slice A n c] w fun e w' => QGot w e w' (getT l) := by
  have hl := h.1
  have hnc := h.2.1
  have hcc := h.2.2.1
  have HZ := Lib.hid (TQ.new w 34 Tc.zero none 0 0 none 0 0)
  have HK := Lib.hid ((Kept.refl Nil w).alloc (.cells (tqs Tc.zero none 0 0 none 0 0).toArray 34))
  have HY := Lib.hid (h.kept HK.out (fun _ _ hf => hf))
  have HBL := Lib.hid h.lt
  have HS := Lib.hid (show (w.alloc (.cells (tqs Tc.zero none 0 0 none 0 0).toArray 34)).heap.size = w.heap.size + 1 by simp)
  by_cases h20 : n < 20
  · have h20' : (n : Int) < 20 := by omega
    have HR := Lib.hid (show getT l = (Tc.zero, 4) by unfold getT; rw [if_pos (by omega)])
    clear h hl
    go_enter Tryd.func11, Tryd.ntmps11
    go_wp2_with (first
      | (refine wpList_st rfl _ (.tmp 2) _ rfl w.heap.size 0 rfl (tqs Tc.zero none 0 0 none 0 0) _ rfl rfl (infTq _ _ _ _ _ _ _) 34 _ HZ.out (by show 0 + 11 ≤ 11; omega) (tqs_one _ _ _ _ _ _ _) ?_; intro w40 hb9 hk9 hz9; simp only [Act.put])
      | fail)
    have h2 : TQ w40 w.heap.size 34 Tc.zero none 0 0 none 0 0 := hb9
    refine bodyPost_ret (res_cell1 Tryd.results11 rfl rfl h2.all Tryd.underlying34 rfl (infTq _ _ _ _ _ _ _)) rfl ?_
    exact qgot_zero HR.out (HK.out.fresh hk9 (fun i hi => by cases hi; exact Nat.le_refl _))
  · have h20' : ¬ (n : Int) < 20 := by omega
    obtain ⟨b, o, rfl, -⟩ := h.2.2.2 (by omega)
    obtain ⟨x, hx⟩ : ∃ x, l[12]? = some x := ⟨_, List.getElem?_eq_getElem (by omega)⟩
    obtain ⟨y, hy⟩ : ∃ y, l[13]? = some y := ⟨_, List.getElem?_eq_getElem (by omega)⟩
    obtain ⟨q, hq⟩ : ∃ q, x.toNat / 16 = q := ⟨_, rfl⟩
    obtain ⟨N, hN⟩ : ∃ N, q * 4 = N := ⟨_, rfl⟩
    have HF := Lib.hid (tget_forms l n hl (by omega) x y hx hy q N hq hN)
    have HX := Lib.hid hx
    have HYY := Lib.hid hy
    have hxl := x.toNat_lt
    have hqi : (x.toNat : Int) / 16 = (q : Int) := by omega
    have hNi : (q : Int) * 4 = (N : Int) := by omega
    have hq16 : q < 16 := by omega
    have hN60 : N ≤ 60 := by omega
    have n12 : 12 < n := by omega
    have HLL := Lib.hid hl
    clear h hl hq hN
    go_enter Tryd.func11, Tryd.ntmps11
    go_upto_region 1 with (fail)
    refine wp_nameE (fun W => TQ W w.heap.size 34 Tc.zero none 0 0 none 0 0 ∧ Kept Nil w W ∧ Byt W (some ⟨b, o, none⟩) n c l ∧ W.heap.size = w.heap.size + 1) ⟨HZ.out, HK.out, HY.out, HS.out⟩ ?_
    clear HZ HK HY HS
    rintro W ⟨hz, hk, hb, hs⟩
    have c12 := byt_ge hb 12 x hx
    have HZ := Lib.hid hz
    have HK := Lib.hid hk
    have HY := Lib.hid hb
    have HS := Lib.hid hs
    clear hz hk hb hs hx hy
    by_cases hN20 : N < 20
    · have hN20' : (N : Int) < 20 := by omega
      have HR := Lib.hid (HF.out.1 hN20)
      go_wp2_with (first
        | (refine wpList_st rfl _ (.tmp 2) _ rfl w.heap.size 0 rfl (tqs Tc.zero none 0 0 none 0 0) _ rfl rfl (infTq _ _ _ _ _ _ _) 34 _ HZ.out (by show 0 + 11 ≤ 11; omega) (tqs_one _ _ _ _ _ _ _) ?_; intro w40 hb9 hk9 hz9; simp only [Act.put])
        | fail)
      have h2 : TQ w40 w.heap.size 34 Tc.zero none 0 0 none 0 0 := hb9
      refine bodyPost_ret (res_cell1 Tryd.results11 rfl rfl h2.all Tryd.underlying34 rfl (infTq _ _ _ _ _ _ _)) rfl ?_
      exact qgot_zero HR.out (HK.out.fresh hk9 (fun i hi => by cases hi; exact Nat.le_refl _))
    · have hN20' : ¬ (N : Int) < 20 := by omega
      by_cases hNn : n < N
      · have hNn' : (n : Int) < (N : Int) := by omega
        have HR := Lib.hid (HF.out.2.1 (by omega) hNn)
        go_wp2_with (first
          | (refine wpList_st rfl _ (.tmp 2) _ rfl w.heap.size 0 rfl (tqs Tc.zero none 0 0 none 0 0) _ rfl rfl (infTq _ _ _ _ _ _ _) 34 _ HZ.out (by show 0 + 11 ≤ 11; omega) (tqs_one _ _ _ _ _ _ _) ?_; intro w40 hb9 hk9 hz9; simp only [Act.put])
          | fail)
        have h2 : TQ w40 w.heap.size 34 Tc.zero none 0 0 none 0 0 := hb9
        refine bodyPost_ret (res_cell1 Tryd.results11 rfl rfl h2.all Tryd.underlying34 rfl (infTq _ _ _ _ _ _ _)) rfl ?_
        exact qgot_zero HR.out (HK.out.fresh hk9 (fun i hi => by cases hi; exact Nat.le_refl _))
      · have hNn' : ¬ (n : Int) < (N : Int) := by omega
        have hgr := HF.out.2.2 (by omega) (by omega)
        obtain ⟨O, hO⟩ : ∃ O, x.toNat % 16 = O := ⟨_, rfl⟩
        obtain ⟨G, hG⟩ : ∃ G, y.toNat = G := ⟨_, rfl⟩
        have hGl : G < 256 := by rw [← hG]; exact y.toNat_lt
        obtain ⟨x1, e1⟩ : ∃ z, numM ((l.drop 0).take 2) = z := ⟨_, rfl⟩
        obtain ⟨x2, e2⟩ : ∃ z, numM ((l.drop 2).take 2) = z := ⟨_, rfl⟩
        obtain ⟨x3, e3⟩ : ∃ z, numM ((l.drop 4).take 4) = z := ⟨_, rfl⟩
        obtain ⟨x4, e4⟩ : ∃ z, numM ((l.drop 8).take 4) = z := ⟨_, rfl⟩
        obtain ⟨x7, e7⟩ : ∃ z, numM ((l.drop 14).take 2) = z := ⟨_, rfl⟩
        obtain ⟨x8, e8⟩ : ∃ z, numM ((l.drop 16).take 2) = z := ⟨_, rfl⟩
        obtain ⟨x9, e9⟩ : ∃ z, numM ((l.drop 18).take 2) = z := ⟨_, rfl⟩
        rw [hO, hG, e1, e2, e3, e4, e7, e8, e9] at hgr
        have HGR := Lib.hid hgr
        have hOi : (x.toNat : Int) % 16 = (O : Int) := by omega
        have HE := Lib.hid (And.intro hOi (And.intro hG (And.intro e1 (And.intro e2 (And.intro e3 (And.intro e4 (And.intro e7 (And.intro e8 e9))))))))
        have HNN := Lib.hid (show 20 ≤ N ∧ N ≤ n by omega)
        clear hgr HF hO hG e1 e2 e3 e4 e7 e8 e9 hOi
        go_wp2_with (fail)
        refine wp_region_own3 Nil (fun _ => none) (fun _ => (tqs Tc.zero none 0 0 none 0 0).toArray) 24 (fun i => undef) (by kernel_rfl) (by kernel_rfl) (by kernel_rfl) ⟨Kept.refl _ _, fun _ _ _ _ h => by cases h⟩ ?_
        apply Exists.intro
        refine And.intro ?hqa ?hta
        case hqa =>
          intro V hV
          have hYV := HY.out.kept hV (fun _ _ hf => hf)
          have y12 := fun d os => byt_ge (hYV.kept (kept_grown' V d os) (fun _ _ hf => hf)) 12 x HX.out
          have y13 := fun d os => byt_ge (hYV.kept (kept_grown' V d os) (fun _ _ hf => hf)) 13 y HYY.out
          have n13 : 13 < n := by omega
          obtain ⟨hOi, hG, e1, e2, e3, e4, e7, e8, e9⟩ := HE.out
          have q1 : ∀ d os, Calls Tryd.prog 43 #[.slice (some ⟨b, o, none⟩) n c, .int .i64 0] (grow (redrawn V d) os) fun e w' => e = .returned (.int .i64 (x1 : Int)) ∧ Kept Nil (grow (redrawn V d) os) w' := fun d os => by
            have := qtwo_yes _ _ _ l 0 (grow (redrawn V d) os) (hYV.kept (kept_grown' V d os) (fun _ _ hf => hf)) (by omega) (by omega)
            rw [e1] at this; exact this
          have q2 : ∀ d os, Calls Tryd.prog 43 #[.slice (some ⟨b, o, none⟩) n c, .int .i64 2] (grow (redrawn V d) os) fun e w' => e = .returned (.int .i64 (x2 : Int)) ∧ Kept Nil (grow (redrawn V d) os) w' := fun d os => by
            have := qtwo_yes _ _ _ l 2 (grow (redrawn V d) os) (hYV.kept (kept_grown' V d os) (fun _ _ hf => hf)) (by omega) (by omega)
            rw [e2] at this; exact this
          have q3 : ∀ d os, Calls Tryd.prog 44 #[.slice (some ⟨b, o, none⟩) n c, .int .i64 4] (grow (redrawn V d) os) fun e w' => e = .returned (.int .u32 (x3 : Int)) ∧ Kept Nil (grow (redrawn V d) os) w' := fun d os => by
            have := qfour_yes _ _ _ l 4 (grow (redrawn V d) os) (hYV.kept (kept_grown' V d os) (fun _ _ hf => hf)) (by omega) (by omega)
            rw [e3] at this; exact this
          have q4 : ∀ d os, Calls Tryd.prog 44 #[.slice (some ⟨b, o, none⟩) n c, .int .i64 8] (grow (redrawn V d) os) fun e w' => e = .returned (.int .u32 (x4 : Int)) ∧ Kept Nil (grow (redrawn V d) os) w' := fun d os => by
            have := qfour_yes _ _ _ l 8 (grow (redrawn V d) os) (hYV.kept (kept_grown' V d os) (fun _ _ hf => hf)) (by omega) (by omega)
            rw [e4] at this; exact this
          have q7 : ∀ d os, Calls Tryd.prog 43 #[.slice (some ⟨b, o, none⟩) n c, .int .i64 14] (grow (redrawn V d) os) fun e w' => e = .returned (.int .i64 (x7 : Int)) ∧ Kept Nil (grow (redrawn V d) os) w' := fun d os => by
            have := qtwo_yes _ _ _ l 14 (grow (redrawn V d) os) (hYV.kept (kept_grown' V d os) (fun _ _ hf => hf)) (by omega) (by omega)
            rw [e7] at this; exact this
          have q8 : ∀ d os, Calls Tryd.prog 43 #[.slice (some ⟨b, o, none⟩) n c, .int .i64 16] (grow (redrawn V d) os) fun e w' => e = .returned (.int .i64 (x8 : Int)) ∧ Kept Nil (grow (redrawn V d) os) w' := fun d os => by
            have := qtwo_yes _ _ _ l 16 (grow (redrawn V d) os) (hYV.kept (kept_grown' V d os) (fun _ _ hf => hf)) (by omega) (by omega)
            rw [e8] at this; exact this
          have q9 : ∀ d os, Calls Tryd.prog 43 #[.slice (some ⟨b, o, none⟩) n c, .int .i64 18] (grow (redrawn V d) os) fun e w' => e = .returned (.int .i64 (x9 : Int)) ∧ Kept Nil (grow (redrawn V d) os) w' := fun d os => by
            have := qtwo_yes _ _ _ l 18 (grow (redrawn V d) os) (hYV.kept (kept_grown' V d os) (fun _ _ hf => hf)) (by omega) (by omega)
            rw [e9] at this; exact this
          rw [hG] at y13
          clear hYV hV e1 e2 e3 e4 e7 e8 e9 hG
          dsimp only [List.take]
          iterate 23 (go_big_quiet_step (first | with_reducible exact quietK (q1 _ _) | with_reducible exact quietK (q2 _ _) | with_reducible exact quietK (q3 _ _) | with_reducible exact quietK (q4 _ _) | with_reducible exact quietK (q7 _ _) | with_reducible exact quietK (q8 _ _) | with_reducible exact quietK (q9 _ _)))
          refine wpQuiet_bd rfl _ _ rfl #[(0, .int .i64 (x1 : Int)), (1, .int .i64 (x2 : Int)), (7, .int .u32 (x3 : Int)), (8, .int .u32 (x4 : Int)), (2, .int .i64 (O : Int)), (3, .int .i64 (G : Int)), (4, .int .i64 (x7 : Int)), (5, .int .i64 (x8 : Int)), (6, .int .i64 (x9 : Int))] rfl (.agg (tqs ⟨x1, x2, x3, x4, O, G, x7, x8, x9, [], []⟩ none 0 0 none 0 0).toArray) (fun w => buildQ _ _ _ _ _ _ _ _ _ w) ?_
          exact wpQuiet_nil rfl
        case hta =>
          intro vt hvt
          dsimp only [List.drop]
          refine sLex_alloc 34 rfl rfl (fun _ _ => by kernel_rfl) ?_
          intro g5 hg5 hL5
          refine sLex_store 34 (.tmp 5) (.tmp 47) rfl rfl rfl g5 (tqs Tc.zero none 0 0 none 0 0).toArray (tqs ⟨x1, x2, x3, x4, O, G, x7, x8, x9, [], []⟩ none 0 0 none 0 0).toArray (by rfl) (by simp [upd]) (by rfl) (by rfl) (by rw [List.size_toArray]; exact infTq _ _ _ _ _ _ _) (by simpa using tqs_one ⟨x1, x2, x3, x4, O, G, x7, x8, x9, [], []⟩ none 0 0 none 0 0) ?_
          simp only [Act.put, List.setIfInBounds_toArray, List.set_cons_succ, List.set_cons_zero]
          intro w5 hh
          have hq5 : TQ w5 g5 34 ⟨x1, x2, x3, x4, O, G, x7, x8, x9, [], []⟩ none 0 0 none 0 0 := (hh.own g5 true _ 34 (by simp [upd])).2
          have hk5 := hh.kept
          have HT5 := Lib.hid hq5
          have HZ5 := Lib.hid (HZ.out.kept hk5 (fun hf => hf))
          have HY5 := Lib.hid (HY.out.kept hk5 (fun _ _ hf => hf))
          have HK5 := Lib.hid (HK.out.then hk5)
          have HG5 := Lib.hid (show w.heap.size < g5 by have := HS.out; omega)
          have hNN := HNN.out
          have hcut1 := run_cut (P := Tryd.prog) Tryd.underlying22 inf5.1 inf5.2 (some ⟨b, o, none⟩) n c 20 N 20 (N : Int) rfl rfl hNN.1 (by omega)
          have hcut2 := run_cut_lo (P := Tryd.prog) Tryd.underlying22 inf5.1 inf5.2 (some ⟨b, o, none⟩) n c N (N : Int) rfl hNN.2
          obtain ⟨A1, hA1⟩ : ∃ B, cutA (some ⟨b, o, none⟩) c 20 = B := ⟨_, rfl⟩
          obtain ⟨A2, hA2⟩ : ∃ B, cutA (some ⟨b, o, none⟩) c N = B := ⟨_, rfl⟩
          obtain ⟨n1, hn1⟩ : ∃ k, N - 20 = k := ⟨_, rfl⟩
          obtain ⟨n2, hn2⟩ : ∃ k, n - N = k := ⟨_, rfl⟩
          obtain ⟨d1, hd1⟩ : ∃ k, c - 20 = k := ⟨_, rfl⟩
          obtain ⟨d2, hd2⟩ : ∃ k, c - N = k := ⟨_, rfl⟩
          rw [hA1, hn1, hd1] at hcut1
          rw [hA2, hn2, hd2] at hcut2
          have HQ := Lib.hid (And.intro hA1 (And.intro hA2 (And.intro hn1 (And.intro hn2 (And.intro hd1 hd2)))))
          clear hq5 hk5 hh hvt hg5 hL5 HZ HY HK HS c12 hA1 hA2 hn1 hn2 hd1 hd2
          go_wp2_with (first
            | (refine wpList_st rfl _ _ _ rfl g5 9 rfl [.slice A1 n1 d1] _ rfl rfl infSl' 34 _ HT5.out (by rw [tqs_len, List.length_singleton]; omega) (by intro u hu; simp at hu; subst hu; rfl) ?_; intro w6 hb hk hz; simp only [Act.put]; have HT6 := Lib.hid (show TQ w6 g5 34 ⟨x1, x2, x3, x4, O, G, x7, x8, x9, (l.take N).drop 20, []⟩ A1 n1 d1 none 0 0 from hb); have HZ6 := Lib.hid (HZ5.out.kept hk (fun hf => by have := HG5.out; unfold One at hf; omega)); have HY6 := Lib.hid (HY5.out.kept hk (fun i hi hf => by have := HBL.out i hi; have := HG5.out; unfold One at hf; omega)); have HK6 := Lib.hid (HK5.out.fresh hk (fun i hi => by have := HG5.out; unfold One at hi; omega)); clear hb hk hz)
            | (refine wpList_st rfl _ _ _ rfl g5 10 rfl [.slice A2 n2 d2] _ rfl rfl infSl' 34 _ HT6.out (by rw [tqs_len, List.length_singleton]; omega) (by intro u hu; simp at hu; subst hu; rfl) ?_; intro w7 hb hk hz; simp only [Act.put]; have HT7 := Lib.hid (show TQ w7 g5 34 ⟨x1, x2, x3, x4, O, G, x7, x8, x9, (l.take N).drop 20, l.drop N⟩ A1 n1 d1 A2 n2 d2 from hb); have HZ7 := Lib.hid (HZ6.out.kept hk (fun hf => by have := HG5.out; unfold One at hf; omega)); have HY7 := Lib.hid (HY6.out.kept hk (fun i hi hf => by have := HBL.out i hi; have := HG5.out; unfold One at hf; omega)); have HK7 := Lib.hid (HK6.out.fresh hk (fun i hi => by have := HG5.out; unfold One at hi; omega)); clear hb hk hz)
            | (refine wpList_ld rfl _ _ rfl g5 0 rfl (tqs ⟨x1, x2, x3, x4, O, G, x7, x8, x9, (l.take N).drop 20, l.drop N⟩ A1 n1 d1 A2 n2 d2) HT7.out.all _ Tryd.underlying34 rfl (infTq _ _ _ _ _ _ _) ?_; simp only [Act.put, List.setIfInBounds_toArray, List.set_cons_succ, List.set_cons_zero])
            | (refine wpList_st rfl _ (.tmp 2) _ rfl w.heap.size 0 rfl (tqs ⟨x1, x2, x3, x4, O, G, x7, x8, x9, (l.take N).drop 20, l.drop N⟩ A1 n1 d1 A2 n2 d2) _ rfl rfl (infTq _ _ _ _ _ _ _) 34 _ HZ7.out (by show 0 + 11 ≤ 11; omega) (tqs_one _ _ _ _ _ _ _) ?_; intro w8 hb9 hk9 hz9; simp only [Act.put])
            | fail)
          have h2 : TQ w8 w.heap.size 34 ⟨x1, x2, x3, x4, O, G, x7, x8, x9, (l.take N).drop 20, l.drop N⟩ A1 n1 d1 A2 n2 d2 := hb9
          refine bodyPost_ret (res_cell1 Tryd.results11 rfl rfl h2.all Tryd.underlying34 rfl (infTq _ _ _ _ _ _ _)) rfl ?_
          have hy8 := HY7.out.kept hk9 (fun i hi hf => by have := HBL.out i hi; unfold One at hf; omega)
          obtain ⟨hA1, hA2, hn1, hn2, hd1, hd2⟩ := HQ.out
          have z1 := hy8.cut (lo := 20) (hi := N) hNN.1 hNN.2
          have z2 := hy8.cut (lo := N) (hi := n) hNN.2 (Nat.le_refl _)
          rw [hA1, hn1, hd1] at z1
          rw [hA2, hn2, hd2, List.take_of_length_le (by rw [HLL.out]; exact Nat.le_refl _)] at z2
          rw [HGR.out]
          exact ⟨A1, n1, d1, A2, n2, d2, rfl, z1, z2, HK7.out.fresh hk9 (fun i hi => by cases hi; exact Nat.le_refl _)⟩
end Go.Proofs.YthjbabkmjmfmjaaDoor
/- tollref07: contracts of GetUdp, Ports. -/
namespace Go.Proofs.YthjbabkmjmfmjaaDoor
open Go.RowKit Go.Sort
set_option linter.unusedVariables false

theorem buildU (f t n c : Int) (B : Option Addr) (m d : Nat) (w : World) : (Instr.build 42 #[(0, .int .i64 f), (1, .int .i64 t), (2, .int .i64 n), (3, .int .i64 c), (4, .slice B m d)]).run Tryd.prog w = .ok (.agg #[.int .i64 f, .int .i64 t, .int .i64 n, .int .i64 c, .slice B m d]) w := by kernel_rfl
/-- What the reference's reader of UDP answers. -/
def QUot (w : World) (e : Ending) (w' : World) (r : Ud × Int) : Prop := ∃ B m d, e = .returned (.tuple #[.agg (uqs r.1 B m d).toArray, .int .i64 r.2]) ∧ Byt w' B m d r.1.b ∧ Kept Nil w w'
theorem quot_zero {w w' : World} {er : Int} {r : Ud × Int} (hr : r = (Ud.zero, er)) (hk : Kept Nil w w') : QUot w (.returned (.tuple #[.agg (uqs Ud.zero none 0 0).toArray, .int .i64 er])) w' r := by
  subst hr
  exact ⟨none, 0, 0, rfl, Byt.none _, hk⟩
theorem uget_forms (l : List UInt8) (n : Nat) (hl : l.length = n) (h : 8 ≤ n) (N : Nat) (hN : numM ((l.drop 4).take 2) = N) :
    (N < 8 → getU l = (Ud.zero, 5)) ∧ (8 ≤ N → n < N → getU l = (Ud.zero, 4)) ∧ (8 ≤ N → N ≤ n → getU l = (⟨numM ((l.drop 0).take 2), numM ((l.drop 2).take 2), N, numM ((l.drop 6).take 2), (l.take N).drop 8⟩, 0)) := by
  have hn : udN l = N := hN
  refine ⟨fun h => ?_, fun h h2 => ?_, fun h h2 => ?_⟩
  · unfold getU; rw [if_neg (by omega), hn, if_pos h]
  · unfold getU; rw [if_neg (by omega), hn, if_neg (by omega), if_pos (by omega)]
  · unfold getU
    rw [if_neg (by omega), hn, if_neg (by omega), if_neg (by omega)]
    unfold udOf
    rw [hn, List.drop_zero]
set_option maxRecDepth 100000 in
set_option maxHeartbeats 16000000 in
theorem quget_yes (A : Option Addr) (n c : Nat) (l : List UInt8) (w : World) (h : Byt w A n c l) (hn : n ≤ 1099511627776) : Calls Tryd.prog 13 #[.slice A n c] w fun e w' => QUot w e w' (getU l) := by
  have hl := h.1
  have hnc := h.2.1
  have hcc := h.2.2.1
  have HZ := Lib.hid (UQ.new w 42 Ud.zero none 0 0)
  have HK := Lib.hid ((Kept.refl Nil w).alloc (.cells (uqs Ud.zero none 0 0).toArray 42))
  have HY := Lib.hid (h.kept HK.out (fun _ _ hf => hf))
  have HBL := Lib.hid h.lt
  have HLL := Lib.hid hl
  by_cases h8 : n < 8
  · have h8' : (n : Int) < 8 := by omega
    have HR := Lib.hid (show getU l = (Ud.zero, 4) by unfold getU; rw [if_pos (by omega)])
    clear h hl
    go_enter Tryd.func13, Tryd.ntmps13
    go_wp2_with (first
      | (refine wpList_st rfl _ (.tmp 2) _ rfl w.heap.size 0 rfl (uqs Ud.zero none 0 0) _ rfl rfl (infUq _ _ _ _) 42 _ HZ.out (by show 0 + 5 ≤ 5; omega) (uqs_one _ _ _ _) ?_; intro w40 hb9 hk9 hz9; simp only [Act.put])
      | fail)
    have h2 : UQ w40 w.heap.size 42 Ud.zero none 0 0 := hb9
    refine bodyPost_ret (res_cell1 Tryd.results13 rfl rfl h2.all Tryd.underlying42 rfl (infUq _ _ _ _)) rfl ?_
    exact quot_zero HR.out (HK.out.fresh hk9 (fun i hi => by cases hi; exact Nat.le_refl _))
  · have h8' : ¬ (n : Int) < 8 := by omega
    obtain ⟨N, hN⟩ : ∃ N, numM ((l.drop 4).take 2) = N := ⟨_, rfl⟩
    have HF := Lib.hid (uget_forms l n hl (by omega) N hN)
    have hN6 : N < 65536 := by rw [← hN]; exact Nat.lt_of_lt_of_le (numM_lt _) (Nat.le_trans (Nat.pow_le_pow_right (by decide) (show ((l.drop 4).take 2).length ≤ 2 by simp; omega)) (by decide))
    have CN := Lib.hid (show ∀ u, Byt u A n c l → Calls Tryd.prog 43 #[.slice A n c, .int .i64 4] u fun e w' => e = .returned (.int .i64 (N : Int)) ∧ Kept Nil u w' from fun u hu => by
      have := qtwo_yes A n c l 4 u hu (by omega) (by omega)
      rw [hN] at this; exact this)
    clear h hl hN
    go_enter Tryd.func13, Tryd.ntmps13
    go_wp2_with (fail)
    refine (CN.out _ HY.out).mono ?_
    rintro e w1 ⟨rfl, hk1⟩
    have HZ1 := Lib.hid (HZ.out.kept hk1 (fun hf => hf))
    have HK1 := Lib.hid (HK.out.then hk1)
    have HY1 := Lib.hid (HY.out.kept hk1 (fun _ _ hf => hf))
    clear hk1 HZ HK HY CN
    by_cases hN8 : N < 8
    · have hN8' : (N : Int) < 8 := by omega
      have HR := Lib.hid (HF.out.1 hN8)
      go_wp2_with (first
        | (refine wpList_st rfl _ (.tmp 2) _ rfl w.heap.size 0 rfl (uqs Ud.zero none 0 0) _ rfl rfl (infUq _ _ _ _) 42 _ HZ1.out (by show 0 + 5 ≤ 5; omega) (uqs_one _ _ _ _) ?_; intro w40 hb9 hk9 hz9; simp only [Act.put])
        | fail)
      have h2 : UQ w40 w.heap.size 42 Ud.zero none 0 0 := hb9
      refine bodyPost_ret (res_cell1 Tryd.results13 rfl rfl h2.all Tryd.underlying42 rfl (infUq _ _ _ _)) rfl ?_
      exact quot_zero HR.out (HK1.out.fresh hk9 (fun i hi => by cases hi; exact Nat.le_refl _))
    · have hN8' : ¬ (N : Int) < 8 := by omega
      by_cases hNn : n < N
      · have hNn' : (n : Int) < (N : Int) := by omega
        have HR := Lib.hid (HF.out.2.1 (by omega) hNn)
        go_wp2_with (first
          | (refine wpList_st rfl _ (.tmp 2) _ rfl w.heap.size 0 rfl (uqs Ud.zero none 0 0) _ rfl rfl (infUq _ _ _ _) 42 _ HZ1.out (by show 0 + 5 ≤ 5; omega) (uqs_one _ _ _ _) ?_; intro w40 hb9 hk9 hz9; simp only [Act.put])
          | fail)
        have h2 : UQ w40 w.heap.size 42 Ud.zero none 0 0 := hb9
        refine bodyPost_ret (res_cell1 Tryd.results13 rfl rfl h2.all Tryd.underlying42 rfl (infUq _ _ _ _)) rfl ?_
        exact quot_zero HR.out (HK1.out.fresh hk9 (fun i hi => by cases hi; exact Nat.le_refl _))
      · have hNn' : ¬ (n : Int) < (N : Int) := by omega
        have hgr := HF.out.2.2 (by omega) (by omega)
        obtain ⟨x1, e1⟩ : ∃ z, numM ((l.drop 0).take 2) = z := ⟨_, rfl⟩
        obtain ⟨x2, e2⟩ : ∃ z, numM ((l.drop 2).take 2) = z := ⟨_, rfl⟩
        obtain ⟨x4, e4⟩ : ∃ z, numM ((l.drop 6).take 2) = z := ⟨_, rfl⟩
        rw [e1, e2, e4] at hgr
        have HGR := Lib.hid hgr
        have HE := Lib.hid (And.intro e1 (And.intro e2 e4))
        have HNN := Lib.hid (show 8 ≤ N ∧ N ≤ n by omega)
        have hcut := run_cut (P := Tryd.prog) Tryd.underlying22 inf5.1 inf5.2 A n c 8 N 8 (N : Int) rfl rfl (by omega) (by omega)
        obtain ⟨A1, hA1⟩ : ∃ B, cutA A c 8 = B := ⟨_, rfl⟩
        obtain ⟨n1, hn1⟩ : ∃ k, N - 8 = k := ⟨_, rfl⟩
        obtain ⟨d1, hd1⟩ : ∃ k, c - 8 = k := ⟨_, rfl⟩
        rw [hA1, hn1, hd1] at hcut
        have HQ := Lib.hid (And.intro hA1 (And.intro hn1 hd1))
        clear hgr HF e1 e2 e4 hA1 hn1 hd1
        go_wp2_with (fail)
        refine wp_region_own3 (One w.heap.size) (upd noOwn w.heap.size (false, (uqs Ud.zero none 0 0).toArray, 42)) (fun _ => #[]) 11 (fun i => .int .i64 0) (by kernel_rfl) (by kernel_rfl) (by kernel_rfl) (holds_one HZ1.out) ?_
        apply Exists.intro
        refine And.intro ?hqa ?hta
        case hqa =>
          intro V hV
          have hYV := HY1.out.kept hV (fun i hi hf => by have := HBL.out i hi; unfold One at hf; omega)
          obtain ⟨e1, e2, e4⟩ := HE.out
          have q1 : ∀ d os, Calls Tryd.prog 43 #[.slice A n c, .int .i64 0] (grow (redrawn V d) os) fun e w' => e = .returned (.int .i64 (x1 : Int)) ∧ Kept Nil (grow (redrawn V d) os) w' := fun d os => by
            have := qtwo_yes _ _ _ l 0 (grow (redrawn V d) os) (hYV.kept (kept_grown' V d os) (fun _ _ hf => hf)) (by omega) (by omega)
            rw [e1] at this; exact this
          have q2 : ∀ d os, Calls Tryd.prog 43 #[.slice A n c, .int .i64 2] (grow (redrawn V d) os) fun e w' => e = .returned (.int .i64 (x2 : Int)) ∧ Kept Nil (grow (redrawn V d) os) w' := fun d os => by
            have := qtwo_yes _ _ _ l 2 (grow (redrawn V d) os) (hYV.kept (kept_grown' V d os) (fun _ _ hf => hf)) (by omega) (by omega)
            rw [e2] at this; exact this
          have q4 : ∀ d os, Calls Tryd.prog 43 #[.slice A n c, .int .i64 6] (grow (redrawn V d) os) fun e w' => e = .returned (.int .i64 (x4 : Int)) ∧ Kept Nil (grow (redrawn V d) os) w' := fun d os => by
            have := qtwo_yes _ _ _ l 6 (grow (redrawn V d) os) (hYV.kept (kept_grown' V d os) (fun _ _ hf => hf)) (by omega) (by omega)
            rw [e4] at this; exact this
          clear hYV hV e1 e2 e4
          dsimp only [List.take]
          iterate 10 (go_big_quiet_step (first | with_reducible exact quietK (q1 _ _) | with_reducible exact quietK (q2 _ _) | with_reducible exact quietK (q4 _ _)))
          refine wpQuiet_bd rfl _ _ rfl #[(0, .int .i64 (x1 : Int)), (1, .int .i64 (x2 : Int)), (2, .int .i64 (N : Int)), (3, .int .i64 (x4 : Int)), (4, .slice A1 n1 d1)] rfl (.agg (uqs ⟨x1, x2, N, x4, []⟩ A1 n1 d1).toArray) (fun w => buildU _ _ _ _ _ _ _ w) ?_
          exact wpQuiet_nil rfl
        case hta =>
          intro vt hvt
          dsimp only [List.drop]
          refine sLex_store 42 (.tmp 2) (.tmp 29) rfl rfl rfl w.heap.size (uqs Ud.zero none 0 0).toArray (uqs ⟨x1, x2, N, x4, []⟩ A1 n1 d1).toArray (by rfl) (by simp [upd]) (by rfl) (by rfl) (by rw [List.size_toArray]; exact infUq _ _ _ _) (by simpa using uqs_one ⟨x1, x2, N, x4, []⟩ A1 n1 d1) ?_
          refine sLex_assign (.const (.int .i64 0)) rfl rfl (hvt _ (by simp)) ?_
          simp only [Act.put, List.setIfInBounds_toArray, List.set_cons_succ, List.set_cons_zero]
          intro w5 hh
          have hq4 : UQ w5 w.heap.size 42 ⟨x1, x2, N, x4, []⟩ A1 n1 d1 := (hh.own w.heap.size true _ 42 (by simp [upd])).2
          have hq5 : UQ w5 w.heap.size 42 ⟨x1, x2, N, x4, (l.take N).drop 8⟩ A1 n1 d1 := hq4
          have hk5 := hh.kept
          have hy5 := HY1.out.kept hk5 (fun i hi hf => by have := HBL.out i hi; unfold One at hf; omega)
          obtain ⟨hA1, hn1, hd1⟩ := HQ.out
          have z1 := hy5.cut (lo := 8) (hi := N) HNN.out.1 HNN.out.2
          rw [hA1, hn1, hd1] at z1
          have HK5 := Lib.hid (HK1.out.fresh hk5 (fun i hi => by cases hi; exact Nat.le_refl _))
          have HZ := Lib.hid z1
          clear hh hy5 hvt hk5 hA1 hn1 hd1 z1
          go_wp2_with (fail)
          refine bodyPost_ret (res_cell1 Tryd.results13 rfl rfl hq5.all Tryd.underlying42 rfl (infUq _ _ _ _)) rfl ?_
          rw [HGR.out]
          exact ⟨A1, n1, d1, rfl, HZ.out, HK5.out⟩
def qportsM (p : Nat) (l : List UInt8) : Nat × Nat × Bool := if p = 6 then ((getT l).1.f, (getT l).1.t, decide ((getT l).2 = 0)) else if p = 17 then ((getU l).1.f, (getU l).1.t, decide ((getU l).2 = 0)) else (0, 0, false)
set_option maxRecDepth 100000 in
set_option maxHeartbeats 8000000 in
theorem qports_yes (p : Nat) (hp : p < 256) (A : Option Addr) (n c : Nat) (l : List UInt8) (w : World) (h : Byt w A n c l) (hn : n ≤ 1099511627776) :
    Calls Tryd.prog 15 #[.int .i64 (p : Int), .slice A n c] w fun e w' => e = .returned (.tuple #[.int .i64 ((qportsM p l).1 : Int), .int .i64 ((qportsM p l).2.1 : Int), .bool (qportsM p l).2.2]) ∧ Kept Nil w w' := by
  have CT := Lib.hid (qget_yes A n c l w h hn)
  have CU := Lib.hid (quget_yes A n c l w h hn)
  clear h
  by_cases h6 : p = 6
  · subst h6
    have hb6 : (((6 : Nat) : Int) == 6) = true := rfl
    have HR := Lib.hid (show qportsM 6 l = ((getT l).1.f, (getT l).1.t, decide ((getT l).2 = 0)) from rfl)
    obtain ⟨R, hR⟩ : ∃ R, getT l = R := ⟨_, rfl⟩
    rw [hR] at CT HR
    obtain ⟨h, er⟩ := R
    clear CU hR
    go_enter Tryd.func15, Tryd.ntmps15
    go_wp2_with (fail)
    refine (CT.out).mono ?_
    rintro e w1 ⟨A1, n1, c1, B1, m1, d1, rfl, hx, hb, hk⟩
    dsimp only
    have HZ := Lib.hid (TQ.new w1 34 Tc.zero none 0 0 none 0 0)
    have HK1 := Lib.hid hk
    clear hx hb hk CT
    go_upto_region 3 with (first
      | (refine wpList_st rfl _ (.tmp 7) _ rfl w1.heap.size 0 rfl (tqs h A1 n1 c1 B1 m1 d1) _ rfl rfl (infTq _ _ _ _ _ _ _) 34 _ HZ.out (by show 0 + 11 ≤ 11; omega) (tqs_one _ _ _ _ _ _ _) ?_; intro w3 hb3 hk3 hz3; simp only [Act.put])
      | fail)
    have HT := Lib.hid (show TQ w3 w1.heap.size 34 h A1 n1 c1 B1 m1 d1 from hb3)
    have HK3 := Lib.hid (HK1.out.then (((Kept.refl Nil w1).alloc (.cells (tqs Tc.zero none 0 0 none 0 0).toArray 34)).fresh hk3 (fun i hi => by cases hi; exact Nat.le_refl _)))
    obtain ⟨g, hg⟩ : ∃ g, w1.heap.size = g := ⟨_, rfl⟩
    rw [hg] at HT ⊢
    have e0 := fun d os => ((HT.out).kept (kept_grown' w3 d os) (fun hf => hf)).cf
    have e1 := fun d os => ((HT.out).kept (kept_grown' w3 d os) (fun hf => hf)).ct
    clear hb3 hk3 hz3 HZ HK1 hg
    refine wp_region_quiet_below (by kernel_rfl) (by kernel_rfl) ?_
    repeat (go_big_quiet_step (fail))
    refine wpQuiet_nil ?_
    rintro wz ⟨nq, hw⟩
    have HKz := Lib.hid (HK3.out.then (show Kept Nil w3 wz by rw [hw]; exact kept_grown _ _))
    clear hw e0 e1
    go_wp2
    go_ret3
    exact ⟨by rw [HR.out]; rfl, HKz.out⟩
  · have hb6 : ((p : Int) == 6) = false := by simp; omega
    by_cases h17 : p = 17
    · subst h17
      have hb17 : (((17 : Nat) : Int) == 17) = true := rfl
      have hb6' : (((17 : Nat) : Int) == 6) = false := rfl
      have HR := Lib.hid (show qportsM 17 l = ((getU l).1.f, (getU l).1.t, decide ((getU l).2 = 0)) from rfl)
      obtain ⟨R, hR⟩ : ∃ R, getU l = R := ⟨_, rfl⟩
      rw [hR] at CU HR
      obtain ⟨h, er⟩ := R
      clear CT hR h6 hb6
      go_enter Tryd.func15, Tryd.ntmps15
      go_wp2_with (fail)
      refine (CU.out).mono ?_
      rintro e w1 ⟨B1, m1, d1, rfl, hb, hk⟩
      dsimp only
      have HZ := Lib.hid (UQ.new w1 42 Ud.zero none 0 0)
      have HK1 := Lib.hid hk
      clear hb hk CU
      go_upto_region 6 with (first
        | (refine wpList_st rfl _ (.tmp 9) _ rfl w1.heap.size 0 rfl (uqs h B1 m1 d1) _ rfl rfl (infUq _ _ _ _) 42 _ HZ.out (by show 0 + 5 ≤ 5; omega) (uqs_one _ _ _ _) ?_; intro w3 hb3 hk3 hz3; simp only [Act.put])
        | fail)
      have HT := Lib.hid (show UQ w3 w1.heap.size 42 h B1 m1 d1 from hb3)
      have HK3 := Lib.hid (HK1.out.then (((Kept.refl Nil w1).alloc (.cells (uqs Ud.zero none 0 0).toArray 42)).fresh hk3 (fun i hi => by cases hi; exact Nat.le_refl _)))
      obtain ⟨g, hg⟩ : ∃ g, w1.heap.size = g := ⟨_, rfl⟩
      rw [hg] at HT ⊢
      have e0 := fun d os => ((HT.out).kept (kept_grown' w3 d os) (fun hf => hf)).cf
      have e1 := fun d os => ((HT.out).kept (kept_grown' w3 d os) (fun hf => hf)).ct
      clear hb3 hk3 hz3 HZ HK1 hg
      refine wp_region_quiet_below (by kernel_rfl) (by kernel_rfl) ?_
      repeat (go_big_quiet_step (fail))
      refine wpQuiet_nil ?_
      rintro wz ⟨nq, hw⟩
      have HKz := Lib.hid (HK3.out.then (show Kept Nil w3 wz by rw [hw]; exact kept_grown _ _))
      clear hw e0 e1
      go_wp2
      go_ret3
      exact ⟨by rw [HR.out]; rfl, HKz.out⟩
    · have hb17 : ((p : Int) == 17) = false := by simp; omega
      have HR := Lib.hid (show qportsM p l = (0, 0, false) by unfold qportsM; rw [if_neg h6, if_neg h17])
      clear h6 h17 CT CU
      go_enter Tryd.func15, Tryd.ntmps15
      go_wp2
      go_ret3
      exact ⟨by rw [HR.out]; rfl, Kept.refl _ _⟩
end Go.Proofs.YthjbabkmjmfmjaaDoor
