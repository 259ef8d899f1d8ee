/- tolllaw03.TagPushes: the walk. -/
import Derived.Test.YtnhkhglhodcffabTagG
import Derived.Test.YtnhkhglhodcffabTail
namespace Go.Proofs.Ytnhkhglhodcffab
open Go.RowKit Go.Sort
set_option linter.unusedVariables false

theorem rdt_of {w w' : World} {v : Value} {l : List Tg} (h : MadeT w w' v l) (hok : ∀ t ∈ l, t.ok) : ∃ A c, v = .slice A l.length c ∧ Tags w' A l.length c l := by
  obtain ⟨A, c, e, ht, _⟩ := Tags.of_own h.1 hok
  exact ⟨A, c, e, ht⟩
theorem mayL_one {t : Tg} (h : mayT t = true) : mayL [t] = true := (mayL_iff _).2 (.inr (.inl ⟨t, rfl, h⟩))
theorem mayL_two {t u : Tg} (h : mayT t = true) (h' : mayT u = true) : mayL [t, u] = (u.k == 33024) := by
  rw [Bool.eq_iff_iff, mayL_iff]
  constructor
  · rintro (h1 | ⟨_, h1, _⟩ | ⟨_, _, h1, _, _, h2⟩)
    · cases h1
    · simp at h1
    · cases h1; simpa using h2
  · intro h1
    exact .inr (.inr ⟨t, u, rfl, h, h', by simpa using h1⟩)
/-- The world under a new name, with what is known of it. -/
theorem wp_name {P : Program} {c : Code} {Q : Exit → Act → World → Prop} {a : Act} {W0 : World} (R : World → Prop) (h0 : R W0) (h : ∀ W, R W → Code.wp P c Q a W) : Code.wp P c Q a W0 := h W0 h0
theorem push_nil {t : Tg} (h : mayT t = true) : pushM [] t = ([t], 0) := by
  unfold pushM
  rw [if_neg (by rw [h]; simp [mayL, mayFrom]), if_neg (by decide), mayL_one h]
  rfl
theorem push_one {t u : Tg} (h : mayT t = true) (h' : mayT u = true) : pushM [u] t = if u.k == 33024 then ([t, u], 0) else ([], 1) := by
  unfold pushM
  rw [if_neg (by rw [h, mayL_one h']; simp), if_neg (by simp), mayL_two h h']
theorem push_two {t u x : Tg} (h : mayT t = true) (h' : mayT u = true) (hk : (u.k == 33024) = true) (hx : mayT x = true) : pushM [t, u] x = ([], 7) := by
  unfold pushM
  rw [if_neg (by rw [hx, mayL_two h h', hk]; simp)]
  simp
theorem pop_two {t u : Tg} (h : mayT t = true) (h' : mayT u = true) (hk : (u.k == 33024) = true) : popM [t, u] = (t, [u], 0) := by
  unfold popM
  rw [if_neg (by rw [mayL_two h h', hk]; simp)]
theorem pop_one {t : Tg} (h : mayT t = true) : popM [t] = (t, [], 0) := by
  unfold popM
  rw [if_neg (by rw [mayL_one h]; simp)]
theorem pop_nil : popM [] = (⟨0, 0, false, 0⟩, [], 6) := rfl

set_option maxHeartbeats 4000000 in
theorem pushes_yes (x0 y0 : Tg) (hx0 : x0.ok) (hy0 : y0.ok) (w : World) :
    Calls Try.prog 5 #[tgv x0, tgv y0] w fun e w' => e = .returned (.bool true) ∧ Below w.heap.size w w' := by
  have hwk : ∀ u, Calls Try.prog _ _ u _ := fun u => wakes_yes u
  have bx : ∀ u, Calls Try.prog _ _ u _ := fun u => brought_yes x0 hx0 u
  have byy : ∀ u, Calls Try.prog _ _ u _ := fun u => brought_yes y0 hy0 u
  have hmx := broM_may x0
  have hmy := broM_may y0
  have hxo := broM_ok x0
  have hyo := broM_ok y0
  generalize broM x0 = x at *
  generalize broM y0 = y at *
  have hbx : Blo ((w.alloc (.cells (tgc x0).toArray 38)).alloc (.cells (tgc y0).toArray 38)) w.heap.size 38 (tgc x0).toArray := (Blo.new w 38 (tgc x0).toArray).alloc _
  have hby : Blo ((w.alloc (.cells (tgc x0).toArray 38)).alloc (.cells (tgc y0).toArray 38)) (w.heap.size + 1) 38 (tgc y0).toArray := Blo.at_new (by simp)
  have hk0 : Kept Nil w ((w.alloc (.cells (tgc x0).toArray 38)).alloc (.cells (tgc y0).toArray 38)) := ((Kept.refl Nil w).alloc _).alloc _
  simp only [tgc] at hbx hby hk0
  unfold tgv at bx byy
  have HW := Lib.hid hwk
  have BX := Lib.hid bx
  have BY := Lib.hid byy
  have HX0 := Lib.hid hbx
  have HY0 := Lib.hid hby
  have HK0 := Lib.hid hk0
  have HMX := Lib.hid hmx
  have HMY := Lib.hid hmy
  clear hwk bx byy hbx hby hk0 hmx hmy hx0 hy0
  go_enter Try.func5, Try.ntmps5
  unfold tgv
  go_wp2
  refine wp_region_tail 4 (by kernel_rfl) (by kernel_rfl) ?_
  simp only [List.take_succ_cons, List.take_zero, List.drop_succ_cons, List.drop_zero]
  have c0 := HX0.out.gcell 0
  have c1 := HX0.out.gcell 1
  have c2 := HX0.out.gcell 2
  have c3 := HX0.out.gcell 3
  have d0 := HY0.out.gcell 0
  have d1 := HY0.out.gcell 1
  have d2 := HY0.out.gcell 2
  have d3 := HY0.out.gcell 3
  simp at c0 c1 c2 c3 d0 d1 d2 d3
  repeat (go_big_quiet_step (first | (with_reducible exact quietK (BX.out _)) | (with_reducible exact quietK (BY.out _))))
  refine wpQuiet_nil ?_
  rintro wn ⟨nq, hw⟩
  have hkn : Kept Nil ((w.alloc (.cells #[.int .u16 (x0.k : Int), .int .u8 (x0.p : Int), .bool x0.d, .int .u16 (x0.n : Int)] 38)).alloc (.cells #[.int .u16 (y0.k : Int), .int .u8 (y0.p : Int), .bool y0.d, .int .u16 (y0.n : Int)] 38)) wn := by rw [hw]; exact kept_grown _ _
  have hx1 := HX0.out.kept hkn (fun hf => hf)
  have hy1 := HY0.out.kept hkn (fun hf => hf)
  obtain ⟨hx2, hk2⟩ := blo_store4 hx1 (.int .u16 (x.k : Int)) (.int .u8 (x.p : Int)) (.bool x.d) (.int .u16 (x.n : Int))
  have hy2 := hy1.kept hk2 (by intro hf; simp [One] at hf)
  obtain ⟨hy3, hk3⟩ := blo_store4 hy2 (.int .u16 (y.k : Int)) (.int .u8 (y.p : Int)) (.bool y.d) (.int .u16 (y.n : Int))
  have hx3 := hx2.kept hk3 (by intro hf; simp [One] at hf)
  have hkw := ((HK0.out.then hkn).fresh hk2 (fun i hi => by cases hi; exact Nat.le_refl _)).fresh hk3 (fun i hi => by cases hi; exact Nat.le_succ _)
  have e0 := hx1.cell 0
  have e1 := hx1.cell 1
  have e2 := hx1.cell 2
  have e3 := hx1.cell 3
  have g0 := hy1.cell 0
  have g1 := hy1.cell 1
  have g2 := hy1.cell 2
  have g3 := hy1.cell 3
  simp at e0 e1 e2 e3 g0 g1 g2 g3
  have f0 := hx1.frozen 0
  have f1 := hx1.frozen 1
  have f2 := hx1.frozen 2
  have f3 := hx1.frozen 3
  have h0 := hy1.frozen 0
  have h1 := hy1.frozen 1
  have h2 := hy1.frozen 2
  have h3 := hy1.frozen 3
  have hz : w.heap.size + 1 < wn.heap.size := hy1.lt
  have HX3 := Lib.hid hx3
  have HY3 := Lib.hid hy3
  have HKW := Lib.hid hkw
  clear hw hkn hx1 hy1 hx2 hk2 hy2 hy3 hk3 hx3 hkw c0 c1 c2 c3 d0 d1 d2 d3
  go_upto_region 2 with (fail)
  refine wp_name (fun W => Blo W w.heap.size 38 #[.int .u16 (x.k : Int), .int .u8 (x.p : Int), .bool x.d, .int .u16 (x.n : Int)] ∧ Blo W (w.heap.size + 1) 38 #[.int .u16 (y.k : Int), .int .u8 (y.p : Int), .bool y.d, .int .u16 (y.n : Int)] ∧ Kept Nil w W) ⟨HX3.out, HY3.out, HKW.out⟩ ?_
  clear e0 e1 e2 e3 g0 g1 g2 g3 f0 f1 f2 f3 h0 h1 h2 h3 hz HX3 HY3 HKW HX0 HY0 HK0 BX BY
  rintro w1 ⟨hx, hy, hk⟩
  have c0 := hx.cell 0
  have c1 := hx.cell 1
  have c2 := hx.cell 2
  have c3 := hx.cell 3
  have d0 := hy.cell 0
  have d1 := hy.cell 1
  have d2 := hy.cell 2
  have d3 := hy.cell 3
  simp at c0 c1 c2 c3 d0 d1 d2 d3
  have HX := Lib.hid hx
  have HY := Lib.hid hy
  have HK := Lib.hid hk
  clear hx hy hk
  go_wp2_with fail
  refine (push_yes none 0 0 [] y _ (Tags.nil _) hyo (by decide)).mono ?_
  rintro e w2 ⟨v1, rfl, hm⟩
  rw [push_nil HMY.out] at hm ⊢
  obtain ⟨A1, cp1, rfl, ht1⟩ := rdt_of hm (by simpa using hyo)
  have HX2 := Lib.hid (HX.out.kept hm.2 (fun hf => hf))
  have HY2 := Lib.hid (HY.out.kept hm.2 (fun hf => hf))
  have HK2 := Lib.hid (HK.out.then hm.2)
  have HT1 := Lib.hid ht1
  clear hm ht1 c0 c1 c2 c3 d0 d1 d2 d3
  have c0 := HX2.out.cell 0
  have c1 := HX2.out.cell 1
  have c2 := HX2.out.cell 2
  have c3 := HX2.out.cell 3
  simp at c0 c1 c2 c3
  go_wp2_with fail
  refine (push_yes A1 1 cp1 [y] x _ HT1.out hxo (by decide)).mono ?_
  rintro e w3 ⟨v2, rfl, hm⟩
  rw [push_one HMX.out HMY.out] at hm ⊢
  cases hyk : (y.k == 33024)
  · rw [hyk, if_neg (by decide)] at hm
    rw [if_neg (by decide)]
    have hyb : ((y.k : Int) == 33024) = false := by rw [← hyk, Bool.eq_iff_iff]; simp; omega
    clear hyk
    have HX3 := Lib.hid (HX2.out.kept hm.2 (fun hf => hf))
    have hy3 := HY2.out.kept hm.2 (fun hf => hf)
    have HY3 := Lib.hid hy3
    have HK3 := Lib.hid (HK2.out.then hm.2)
    have HT3 := Lib.hid (HT1.out.kept hm.2 (fun _ _ hf => hf))
    have d0 := hy3.cell 0
    have d1 := hy3.cell 1
    have d2 := hy3.cell 2
    have d3 := hy3.cell 3
    simp at d0 d1 d2 d3
    have HT4 := Lib.hid (HT3.out.kept ((Kept.refl Nil w3).alloc (.cells #[.int .u16 (y.k : Int), .int .u8 (y.p : Int), .bool y.d, .int .u16 (y.n : Int)] 38)) (fun _ _ hf => hf))
    have htl : Tags (w3.alloc (.cells #[.int .u16 (y.k : Int), .int .u8 (y.p : Int), .bool y.d, .int .u16 (y.n : Int)] 38)) (some ⟨w3.heap.size, 0, none⟩) 1 1 [y] := ⟨Rws.lit (s := 4) w3 ([y].map tgc) 38 (tgc_len _) (by simp) _ rfl 1 rfl w3.heap.size rfl, by simpa using hyo⟩
    have HTL := Lib.hid htl
    clear hm hy3 htl c0 c1 c2 c3
    go_wp2_with fail
    refine (equal_t _ _ _ _ _ _ _ _ _ HT4.out HTL.out).mono ?_
    rintro e w4 ⟨rfl, hk4⟩
    rw [decide_eq_true rfl]
    have hk5 := ((Kept.refl Nil w3).alloc (.cells #[.int .u16 (y.k : Int), .int .u8 (y.p : Int), .bool y.d, .int .u16 (y.n : Int)] 38)).then hk4
    have HK4 := Lib.hid (HK3.out.then hk5)
    clear hk4 hk5
    go_wp2_with fail
    refine (HW.out _).mono ?_
    rintro e w5 ⟨rfl, hk5⟩
    have HK5 := Lib.hid (HK4.out.then hk5)
    clear hk5
    go_wp2
    go_ret
    exact ⟨rfl, HK5.out.below (Nat.le_refl _) (fun _ hf => hf.elim)⟩
  · rw [hyk, if_pos rfl] at hm
    rw [if_pos rfl]
    have hyb : ((y.k : Int) == 33024) = true := by rw [← hyk, Bool.eq_iff_iff]; simp; omega
    have HYK := Lib.hid hyk
    clear hyk
    obtain ⟨A2, cp2, rfl, ht2⟩ := rdt_of hm (by simpa using ⟨hxo, hyo⟩)
    have HT2 := Lib.hid ht2
    clear ht2
    have HX3 := Lib.hid (HX2.out.kept hm.2 (fun hf => hf))
    have hy3 := HY2.out.kept hm.2 (fun hf => hf)
    have HY3 := Lib.hid hy3
    have HK3 := Lib.hid (HK2.out.then hm.2)
    have HT3 := Lib.hid (HT1.out.kept hm.2 (fun _ _ hf => hf))
    have d0 := hy3.cell 0
    have d1 := hy3.cell 1
    have d2 := hy3.cell 2
    have d3 := hy3.cell 3
    simp at d0 d1 d2 d3
    have HT4 := Lib.hid (HT3.out.kept ((Kept.refl Nil w3).alloc (.cells #[.int .u16 (y.k : Int), .int .u8 (y.p : Int), .bool y.d, .int .u16 (y.n : Int)] 38)) (fun _ _ hf => hf))
    have htl : Tags (w3.alloc (.cells #[.int .u16 (y.k : Int), .int .u8 (y.p : Int), .bool y.d, .int .u16 (y.n : Int)] 38)) (some ⟨w3.heap.size, 0, none⟩) 1 1 [y] := ⟨Rws.lit (s := 4) w3 ([y].map tgc) 38 (tgc_len _) (by simp) _ rfl 1 rfl w3.heap.size rfl, by simpa using hyo⟩
    have HTL := Lib.hid htl
    clear hm hy3 htl c0 c1 c2 c3
    go_wp2_with fail
    refine (equal_t _ _ _ _ _ _ _ _ _ HT4.out HTL.out).mono ?_
    rintro e w4 ⟨rfl, hk4⟩
    rw [decide_eq_true rfl]
    have hk5 := ((Kept.refl Nil w3).alloc (.cells #[.int .u16 (y.k : Int), .int .u8 (y.p : Int), .bool y.d, .int .u16 (y.n : Int)] 38)).then hk4
    have HK4 := Lib.hid (HK3.out.then hk5)
    have hx4 := HX3.out.kept hk5 (fun hf => hf)
    have HX4 := Lib.hid hx4
    have HT5 := Lib.hid (HT2.out.kept hk5 (fun _ _ hf => hf))
    have HT6 := Lib.hid (HT3.out.kept hk5 (fun _ _ hf => hf))
    have c0 := hx4.cell 0
    have c1 := hx4.cell 1
    have c2 := hx4.cell 2
    have c3 := hx4.cell 3
    simp at c0 c1 c2 c3
    clear hk4 hk5 hx4 d0 d1 d2 d3
    go_wp2_with fail
    refine (push_yes A2 2 cp2 [x, y] x _ HT5.out hxo (by decide)).mono ?_
    rintro e w5 ⟨v5, rfl, hm⟩
    rw [push_two HMX.out HMY.out HYK.out HMX.out] at hm ⊢
    obtain ⟨A5, cp5, rfl⟩ := own_form hm.1
    have HX5 := Lib.hid (HX4.out.kept hm.2 (fun hf => hf))
    have HT7 := Lib.hid (HT5.out.kept hm.2 (fun _ _ hf => hf))
    have HT8 := Lib.hid (HT6.out.kept hm.2 (fun _ _ hf => hf))
    have HK5 := Lib.hid (HK4.out.then hm.2)
    clear hm c0 c1 c2 c3
    go_wp2_with fail
    refine (pop_yes A2 2 cp2 [x, y] _ HT7.out (by decide)).mono ?_
    rintro e w6 ⟨v6, rfl, hm⟩
    rw [pop_two HMX.out HMY.out HYK.out] at hm ⊢
    obtain ⟨A6, cp6, rfl, ht6⟩ := rdt_of hm (by simpa using hyo)
    have hkz := hm.2.alloc (.cells #[.int .u16 (x.k : Int), .int .u8 (x.p : Int), .bool x.d, .int .u16 (x.n : Int)] 38)
    have HX6 := Lib.hid (HX5.out.kept hkz (fun hf => hf))
    have HZ6 := Lib.hid (Blo.new w6 38 #[.int .u16 (x.k : Int), .int .u8 (x.p : Int), .bool x.d, .int .u16 (x.n : Int)])
    have HT9 := Lib.hid (HT8.out.kept hkz (fun _ _ hf => hf))
    have HTR := Lib.hid (ht6.kept ((Kept.refl Nil w6).alloc (.cells #[.int .u16 (x.k : Int), .int .u8 (x.p : Int), .bool x.d, .int .u16 (x.n : Int)] 38)) (fun _ _ hf => hf))
    have HK6 := Lib.hid (HK5.out.then hkz)
    obtain ⟨gz, hgz⟩ : ∃ gz, gz = w6.heap.size := ⟨_, rfl⟩
    unfold tgv
    clear hm hkz ht6
    go_wp2_with fail
    refine (pop_yes A6 1 cp6 [y] _ HTR.out (by decide)).mono ?_
    rintro e w7 ⟨v7, rfl, hm⟩
    rw [pop_one HMY.out] at hm ⊢
    obtain ⟨A7, cp7, rfl, ht7⟩ := rdt_of hm (by simp)
    have hkz := hm.2.alloc (.cells #[.int .u16 (y.k : Int), .int .u8 (y.p : Int), .bool y.d, .int .u16 (y.n : Int)] 38)
    have HX7 := Lib.hid (HX6.out.kept hkz (fun hf => hf))
    have HZ7 := Lib.hid (HZ6.out.kept hkz (fun hf => hf))
    have HT10 := Lib.hid (HT9.out.kept hkz (fun _ _ hf => hf))
    have HTR7 := Lib.hid (HTR.out.kept hkz (fun _ _ hf => hf))
    have HTN := Lib.hid (ht7.kept ((Kept.refl Nil w7).alloc (.cells #[.int .u16 (y.k : Int), .int .u8 (y.p : Int), .bool y.d, .int .u16 (y.n : Int)] 38)) (fun _ _ hf => hf))
    have HK7 := Lib.hid (HK6.out.then hkz)
    unfold tgv
    clear hm hkz ht7
    go_wp2_with fail
    refine (pop_yes A7 0 cp7 [] _ HTN.out (by decide)).mono ?_
    rintro e w8 ⟨v8, rfl, hm⟩
    rw [pop_nil] at hm ⊢
    obtain ⟨A8, cp8, rfl⟩ := own_form hm.1
    have hkz := hm.2.alloc (.cells #[.int .u16 0, .int .u8 0, .bool false, .int .u16 0] 38)
    have hx8 := HX7.out.kept hkz (fun hf => hf)
    have hz8 := HZ7.out.kept hkz (fun hf => hf)
    have HT11 := Lib.hid (HT10.out.kept hkz (fun _ _ hf => hf))
    have HTR8 := Lib.hid (HTR7.out.kept hkz (fun _ _ hf => hf))
    have HK8 := Lib.hid (HK7.out.then hkz)
    have c0 := hx8.cell 0
    have c1 := hx8.cell 1
    have c2 := hx8.cell 2
    have c3 := hx8.cell 3
    have d0 := hz8.cell 0
    have d1 := hz8.cell 1
    have d2 := hz8.cell 2
    have d3 := hz8.cell 3
    simp at c0 c1 c2 c3 d0 d1 d2 d3
    have eqs := fun w => eq_tag x x w
    rw [decide_eq_true rfl] at eqs
    unfold tgv at eqs ⊢
    clear hm hkz hx8 hz8
    go_wp2_with fail
    refine (equal_t _ _ _ _ _ _ _ _ _ HTR8.out HT11.out).mono ?_
    rintro e w9 ⟨rfl, hk9⟩
    rw [decide_eq_true rfl]
    have HK9 := Lib.hid (HK8.out.then hk9)
    clear hk9
    go_wp2_with fail
    refine (HW.out _).mono ?_
    rintro e w10 ⟨rfl, hk10⟩
    have HK10 := Lib.hid (HK9.out.then hk10)
    clear hk10
    go_wp2
    go_ret
    exact ⟨rfl, HK10.out.below (Nat.le_refl _) (fun _ hf => hf.elim)⟩
theorem pushes_all (x0 y0 : Tg) (w : World) (hx0 : x0.ok) (hy0 : y0.ok) :
    Calls Try.prog 5 #[tgv x0, tgv y0] w fun e w' => e = .returned (.bool true) ∧ Below w.heap.size w w' := pushes_yes x0 y0 hx0 hy0 w
end Go.Proofs.Ytnhkhglhodcffab
