/- Texts that belong together, one behind the other: RaL, RaM. Conditions: those of each. -/
import Derived.Test.YtiehmpiaddjhiaaDoorMg7
import Derived.Test.YtiehmpiaddjhiaaDoorMg1
/- Package rate: clean. -/
namespace Go.Proofs.YtiehmpiaddjhiaaDoor
open Go.RowKit Go.Sort
set_option linter.unusedVariables false

def Bk.zero : Bk := ⟨0, 0, 0, 0⟩
set_option maxRecDepth 100000 in
set_option maxHeartbeats 4000000 in
theorem bclean_yes (m : Bk) (hm : m.ok) (w : World) : Calls Tryd.prog 20 #[bkv m] w fun e w' => e = .returned (bkv (clB m)) ∧ Kept Nil w w' := by
  have hP : KB (w.alloc (.cells (bkl m).toArray 26)) w.heap.size m := Blo.new w _ _
  have hQ : KB ((w.alloc (.cells (bkl m).toArray 26)).alloc (.cells (bkl Bk.zero).toArray 26)) (w.heap.size + 1) Bk.zero := by
    have := Blo.new (w.alloc (.cells (bkl m).toArray 26)) 26 (bkl Bk.zero).toArray
    rwa [World.size_alloc] at this
  have hk0 := ((Kept.refl Nil w).alloc (.cells (bkl m).toArray 26)).alloc (.cells (bkl Bk.zero).toArray 26)
  have HOK := Lib.hid hm
  clear hm
  go_enter Tryd.func20, Tryd.ntmps20
  go_upto_region 1 with (fail)
  refine wp_nameE (fun W => KB W w.heap.size m ∧ KB W (w.heap.size + 1) Bk.zero ∧ Kept Nil w W) ⟨hP.kept ((Kept.refl Nil _).alloc _) (fun hf => hf), hQ, hk0⟩ ?_
  clear hP hQ hk0
  rintro W ⟨hP, hQ, hk⟩
  obtain ⟨g1, hg1⟩ : ∃ g, w.heap.size = g := ⟨_, rfl⟩
  rw [hg1] at hP hQ ⊢
  have HW := Lib.hid (show w.heap.size ≤ g1 by omega)
  have HP := Lib.hid hP
  have HQ := Lib.hid hQ
  have HK := Lib.hid hk
  clear hP hQ hk hg1
  have c0 := fun d os => (HP.out.kept (kept_grown' W d os) (fun hf => hf)).c0
  have c1 := fun d os => (HP.out.kept (kept_grown' W d os) (fun hf => hf)).c1
  refine wp_region_tail 7 (by kernel_rfl) (by kernel_rfl) ?_
  simp only [List.take_succ_cons, List.take_zero, List.drop_succ_cons, List.drop_zero]
  go_big_quiet_step (fail)
  go_big_quiet_step (fail)
  go_big_quiet_step (exact quietK (fclean_yes m.r HOK.out.r _))
  go_big_quiet_step (fail)
  go_big_quiet_step (fail)
  go_big_quiet_step (exact quietK (fclean_yes m.b HOK.out.b _))
  go_big_quiet_step (fail)
  refine wpQuiet_nil ?_
  rintro u ⟨nq, hw⟩
  have hku : Kept Nil W u := by rw [hw]; exact kept_grown _ _
  have HP := Lib.hid (HP.out.kept hku (fun hf => hf))
  have HQ := Lib.hid (HQ.out.kept hku (fun hf => hf))
  have HK := Lib.hid (HK.out.then hku)
  clear hw hku c0 c1
  go_wp2_with (first
    | (refine wpList_st rfl 24 (.tmp 9) _ rfl g1 0 rfl [.float .f64 (clF m.r)] _ rfl rfl infFl 26 _ HP.out (by show 0 + 1 ≤ 4; decide) (by intro u hu; obtain rfl := List.mem_singleton.1 hu; rfl) ?_; intro w2 hb2 hk2 hz2; have HP2 := Lib.hid (show KB w2 g1 ⟨clF m.r, m.b, m.l, m.a⟩ from hb2); clear hb2; simp only [Act.put, List.setIfInBounds_toArray, List.set_cons_succ, List.set_cons_zero])
    | (refine wpList_st rfl 24 (.tmp 10) _ rfl g1 1 rfl [.float .f64 (clF m.b)] _ rfl rfl infFl 26 _ HP2.out (by show 1 + 1 ≤ 4; decide) (by intro u hu; obtain rfl := List.mem_singleton.1 hu; rfl) ?_; intro w3 hb3 hk3 hz3; simp only [Act.put, List.setIfInBounds_toArray, List.set_cons_succ, List.set_cons_zero])
    | fail)
  have HP := Lib.hid (show KB w3 g1 ⟨clF m.r, clF m.b, m.l, m.a⟩ from hb3)
  have hk23 := hk2.trans hk3 (fun _ _ hf => hf)
  have HQ := Lib.hid (HQ.out.kept hk23 (fun hf => by have h1 : g1 + 1 = g1 := hf; omega))
  have HK := Lib.hid (HK.out.fresh hk23 (fun i hi => by have h1 := HW.out; have h2 : i = g1 := hi; omega))
  clear hb3 hk2 hk3 hz2 hz3 hk23 HP2
  have c2 := fun d os => (HP.out.kept (kept_grown' w3 d os) (fun hf => hf)).c2
  have c1 := fun d os => (HP.out.kept (kept_grown' w3 d os) (fun hf => hf)).c1
  have hmin := run_minF (clF m.l) (clF m.b) (clF_le HOK.out.l) (clF_le HOK.out.b)
  refine wp_region_tail 6 (by kernel_rfl) (by kernel_rfl) ?_
  simp only [List.take_succ_cons, List.take_zero, List.drop_succ_cons, List.drop_zero]
  go_big_quiet_step (fail)
  go_big_quiet_step (fail)
  go_big_quiet_step (exact quietK (fclean_yes m.l HOK.out.l _))
  go_big_quiet_step (fail)
  go_big_quiet_step (fail)
  go_big_quiet_step (fail)
  refine wpQuiet_nil ?_
  rintro u ⟨nq, hw⟩
  have hku : Kept Nil w3 u := by rw [hw]; exact kept_grown _ _
  have HP := Lib.hid (HP.out.kept hku (fun hf => hf))
  have HQ := Lib.hid (HQ.out.kept hku (fun hf => hf))
  have HK := Lib.hid (HK.out.then hku)
  clear hw hku c2 c1 hmin
  go_upto_region 3 with (first
    | (refine wpList_st rfl 24 (.tmp 17) _ rfl g1 2 rfl [.float .f64 (min (clF m.l) (clF m.b))] _ rfl rfl infFl 26 _ HP.out (by show 2 + 1 ≤ 4; decide) (by intro u hu; obtain rfl := List.mem_singleton.1 hu; rfl) ?_; intro w4 hb4 hk4 hz4; simp only [Act.put, List.setIfInBounds_toArray, List.set_cons_succ, List.set_cons_zero])
    | fail)
  have HP := Lib.hid (show KB w4 g1 (clB m) from hb4)
  have HQ := Lib.hid (HQ.out.kept hk4 (fun hf => by have h1 : g1 + 1 = g1 := hf; omega))
  have HK := Lib.hid (HK.out.fresh hk4 (fun i hi => by have h1 := HW.out; have h2 : i = g1 := hi; omega))
  clear hb4 hk4 hz4
  go_wp2_with (first
    | (refine wpList_ld rfl _ (.tmp 1) rfl g1 0 rfl (bkl (clB m)) HP.out.all _ Tryd.underlying26 rfl (infBk _) ?_; simp only [Act.put, List.setIfInBounds_toArray, List.set_cons_succ, List.set_cons_zero])
    | (refine wpList_st rfl 26 (.tmp 2) _ rfl (g1 + 1) 0 rfl (bkl (clB m)) _ rfl rfl (infBk _) 26 _ HQ.out (by show 0 + 4 ≤ 4; decide) (bkl_one _) ?_; intro w5 hb5 hk5 hz5; simp only [Act.put, List.setIfInBounds_toArray, List.set_cons_succ, List.set_cons_zero])
    | fail)
  have hQ : KB w5 (g1 + 1) (clB m) := hb5
  refine bodyPost_ret (res_cell0 Tryd.results20 rfl hQ.all Tryd.underlying26 rfl (infBk _)) rfl ⟨rfl, ?_⟩
  exact HK.out.fresh hk5 (fun i hi => by have h1 := HW.out; have h2 : i = g1 + 1 := hi; omega)
set_option maxRecDepth 100000 in
theorem bnew_yes (r b : Nat) (t : Int) (hr : r < 18446744073709551616) (hb : b < 18446744073709551616) (ht : -9223372036854775808 ≤ t ∧ t ≤ 9223372036854775807) (w : World) : Calls Tryd.prog 6 #[.float .f64 r, .float .f64 b, .int .i64 t] w fun e w' => e = .returned (bkv (clB ⟨r, b, b, t⟩)) ∧ Kept Nil w w' := by
  have hP : KB (w.alloc (.cells (bkl Bk.zero).toArray 26)) w.heap.size Bk.zero := Blo.new w _ _
  have hk0 := (Kept.refl Nil w).alloc (.cells (bkl Bk.zero).toArray 26)
  have HOK := Lib.hid (show (⟨r, b, b, t⟩ : Bk).ok from ⟨hr, hb, hb, ht⟩)
  clear hr hb ht
  go_enter Tryd.func6, Tryd.ntmps6
  go_upto_region 1 with (fail)
  refine wp_nameE (fun W => KB W w.heap.size Bk.zero ∧ Kept Nil w W) ⟨hP, hk0⟩ ?_
  clear hP hk0
  rintro W ⟨hP, hk⟩
  obtain ⟨g1, hg1⟩ : ∃ g, w.heap.size = g := ⟨_, rfl⟩
  rw [hg1] at hP ⊢
  have HW := Lib.hid (show w.heap.size ≤ g1 by omega)
  have HP := Lib.hid hP
  have HK := Lib.hid hk
  clear hP hk hg1
  go_wp2_with (fail)
  refine (bclean_yes ⟨r, b, b, t⟩ HOK.out _).mono ?_
  rintro e w2 ⟨rfl, hk⟩
  have HP := Lib.hid (HP.out.kept hk (fun hf => hf))
  have HK := Lib.hid (HK.out.then hk)
  clear hk
  dsimp only
  go_wp2_with (first
    | (refine wpList_st rfl 26 (.tmp 6) _ rfl g1 0 rfl (bkl (clB ⟨r, b, b, t⟩)) _ rfl rfl (infBk _) 26 _ HP.out (by show 0 + 4 ≤ 4; decide) (bkl_one _) ?_; intro w5 hb5 hk5 hz5; simp only [Act.put, List.setIfInBounds_toArray, List.set_cons_succ, List.set_cons_zero])
    | fail)
  have hQ : KB w5 g1 (clB ⟨r, b, b, t⟩) := hb5
  refine bodyPost_ret (res_cell0 Tryd.results6 rfl hQ.all Tryd.underlying26 rfl (infBk _)) rfl ⟨rfl, ?_⟩
  exact HK.out.fresh hk5 (fun i hi => by have h1 := HW.out; have h2 : i = g1 := hi; omega)
end Go.Proofs.YtiehmpiaddjhiaaDoor
/- Float64: products and sums of clean ones. Plain. -/
namespace Go.Proofs.YtiehmpiaddjhiaaDoor
open Go
set_option linter.unusedVariables false

theorem word_is (r : Nat) : Ieee.double.word false r = r := by
  unfold Ieee.Format.word
  rw [if_neg (by decide)]
theorem nearest_le (m : Nat) (e : Int) : Ieee.double.nearest false m e ≤ INFB := by
  unfold Ieee.Format.nearest
  dsimp only
  split
  · rw [word_is]
    exact Nat.zero_le _
  · rw [word_is, dbl_inf]
    exact Nat.min_le_right _ _
theorem read_clean (x : Nat) (h : x ≤ INFB) : Ieee.double.read x = .infinity false ∨ ∃ m e, Ieee.double.read x = .number false m e ∧ (0 < x → 0 < m) := by
  have hs : INFB < SG := by decide
  have hm : x % SG = x := Nat.mod_eq_of_lt (by omega)
  have hn : negF x = false := by unfold negF; rw [Nat.div_eq_of_lt (by omega)]; rfl
  rcases Nat.lt_or_ge x INFB with h1 | h1
  · refine .inr ⟨_, _, by rw [read_num x (by rw [hm]; exact h1), hn], fun hx => ?_⟩
    rw [hm]
    unfold magR
    split
    · exact hx
    · exact Nat.lt_of_lt_of_le (show 0 < BIN by decide) (Nat.le_add_right _ _)
  · exact .inl (by rw [read_inf x (by rw [hm]; omega), hn])
theorem fin_read (x : Nat) (h : x < INFB) (h0 : 0 < x) : ∃ m e, Ieee.double.read x = .number false m e ∧ 0 < m := by
  rcases read_clean x (Nat.le_of_lt h) with h1 | ⟨m, e, h1, h2⟩
  · have hs : INFB < SG := by decide
    have hm : x % SG = x := Nat.mod_eq_of_lt (by omega)
    rw [read_num x (by rw [hm]; exact h)] at h1
    cases h1
  · exact ⟨m, e, h1, h2 h0⟩
theorem wr_inf : (some (Ieee.Datum.infinity false)).map Ieee.double.write = some INFB := by
  show some (Ieee.double.word false Ieee.double.infRung) = some INFB
  rw [word_is, dbl_inf]
theorem sum_ii : Ieee.Datum.sum (.infinity false) (.infinity false) = some (.infinity false) := by
  unfold Ieee.Datum.sum
  rfl
theorem sum_in (n : Nat) (j : Int) : Ieee.Datum.sum (.infinity false) (.number false n j) = some (.infinity false) := by
  unfold Ieee.Datum.sum
  rfl
theorem sum_ni (n : Nat) (j : Int) : Ieee.Datum.sum (.number false n j) (.infinity false) = some (.infinity false) := by
  unfold Ieee.Datum.sum
  rfl
theorem add_ok (x y : Nat) (hx : x ≤ INFB) (hy : y ≤ INFB) : ∃ s, Ieee.double.add x y = some s ∧ s ≤ INFB := by
  unfold Ieee.Format.add
  rcases read_clean x hx with h1 | ⟨m, i, h1, -⟩ <;> rcases read_clean y hy with h2 | ⟨n, j, h2, -⟩ <;> rw [h1, h2]
  · rw [sum_ii]; exact ⟨INFB, wr_inf, Nat.le_refl _⟩
  · rw [sum_in]; exact ⟨INFB, wr_inf, Nat.le_refl _⟩
  · rw [sum_ni]; exact ⟨INFB, wr_inf, Nat.le_refl _⟩
  · refine ⟨_, rfl, ?_⟩
    have hp : ∀ (m u : Nat), (0 : Int) ≤ Ieee.signed false m u := fun m u => by unfold Ieee.signed; rw [if_neg (by decide)]; exact Int.natCast_nonneg _
    have h := Int.add_nonneg (hp m (i - min i j).toNat) (hp n (j - min i j).toNat)
    show Ieee.double.nearest _ _ _ ≤ INFB
    have hb : (if Ieee.signed false m (i - min i j).toNat + Ieee.signed false n (j - min i j).toNat = 0 then false && false else decide (Ieee.signed false m (i - min i j).toNat + Ieee.signed false n (j - min i j).toNat < 0)) = false := by
      split
      · rfl
      · exact decide_eq_false (by omega)
    rw [hb]
    exact nearest_le _ _
theorem mul_ok (x y : Nat) (hx : x ≤ INFB) (hy : y < INFB) (h0 : 0 < y) : ∃ s, Ieee.double.mul x y = some s ∧ s ≤ INFB := by
  unfold Ieee.Format.mul
  obtain ⟨n, j, h2, hn⟩ := fin_read y hy h0
  rcases read_clean x hx with h1 | ⟨m, i, h1, -⟩ <;> rw [h1, h2]
  · refine ⟨INFB, ?_, Nat.le_refl _⟩
    unfold Ieee.Datum.product
    simp only
    rw [if_neg (by omega)]
    exact wr_inf
  · exact ⟨_, rfl, nearest_le _ _⟩
end Go.Proofs.YtiehmpiaddjhiaaDoor
