/- Texts that belong together, one behind the other: RbA, RbB. Conditions: those of each. -/
import Derived.Test.YtiehmpiaddjhiaaDoorMg28
/- tollref11: rank, Clean, after, clean. -/
namespace Go.Proofs.YtiehmpiaddjhiaaDoor
open Go.RowKit Go.Sort
set_option linter.unusedVariables false

def MXF : Nat := 9218868437227405311
def NXF : Nat := 18442240474082181119
def rkM (x : Nat) : Nat := if nanF x then 3 else if ltF MXF x then 2 else if ltF x NXF then 0 else 1
set_option maxRecDepth 100000 in
theorem rank_yes (x : Nat) (hx : x < 18446744073709551616) (w : World) : Calls Tryd.prog 25 #[.float .f64 x] w fun e w' => e = .returned (.int .i64 (rkM x : Int)) ∧ Kept Nil w w' := by
  have h1 : (FloatKind.f64.format.order x x != some .eq) = nanF x := nan_self hx
  have h2 : (FloatKind.f64.format.order x 9218868437227405311 == some .gt) = ltF MXF x := gt_is hx (by decide)
  have h3 : (FloatKind.f64.format.order x 18442240474082181119 == some .lt) = ltF x NXF := lt_is hx (by decide)
  have HR := Lib.hid (show rkM x = if nanF x then 3 else if ltF MXF x then 2 else if ltF x NXF then 0 else 1 from rfl)
  generalize nanF x = p at *
  generalize ltF MXF x = q at *
  generalize ltF x NXF = r at *
  clear hx
  go_enter Tryd.func25, Tryd.ntmps25
  cases p
  · cases q
    · cases r
      · go_wp2_with (fail)
        go_ret
        exact ⟨by rw [HR.out]; rfl, Kept.refl _ _⟩
      · go_wp2_with (fail)
        go_ret
        exact ⟨by rw [HR.out]; rfl, Kept.refl _ _⟩
    · go_wp2_with (fail)
      go_ret
      exact ⟨by rw [HR.out]; rfl, Kept.refl _ _⟩
  · go_wp2_with (fail)
    go_ret
    exact ⟨by rw [HR.out]; rfl, Kept.refl _ _⟩
theorem le_not {x : Nat} (hn : nanF x = false) : (ltF x 0 || eqF x 0) = !ltF 0 x := by
  unfold ltF eqF
  rw [hn, show nanF 0 = false from by decide, show keyF 0 = 0 from rfl]
  simp only [Bool.not_false, Bool.true_and]
  rcases Int.lt_trichotomy (keyF x) 0 with h | h | h
  · rw [decide_eq_true h, decide_eq_false (show ¬ (0 : Int) < keyF x by omega)]; rfl
  · rw [decide_eq_true h, Bool.or_true, decide_eq_false (show ¬ (0 : Int) < keyF x by omega)]; rfl
  · rw [decide_eq_false (show ¬ keyF x < 0 by omega), decide_eq_false (show ¬ keyF x = 0 by omega), decide_eq_true h]; rfl
theorem mx_pos {x : Nat} (h : ltF MXF x = true) : ltF 0 x = true := by
  unfold ltF at *
  have h0 : keyF MXF = 9218868437227405311 := by decide
  rw [h0] at h
  simp only [Bool.and_eq_true, Bool.not_eq_true', decide_eq_true_eq] at h ⊢
  exact ⟨⟨by decide, h.1.2⟩, by show (0 : Int) < keyF x; omega⟩
theorem nx_neg {x : Nat} (h : ltF x NXF = true) : ltF 0 x = false := by
  unfold ltF at *
  have h0 : keyF NXF = -9218868437227405311 := by decide
  rw [h0] at h
  simp only [Bool.and_eq_true, Bool.not_eq_true', decide_eq_true_eq] at h
  rw [decide_eq_false (show ¬ keyF 0 < keyF x by show ¬ (0 : Int) < keyF x; omega), Bool.and_false]
theorem nan_neg {x : Nat} (h : nanF x = true) : ltF 0 x = false := by
  unfold ltF
  rw [h]
  simp
set_option maxRecDepth 100000 in
theorem rclean_yes (x : Nat) (hx : x < 18446744073709551616) (w : World) : Calls Tryd.prog 24 #[.float .f64 x] w fun e w' => e = .returned (.float .f64 (clF x)) ∧ Kept Nil w w' := by
  have HRK := Lib.hid (rank_yes x hx)
  have HC := Lib.hid (show clF x = if ltF 0 x then x else 0 from rfl)
  have hle : nanF x = false → (FloatKind.f64.format.order x 0 == some .lt || FloatKind.f64.format.order x 0 == some .eq) = !ltF 0 x := fun hn => by
    rw [show (FloatKind.f64.format.order x 0 == some .lt) = ltF x 0 from lt_is hx (by decide), show (FloatKind.f64.format.order x 0 == some .eq) = eqF x 0 from eq_is hx (by decide)]
    exact le_not hn
  have h1 : nanF x = true → ltF 0 x = false := nan_neg
  have h2 : ltF MXF x = true → ltF 0 x = true := mx_pos
  have h3 : ltF x NXF = true → ltF 0 x = false := nx_neg
  have hr : rkM x = if nanF x then 3 else if ltF MXF x then 2 else if ltF x NXF then 0 else 1 := rfl
  generalize rkM x = K at *
  generalize nanF x = p at *
  generalize ltF MXF x = q at *
  generalize ltF x NXF = r at *
  generalize ltF 0 x = s at *
  clear hx
  go_enter Tryd.func24, Tryd.ntmps24
  cases p
  · have hle := hle rfl
    clear h1
    cases q
    · cases r
      · obtain rfl : K = 1 := hr
        clear h2 h3
        cases s
        · go_wp2_with (fail)
          refine (HRK.out _).mono ?_
          rintro e w1 ⟨rfl, hk⟩
          have HK := Lib.hid hk
          clear hk
          dsimp only
          go_wp2_with (fail)
          refine (HRK.out _).mono ?_
          rintro e w2 ⟨rfl, hk⟩
          have HK := Lib.hid (HK.out.then hk)
          clear hk
          dsimp only
          go_wp2_with (fail)
          go_ret
          exact ⟨by rw [HC.out]; rfl, HK.out⟩
        · go_wp2_with (fail)
          refine (HRK.out _).mono ?_
          rintro e w1 ⟨rfl, hk⟩
          have HK := Lib.hid hk
          clear hk
          dsimp only
          go_wp2_with (fail)
          refine (HRK.out _).mono ?_
          rintro e w2 ⟨rfl, hk⟩
          have HK := Lib.hid (HK.out.then hk)
          clear hk
          dsimp only
          go_wp2_with (fail)
          go_ret
          exact ⟨by rw [HC.out]; rfl, HK.out⟩
      · obtain rfl : K = 0 := hr
        obtain rfl := h3 rfl
        clear h2
        go_wp2_with (fail)
        refine (HRK.out _).mono ?_
        rintro e w1 ⟨rfl, hk⟩
        have HK := Lib.hid hk
        clear hk
        dsimp only
        go_wp2_with (fail)
        refine (HRK.out _).mono ?_
        rintro e w2 ⟨rfl, hk⟩
        have HK := Lib.hid (HK.out.then hk)
        clear hk
        dsimp only
        go_wp2_with (fail)
        go_ret
        exact ⟨by rw [HC.out]; rfl, HK.out⟩
    · obtain rfl : K = 2 := hr
      obtain rfl := h2 rfl
      clear h3
      go_wp2_with (fail)
      refine (HRK.out _).mono ?_
      rintro e w1 ⟨rfl, hk⟩
      have HK := Lib.hid hk
      clear hk
      dsimp only
      go_wp2_with (fail)
      refine (HRK.out _).mono ?_
      rintro e w2 ⟨rfl, hk⟩
      have HK := Lib.hid (HK.out.then hk)
      clear hk
      dsimp only
      go_wp2_with (fail)
      go_ret
      exact ⟨by rw [HC.out]; rfl, HK.out⟩
  · obtain rfl : K = 3 := hr
    obtain rfl := h1 rfl
    clear hle h2 h3
    go_wp2_with (fail)
    refine (HRK.out _).mono ?_
    rintro e w1 ⟨rfl, hk⟩
    have HK := Lib.hid hk
    clear hk
    dsimp only
    go_wp2_with (fail)
    go_ret
    exact ⟨by rw [HC.out]; rfl, HK.out⟩
end Go.Proofs.YtiehmpiaddjhiaaDoor
/- tollref11: after, clean, New, To. -/
namespace Go.Proofs.YtiehmpiaddjhiaaDoor
open Go.RowKit Go.Sort
set_option linter.unusedVariables false

def KR (w : World) (g : Nat) (m : Bk) : Prop := Blo w g 29 (bkl m).toArray
theorem infBr (m : Bk) : (Tryd.prog.info? 29).map (·.size) = some (bkl m).length := by show _ = some 4; kernel_rfl
theorem KR.all {w : World} {g : Nat} {m : Bk} (b : KR w g m) : Row w g 0 (bkl m) := Blo.row [] _ [] (by rw [List.nil_append, List.append_nil]; exact b)
theorem KR.kept {F : Nat → Prop} {w w' : World} {g : Nat} {m : Bk} (b : KR w g m) (k : Kept F w w') (hg : ¬ F g) : KR w' g m := Blo.kept b k hg
theorem KR.c0 {w : World} {g : Nat} {m : Bk} (b : KR w g m) : w.cell? ⟨g, 0, none⟩ = some (.float .f64 m.r) := b.all 0 _ rfl
theorem KR.c1 {w : World} {g : Nat} {m : Bk} (b : KR w g m) : w.cell? ⟨g, 1, none⟩ = some (.float .f64 m.b) := b.all 1 _ rfl
theorem KR.c2 {w : World} {g : Nat} {m : Bk} (b : KR w g m) : w.cell? ⟨g, 2, none⟩ = some (.float .f64 m.l) := b.all 2 _ rfl
theorem KR.c3 {w : World} {g : Nat} {m : Bk} (b : KR w g m) : w.cell? ⟨g, 3, none⟩ = some (.int .i64 m.a) := b.all 3 _ rfl
theorem one_of (v : Value) (h : v.oneCell' = true) : ∀ u ∈ [v], u.oneCell' = true := by intro u hu; obtain rfl := List.mem_singleton.1 hu; exact h
set_option maxRecDepth 100000 in
set_option maxHeartbeats 4000000 in
theorem rafter_yes (m : Bk) (hm : m.cl) (dt : Nat) (hd : dt < 18446744073709551616) (w : World) : Calls Tryd.prog 26 #[bkv m, .int .u64 (dt : Int)] w fun e w' => e = .returned (.float .f64 (afM m dt)) ∧ Kept Nil w w' := by
  have hP : KR (w.alloc (.cells (bkl m).toArray 29)) w.heap.size m := Blo.new w _ _
  have hk0 := (Kept.refl Nil w).alloc (.cells (bkl m).toArray 29)
  have HM := Lib.hid hm
  have HD := Lib.hid hd
  clear hm hd
  go_enter Tryd.func26, Tryd.ntmps26
  go_upto_region 1 with (fail)
  refine wp_nameE (fun W => KR W w.heap.size m ∧ Kept Nil w W) ⟨hP, hk0⟩ ?_
  clear hP hk0
  rintro W ⟨hP, hk⟩
  obtain ⟨g1, hg1⟩ : ∃ g, w.heap.size = g := ⟨_, rfl⟩
  rw [hg1] at hP ⊢
  have HK := Lib.hid hk
  have c0 := hP.c0
  have c1 := hP.c1
  have c2 := hP.c2
  clear hP hk hg1
  by_cases h0 : dt = 0
  · subst h0
    go_wp2_with (fail)
    go_ret
    exact ⟨rfl, HK.out⟩
  · have hb : ((dt : Int) == 0) = false := by simp; omega
    obtain ⟨p1, p2⟩ := pr_ok m.r dt HM.out.r (by omega) HD.out
    have hlb : m.l ≤ INFB := Nat.le_trans HM.out.l HM.out.b
    obtain ⟨s1, s2⟩ := sm_ok m.l (prM m.r dt) hlb p2
    have hcv : ∀ u, (convert 22 24 (.int .u64 (dt : Int))).run Tryd.prog u = .ok (.float .f64 (tkF dt)) u := fun u => run_convert_int_float (P := Tryd.prog) (w := u) 22 24 .u64 .f64 (dt : Int) (by kernel_rfl) (by kernel_rfl)
    have hml : ∀ t u, (binOp .mul t (.float .f64 m.r) (.float .f64 (tkF dt))).run Tryd.prog u = .ok (.float .f64 (prM m.r dt)) u := fun t u => run_float_arith u .mul t .f64 _ _ _ p1
    have hml2 : ∀ t u, (binOp .mul t (.float .f64 m.r) (.float .f64 (floatOfInt FloatKind.f64 (dt : Int)))).run Tryd.prog u = .ok (.float .f64 (prM m.r dt)) u := hml
    have hsm : ∀ t u, (binOp .add t (.float .f64 m.l) (.float .f64 (prM m.r dt))).run Tryd.prog u = .ok (.float .f64 (smM m.l (prM m.r dt))) u := fun t u => run_float_arith u .add t .f64 _ _ _ s1
    have hgt := gt_cl s2 HM.out.b
    have HA := Lib.hid (show afM m dt = min m.b (smM m.l (prM m.r dt)) by unfold afM; rw [if_neg h0])
    generalize smM m.l (prM m.r dt) = S at *
    clear p1 p2 s1 s2 hlb
    by_cases hlt : m.b < S
    · rw [decide_eq_true hlt] at hgt
      have HE := Lib.hid (show min m.b S = m.b from Nat.min_eq_left (Nat.le_of_lt hlt))
      clear hlt
      go_wp2_with (fail)
      go_ret
      exact ⟨by rw [HA.out, HE.out]; rfl, HK.out⟩
    · rw [decide_eq_false hlt] at hgt
      have HE := Lib.hid (show min m.b S = S from Nat.min_eq_right (Nat.not_lt.1 hlt))
      clear hlt
      go_wp2_with (fail)
      go_ret
      exact ⟨by rw [HA.out, HE.out]; rfl, HK.out⟩
set_option maxRecDepth 100000 in
set_option maxHeartbeats 4000000 in
theorem rcl_yes (m : Bk) (hm : m.ok) (w : World) : Calls Tryd.prog 21 #[bkv m] w fun e w' => e = .returned (bkv (clB m)) ∧ Kept Nil w w' := by
  have hP : KR (w.alloc (.cells (bkl m).toArray 29)) w.heap.size m := Blo.new w _ _
  have hQ : KR ((w.alloc (.cells (bkl m).toArray 29)).alloc (.cells (bkl Bk.zero).toArray 29)) (w.heap.size + 1) Bk.zero := by
    have := Blo.new (w.alloc (.cells (bkl m).toArray 29)) 29 (bkl Bk.zero).toArray
    rwa [World.size_alloc] at this
  have hk0 := ((Kept.refl Nil w).alloc (.cells (bkl m).toArray 29)).alloc (.cells (bkl Bk.zero).toArray 29)
  have HOK := Lib.hid hm
  have HC := Lib.hid (clB_cl hm)
  clear hm
  go_enter Tryd.func21, Tryd.ntmps21
  go_upto_region 1 with (fail)
  refine wp_nameE (fun W => KR W w.heap.size m ∧ KR W (w.heap.size + 1) Bk.zero ∧ Kept Nil w W) ⟨hP.kept ((Kept.refl Nil _).alloc _) (fun hf => hf), hQ, hk0⟩ ?_
  clear hP hQ hk0
  rintro W ⟨hP, hQ, hk⟩
  obtain ⟨g1, hg1⟩ : ∃ g, w.heap.size = g := ⟨_, rfl⟩
  rw [hg1] at hP hQ ⊢
  have HW := Lib.hid (show w.heap.size ≤ g1 by omega)
  have HP := Lib.hid hP
  have HQ := Lib.hid hQ
  have HK := Lib.hid hk
  clear hP hQ hk hg1
  obtain ⟨r, b, l, a⟩ := m
  have HCD := Lib.hid (show clB ⟨r, b, l, a⟩ = ⟨clF r, clF b, min (clF l) (clF b), a⟩ from rfl)
  have HX0 := Lib.hid (rclean_yes r HOK.out.r)
  have HX1 := Lib.hid (rclean_yes b HOK.out.b)
  have HX2 := Lib.hid (rclean_yes l HOK.out.l)
  have hgt := gt_cl (clF_le HOK.out.l) (clF_le HOK.out.b)
  have c0 := HP.out.c0
  dsimp only at c0
  generalize clF r = R at *
  generalize clF b = B at *
  generalize clF l = L at *
  go_wp2_with (fail)
  refine (HX0.out _).mono ?_
  rintro e w1 ⟨rfl, hk⟩
  have HP := Lib.hid (HP.out.kept hk (fun hf => hf))
  have HQ := Lib.hid (HQ.out.kept hk (fun hf => hf))
  have HK := Lib.hid (HK.out.then hk)
  clear hk c0
  dsimp only
  go_upto_region 2 with (first
    | (refine wpList_st rfl 24 (.tmp 6) _ rfl g1 0 rfl [.float .f64 R] _ rfl rfl infFl 29 _ HP.out (by show 0 + 1 ≤ 4; decide) (one_of _ rfl) ?_; intro w2 hb2 hk2 hz2; simp only [Act.put, List.setIfInBounds_toArray, List.set_cons_succ, List.set_cons_zero])
    | fail)
  have HP := Lib.hid (show KR w2 g1 ⟨R, b, l, a⟩ from hb2)
  have HQ := Lib.hid (HQ.out.kept hk2 (fun hf => by have h1 : g1 + 1 = g1 := hf; omega))
  have HK := Lib.hid (HK.out.fresh hk2 (fun i hi => by have h1 := HW.out; have h2 : i = g1 := hi; omega))
  clear hb2 hk2 hz2
  have c1 := HP.out.c1
  dsimp only at c1
  go_wp2_with (fail)
  refine (HX1.out _).mono ?_
  rintro e w1 ⟨rfl, hk⟩
  have HP := Lib.hid (HP.out.kept hk (fun hf => hf))
  have HQ := Lib.hid (HQ.out.kept hk (fun hf => hf))
  have HK := Lib.hid (HK.out.then hk)
  clear hk c1
  dsimp only
  go_upto_region 3 with (first
    | (refine wpList_st rfl 24 (.tmp 10) _ rfl g1 1 rfl [.float .f64 B] _ rfl rfl infFl 29 _ HP.out (by show 1 + 1 ≤ 4; decide) (one_of _ rfl) ?_; intro w2 hb2 hk2 hz2; simp only [Act.put, List.setIfInBounds_toArray, List.set_cons_succ, List.set_cons_zero])
    | fail)
  have HP := Lib.hid (show KR w2 g1 ⟨R, B, l, a⟩ from hb2)
  have HQ := Lib.hid (HQ.out.kept hk2 (fun hf => by have h1 : g1 + 1 = g1 := hf; omega))
  have HK := Lib.hid (HK.out.fresh hk2 (fun i hi => by have h1 := HW.out; have h2 : i = g1 := hi; omega))
  clear hb2 hk2 hz2
  have c2 := HP.out.c2
  dsimp only at c2
  go_wp2_with (fail)
  refine (HX2.out _).mono ?_
  rintro e w1 ⟨rfl, hk⟩
  have HP := Lib.hid (HP.out.kept hk (fun hf => hf))
  have HQ := Lib.hid (HQ.out.kept hk (fun hf => hf))
  have HK := Lib.hid (HK.out.then hk)
  clear hk c2
  dsimp only
  go_upto_region 4 with (first
    | (refine wpList_st rfl 24 (.tmp 14) _ rfl g1 2 rfl [.float .f64 L] _ rfl rfl infFl 29 _ HP.out (by show 2 + 1 ≤ 4; decide) (one_of _ rfl) ?_; intro w2 hb2 hk2 hz2; simp only [Act.put, List.setIfInBounds_toArray, List.set_cons_succ, List.set_cons_zero])
    | fail)
  have HP := Lib.hid (show KR w2 g1 ⟨R, B, L, a⟩ from hb2)
  have HQ := Lib.hid (HQ.out.kept hk2 (fun hf => by have h1 : g1 + 1 = g1 := hf; omega))
  have HK := Lib.hid (HK.out.fresh hk2 (fun i hi => by have h1 := HW.out; have h2 : i = g1 := hi; omega))
  clear hb2 hk2 hz2
  have c1 := HP.out.c1
  have c2 := HP.out.c2
  dsimp only at c1 c2
  by_cases hlt : B < L
  · rw [decide_eq_true hlt] at hgt
    rw [Nat.min_eq_right (Nat.le_of_lt hlt)] at HCD
    clear hlt
    go_upto_region 6 with (first
      | (refine wpList_st rfl 24 (.tmp 22) _ rfl g1 2 rfl [.float .f64 B] _ rfl rfl infFl 29 _ HP.out (by show 2 + 1 ≤ 4; decide) (one_of _ rfl) ?_; intro w2 hb2 hk2 hz2; simp only [Act.put, List.setIfInBounds_toArray, List.set_cons_succ, List.set_cons_zero])
      | fail)
    have HP := Lib.hid (show KR w2 g1 (clB ⟨r, b, l, a⟩) by rw [HCD.out]; exact hb2)
    have HQ := Lib.hid (HQ.out.kept hk2 (fun hf => by have h1 : g1 + 1 = g1 := hf; omega))
    have HK := Lib.hid (HK.out.fresh hk2 (fun i hi => by have h1 := HW.out; have h2 : i = g1 := hi; omega))
    clear hb2 hk2 hz2 c1 c2
    go_wp2_with (first
      | (refine wpList_ld rfl _ (.tmp 1) rfl g1 0 rfl (bkl (clB ⟨r, b, l, a⟩)) HP.out.all _ Tryd.underlying29 rfl (infBr _) ?_; simp only [Act.put, List.setIfInBounds_toArray, List.set_cons_succ, List.set_cons_zero])
      | (refine wpList_st rfl 29 (.tmp 2) _ rfl (g1 + 1) 0 rfl (bkl (clB ⟨r, b, l, a⟩)) _ rfl rfl (infBr _) 29 _ HQ.out (by show 0 + 4 ≤ 4; decide) (bkl_one _) ?_; intro w5 hb5 hk5 hz5; simp only [Act.put, List.setIfInBounds_toArray, List.set_cons_succ, List.set_cons_zero])
      | fail)
    have hQ : KR w5 (g1 + 1) (clB ⟨r, b, l, a⟩) := hb5
    refine bodyPost_ret (res_cell0 Tryd.results21 rfl hQ.all Tryd.underlying29 rfl (infBr _)) rfl ⟨rfl, ?_⟩
    exact HK.out.fresh hk5 (fun i hi => by have h1 := HW.out; have h2 : i = g1 + 1 := hi; omega)
  · rw [decide_eq_false hlt] at hgt
    rw [Nat.min_eq_left (Nat.not_lt.1 hlt)] at HCD
    clear hlt
    go_upto_region 6 with (fail)
    have HP := Lib.hid (show KR w2 g1 (clB ⟨r, b, l, a⟩) by rw [HCD.out]; exact HP.out)
    clear c1 c2
    go_wp2_with (first
      | (refine wpList_ld rfl _ (.tmp 1) rfl g1 0 rfl (bkl (clB ⟨r, b, l, a⟩)) HP.out.all _ Tryd.underlying29 rfl (infBr _) ?_; simp only [Act.put, List.setIfInBounds_toArray, List.set_cons_succ, List.set_cons_zero])
      | (refine wpList_st rfl 29 (.tmp 2) _ rfl (g1 + 1) 0 rfl (bkl (clB ⟨r, b, l, a⟩)) _ rfl rfl (infBr _) 29 _ HQ.out (by show 0 + 4 ≤ 4; decide) (bkl_one _) ?_; intro w5 hb5 hk5 hz5; simp only [Act.put, List.setIfInBounds_toArray, List.set_cons_succ, List.set_cons_zero])
      | fail)
    have hQ : KR w5 (g1 + 1) (clB ⟨r, b, l, a⟩) := hb5
    refine bodyPost_ret (res_cell0 Tryd.results21 rfl hQ.all Tryd.underlying29 rfl (infBr _)) rfl ⟨rfl, ?_⟩
    exact HK.out.fresh hk5 (fun i hi => by have h1 := HW.out; have h2 : i = g1 + 1 := hi; omega)
set_option maxRecDepth 100000 in
theorem rnew_yes (r b : Nat) (t : Int) (hr : r < 18446744073709551616) (hb : b < 18446744073709551616) (ht : -9223372036854775808 ≤ t ∧ t ≤ 9223372036854775807) (w : World) : Calls Tryd.prog 8 #[.float .f64 r, .float .f64 b, .int .i64 t] w fun e w' => e = .returned (bkv (clB ⟨r, b, b, t⟩)) ∧ Kept Nil w w' := by
  have hP : KR (w.alloc (.cells (bkl Bk.zero).toArray 29)) w.heap.size Bk.zero := Blo.new w _ _
  have hk0 := (Kept.refl Nil w).alloc (.cells (bkl Bk.zero).toArray 29)
  have HOK := Lib.hid (show (⟨r, b, b, t⟩ : Bk).ok from ⟨hr, hb, hb, ht⟩)
  clear hr hb ht
  go_enter Tryd.func8, Tryd.ntmps8
  go_upto_region 1 with (fail)
  refine wp_nameE (fun W => KR W w.heap.size Bk.zero ∧ Kept Nil w W) ⟨hP, hk0⟩ ?_
  clear hP hk0
  rintro W ⟨hP, hk⟩
  obtain ⟨g1, hg1⟩ : ∃ g, w.heap.size = g := ⟨_, rfl⟩
  rw [hg1] at hP ⊢
  have HW := Lib.hid (show w.heap.size ≤ g1 by omega)
  have HP := Lib.hid hP
  have HK := Lib.hid hk
  clear hP hk hg1
  go_wp2_with (fail)
  refine (rcl_yes ⟨r, b, b, t⟩ HOK.out _).mono ?_
  rintro e w2 ⟨rfl, hk⟩
  have HP := Lib.hid (HP.out.kept hk (fun hf => hf))
  have HK := Lib.hid (HK.out.then hk)
  clear hk
  dsimp only
  go_wp2_with (first
    | (refine wpList_st rfl 29 (.tmp 6) _ rfl g1 0 rfl (bkl (clB ⟨r, b, b, t⟩)) _ rfl rfl (infBr _) 29 _ HP.out (by show 0 + 4 ≤ 4; decide) (bkl_one _) ?_; intro w5 hb5 hk5 hz5; simp only [Act.put, List.setIfInBounds_toArray, List.set_cons_succ, List.set_cons_zero])
    | fail)
  have hQ : KR w5 g1 (clB ⟨r, b, b, t⟩) := hb5
  refine bodyPost_ret (res_cell0 Tryd.results8 rfl hQ.all Tryd.underlying29 rfl (infBr _)) rfl ⟨rfl, ?_⟩
  exact HK.out.fresh hk5 (fun i hi => by have h1 := HW.out; have h2 : i = g1 := hi; omega)
end Go.Proofs.YtiehmpiaddjhiaaDoor
