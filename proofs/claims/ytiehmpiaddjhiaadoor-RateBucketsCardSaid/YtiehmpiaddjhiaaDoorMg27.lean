/- Texts that belong together, one behind the other: RaV, RaW. Conditions: those of each. -/
import Derived.Test.YtiehmpiaddjhiaaDoorMg26
/- Package tolllaw11: wakes. -/
namespace Go.Proofs.YtiehmpiaddjhiaaDoor
open Go.RowKit Go.Sort
set_option linter.unusedVariables false

instance : DecidableEq Bk := fun x y => decidable_of_iff (x.r = y.r ∧ x.b = y.b ∧ x.l = y.l ∧ x.a = y.a) ⟨fun ⟨h1, h2, h3, h4⟩ => by cases x; cases y; simp_all, fun h => by subst h; exact ⟨rfl, rfl, rfl, rfl⟩⟩
def wA0 : Bk := ⟨4602678819172646912, 4611686018427387904, 4611686018427387904, 0⟩
def wA1 : Bk := ⟨4602678819172646912, 4611686018427387904, 0, 0⟩
def wA2 : Bk := ⟨4602678819172646912, 4611686018427387904, 4602678819172646912, 1⟩
def wA3 : Bk := ⟨4602678819172646912, 4611686018427387904, 0, 2⟩
def wB0 : Bk := ⟨9218868437227405312, 4613937818241073152, 4613937818241073152, 0⟩
def wB1 : Bk := ⟨9218868437227405312, 4613937818241073152, 0, 0⟩
def wB2 : Bk := ⟨9218868437227405312, 4613937818241073152, 0, 1⟩
def TakeS (m m' : Bk) (now : Int) (n : Nat) (r : Bool) : Prop := ∀ (g : Nat) (w : World), KB w g m → Calls Tryd.prog 9 #[.pointer (some ⟨g, 0, none⟩), .int .i64 now, .float .f64 n] w fun e w' => e = .returned (.bool r) ∧ KB w' g m' ∧ Kept (One g) w w'
theorem take_c (m m' : Bk) (now : Int) (n s : Nat) (r : Bool) (hm : m.ok) (hn : -9223372036854775808 ≤ now ∧ now ≤ 9223372036854775807) (hn64 : n < 18446744073709551616)
    (hs : ((brM m now).l < clF n ∨ Ieee.double.sub (brM m now).l (clF n) = some s)) (hr : (!decide ((brM m now).l < clF n)) = r) (hm' : tkM m now n s = m') : TakeS m m' now n r := by
  intro g w hb
  subst hr hm'
  exact take_yes g m hm now hn n s hn64 (fun h1 h2 => hs.elim (fun h => absurd h h1) id) w hb
theorem wA0_cl : clB wA0 = wA0 := by decide +kernel
theorem wB0_cl : clB wB0 = wB0 := by decide +kernel
theorem okA0 : wA0.ok := ⟨by decide, by decide, by decide, by decide⟩
theorem okA1 : wA1.ok := ⟨by decide, by decide, by decide, by decide⟩
theorem okA2 : wA2.ok := ⟨by decide, by decide, by decide, by decide⟩
theorem okA3 : wA3.ok := ⟨by decide, by decide, by decide, by decide⟩
theorem okB0 : wB0.ok := ⟨by decide, by decide, by decide, by decide⟩
theorem okB1 : wB1.ok := ⟨by decide, by decide, by decide, by decide⟩
theorem tA1 : TakeS wA0 wA1 0 4611686018427387904 true := take_c wA0 wA1 0 4611686018427387904 0 true okA0 (by decide) (by decide) (by decide +kernel) (by decide +kernel) (by decide +kernel)
theorem tA2 : TakeS wA1 wA2 1 4607182418800017408 false := take_c wA1 wA2 1 4607182418800017408 0 false okA1 (by decide) (by decide) (by decide +kernel) (by decide +kernel) (by decide +kernel)
theorem tA3 : TakeS wA2 wA3 2 4607182418800017408 true := take_c wA2 wA3 2 4607182418800017408 0 true okA2 (by decide) (by decide) (by decide +kernel) (by decide +kernel) (by decide +kernel)
theorem tB1 : TakeS wB0 wB1 0 4613937818241073152 true := take_c wB0 wB1 0 4613937818241073152 0 true okB0 (by decide) (by decide) (by decide +kernel) (by decide +kernel) (by decide +kernel)
theorem tB2 : TakeS wB1 wB1 0 4607182418800017408 false := take_c wB1 wB1 0 4607182418800017408 0 false okB1 (by decide) (by decide) (by decide +kernel) (by decide +kernel) (by decide +kernel)
theorem tB3 : TakeS wB1 wB2 1 4613937818241073152 true := take_c wB1 wB2 1 4613937818241073152 0 true okB1 (by decide) (by decide) (by decide +kernel) (by decide +kernel) (by decide +kernel)
theorem wai4 : lsM (isSo (clB wA3) (clF 4611686018427387904)) 41 0 1099511627777 = 4 := by decide +kernel
theorem tW (g : Nat) (w : World) (hb : KB w g wA3) : Calls Tryd.prog 14 #[.pointer (some ⟨g, 0, none⟩), .float .f64 4611686018427387904] w fun e w' => e = .returned (.tuple #[.int .i64 4, .bool true]) ∧ Kept Nil w w' := by
  have := wait_yes g wA3 okA3 4611686018427387904 (by decide) w hb
  rw [wai4] at this
  exact this
end Go.Proofs.YtiehmpiaddjhiaaDoor
/- Package tolllaw11: wakes. -/
namespace Go.Proofs.YtiehmpiaddjhiaaDoor
open Go.RowKit Go.Sort
set_option linter.unusedVariables false

structure GlR (w : World) : Prop where
  f : GlF w
  inf : w.cell? ⟨1, 0, none⟩ = some (.float .f64 9218868437227405312)
theorem GlR.kept {w w' : World} (h : GlR w) (k : Kept Nil w w') : GlR w' := ⟨h.f.kept k, k.cell h.inf (fun hf => hf)⟩
theorem newA (w : World) : Calls Tryd.prog 6 #[.float .f64 4602678819172646912, .float .f64 4611686018427387904, .int .i64 0] w fun e w' => e = .returned (bkv wA0) ∧ Kept Nil w w' := by
  have := bnew_yes 4602678819172646912 4611686018427387904 0 (by decide) (by decide) (by decide) w
  rw [show clB ⟨4602678819172646912, 4611686018427387904, 4611686018427387904, 0⟩ = wA0 from wA0_cl] at this
  exact this
theorem newB (w : World) : Calls Tryd.prog 6 #[.float .f64 9218868437227405312, .float .f64 4613937818241073152, .int .i64 0] w fun e w' => e = .returned (bkv wB0) ∧ Kept Nil w w' := by
  have := bnew_yes 9218868437227405312 4613937818241073152 0 (by decide) (by decide) (by decide) w
  rw [show clB ⟨9218868437227405312, 4613937818241073152, 4613937818241073152, 0⟩ = wB0 from wB0_cl] at this
  exact this
theorem lessA (w : World) : Calls Tryd.prog 31 #[.float .f64 9218868437227405312, .float .f64 9221120237041090561] w fun e w' => e = .returned (.bool true) ∧ Kept Nil w w' := by
  have := fless_yes 9218868437227405312 9221120237041090561 (by decide) (by decide) w
  rw [show decide (KF 9218868437227405312 < KF 9221120237041090561) = true by decide +kernel] at this
  exact this
theorem lessB (w : World) : Calls Tryd.prog 31 #[.float .f64 9221120237041090561, .float .f64 9221120237041090561] w fun e w' => e = .returned (.bool false) ∧ Kept Nil w w' := by
  have := fless_yes 9221120237041090561 9221120237041090561 (by decide) (by decide) w
  rw [show decide (KF 9221120237041090561 < KF 9221120237041090561) = false by decide +kernel] at this
  exact this
theorem sameA (w : World) : Calls Tryd.prog 33 #[.float .f64 9223372036854775808, .float .f64 0] w fun e w' => e = .returned (.bool true) ∧ Kept Nil w w' := by
  have := fsame_yes 9223372036854775808 0 (by decide) (by decide) w
  rw [show decide (KF 9223372036854775808 = KF 0) = true by decide +kernel] at this
  exact this
set_option maxRecDepth 100000 in
set_option maxHeartbeats 8000000 in
theorem wakes_yes (w : World) (hg : GlR w) : Calls Tryd.prog 17 #[] w fun e w' => e = .returned (.bool true) ∧ Kept Nil w w' := by
  have HG := Lib.hid hg
  clear hg
  go_enter Tryd.func17, Tryd.ntmps17
  go_upto_region 1 with (fail)
  refine wp_region_acts Nil [] (fun i vl => ((bkl zBk).toArray, 26)) (fun i => if i = 0 then bkv wA0 else bkv wB0) (fun _ _ _ => True) (fun _ _ => True) 5 (by kernel_rfl) (by kernel_rfl) ⟨fun _ _ _ _ h _ => h, fun _ _ _ _ h => h⟩ trivial ?_
  simp only [List.take_succ_cons, List.take_zero, List.drop_succ_cons, List.drop_zero]
  refine tLex_quiets 3 rfl (by kernel_rfl) ?_
  simp only [List.take_succ_cons, List.take_zero, List.drop_succ_cons, List.drop_zero]
  apply Exists.intro
  refine ⟨?hq1, ?hv1, ?ht1⟩
  case hq1 =>
    intro V hV
    have hcc := fun d os => (HG.out.kept (hV.trans (kept_grown' V d os) (fun _ _ hf => hf))).inf
    clear hV
    go_big_quiet_step (exact quietK (newA _))
    go_big_quiet_step (fail)
    go_big_quiet_step (exact quietK (newB _))
    exact wpQuiet_nil rfl
  case hv1 => exact ⟨rfl, trivial, rfl, trivial⟩
  case ht1 =>
    refine tLex_make ((bkl zBk).toArray, 26) rfl rfl rfl rfl (fun u => ?hm2) ?_
    case hm2 =>
      unfold execOp
      simp only [mkVal, Sem.run_bind, Sem.run_pure, al_bk, Result.andThen_ok]
    intro g1 hg1 hL1
    simp only [Act.put, mkVal, List.setIfInBounds_toArray, List.set_cons_succ, List.set_cons_zero]
    refine tLex_make ((bkl zBk).toArray, 26) rfl rfl rfl rfl (fun u => ?hm3) ?_
    case hm3 =>
      unfold execOp
      simp only [mkVal, Sem.run_bind, Sem.run_pure, al_bk, Result.andThen_ok]
    intro g2 hg2 hL2
    simp only [Act.put, mkVal, List.setIfInBounds_toArray, List.set_cons_succ, List.set_cons_zero]
    intro w6 hs
    have hne : g1 ≠ g2 := fun e => by
      rw [← e, mput_same] at hL2
      cases hL2
    have HNE := Lib.hid hne
    have HB1 := Lib.hid (show KB w6 g1 zBk from (hs.made g1 ((bkl zBk).toArray, 26) (by rw [mput_ne _ _ hne]; exact mput_same _ _ _)).2)
    have HB2 := Lib.hid (show KB w6 g2 zBk from (hs.made g2 _ (mput_same _ _ _)).2)
    have HK6 := Lib.hid hs.kept
    have HG1 := Lib.hid hg1
    have HG2 := Lib.hid hg2
    clear hs hg1 hg2 hL1 hL2 hne
    go_upto_region 2 with (first
      | (refine wpList_st rfl 26 (.tmp 1) _ rfl g1 0 rfl (bkl wA0) _ rfl rfl (infBk _) 26 _ HB1.out (by show 0 + 4 ≤ 4; decide) (bkl_one _) ?_; intro w7 hb7 hk7 hz7; simp only [Act.put, List.setIfInBounds_toArray, List.set_cons_succ, List.set_cons_zero]; have HB27 := Lib.hid (HB2.out.kept hk7 (fun hf => HNE.out (Eq.symm hf))))
      | (refine wpList_st rfl 26 (.tmp 2) _ rfl g2 0 rfl (bkl wB0) _ rfl rfl (infBk _) 26 _ HB27.out (by show 0 + 4 ≤ 4; decide) (bkl_one _) ?_; intro w8 hb8 hk8 hz8; simp only [Act.put, List.setIfInBounds_toArray, List.set_cons_succ, List.set_cons_zero])
      | fail)
    have HA := Lib.hid (show KB w8 g1 wA0 from KB.kept (m := wA0) hb7 hk8 (fun hf => HNE.out hf))
    have HB := Lib.hid (show KB w8 g2 wB0 from hb8)
    have HK := Lib.hid ((HK6.out.fresh hk7 (fun i hi => by have h1 := HG1.out; have h2 : i = g1 := hi; omega)).fresh hk8 (fun i hi => by have h1 := HG2.out; have h2 : i = g2 := hi; omega))
    clear hb7 hb8 hk7 hk8 hz7 hz8 HB1 HB2 HB27 HK6
    go_wp2_with (fail)
    refine (tA1 g1 _ HA.out).mono ?_
    rintro e w9 ⟨rfl, hb, hk⟩
    have HA := Lib.hid hb
    have HB := Lib.hid (HB.out.kept hk (fun hf => HNE.out (Eq.symm hf)))
    have HK := Lib.hid (HK.out.fresh hk (fun i hi => by have h1 := HG1.out; have h2 : i = g1 := hi; omega))
    clear hb hk
    dsimp only
    go_wp2_with (fail)
    refine (tA2 g1 _ HA.out).mono ?_
    rintro e w9 ⟨rfl, hb, hk⟩
    have HB := Lib.hid (HB.out.kept hk (fun hf => HNE.out (Eq.symm hf)))
    have HA := Lib.hid hb
    have HK := Lib.hid (HK.out.fresh hk (fun i hi => by have h1 := HG1.out; have h2 : i = g1 := hi; omega))
    clear hb hk
    dsimp only
    go_wp2_with (fail)
    refine (tA3 g1 _ HA.out).mono ?_
    rintro e w9 ⟨rfl, hb, hk⟩
    have HB := Lib.hid (HB.out.kept hk (fun hf => HNE.out (Eq.symm hf)))
    have HA := Lib.hid hb
    have HK := Lib.hid (HK.out.fresh hk (fun i hi => by have h1 := HG1.out; have h2 : i = g1 := hi; omega))
    clear hb hk
    dsimp only
    go_wp2_with (fail)
    refine (tW g1 _ HA.out).mono ?_
    rintro e w9 ⟨rfl, hk⟩
    have HA := Lib.hid (HA.out.kept hk (fun hf => hf))
    have HB := Lib.hid (HB.out.kept hk (fun hf => hf))
    have HK := Lib.hid (HK.out.then hk)
    clear hk
    dsimp only
    go_wp2_with (fail)
    refine (tB1 g2 _ HB.out).mono ?_
    rintro e w9 ⟨rfl, hb, hk⟩
    have HA := Lib.hid (HA.out.kept hk (fun hf => HNE.out (hf)))
    have HB := Lib.hid hb
    have HK := Lib.hid (HK.out.fresh hk (fun i hi => by have h1 := HG2.out; have h2 : i = g2 := hi; omega))
    clear hb hk
    dsimp only
    go_wp2_with (fail)
    refine (tB2 g2 _ HB.out).mono ?_
    rintro e w9 ⟨rfl, hb, hk⟩
    have HA := Lib.hid (HA.out.kept hk (fun hf => HNE.out (hf)))
    have HB := Lib.hid hb
    have HK := Lib.hid (HK.out.fresh hk (fun i hi => by have h1 := HG2.out; have h2 : i = g2 := hi; omega))
    clear hb hk
    dsimp only
    go_wp2_with (fail)
    refine (tB3 g2 _ HB.out).mono ?_
    rintro e w9 ⟨rfl, hb, hk⟩
    have HA := Lib.hid (HA.out.kept hk (fun hf => HNE.out (hf)))
    have HB := Lib.hid hb
    have HK := Lib.hid (HK.out.fresh hk (fun i hi => by have h1 := HG2.out; have h2 : i = g2 := hi; omega))
    clear hb hk
    dsimp only
    go_upto_region 5 with (fail)
    have HGL := Lib.hid (HG.out.kept HK.out)
    have hcc := fun d os => (HGL.out.kept (kept_grown' w9 d os)).inf
    have hs1 : ∀ (t : TypeId) (u : World), (binOp .eql t (.string ⟨#[48, 46, 49]⟩) (.string ⟨#[48, 46, 49]⟩)).run Tryd.prog u = .ok (.bool true) u := fun t u => by kernel_rfl
    have hs2 : ∀ (t : TypeId) (u : World), (binOp .eql t (.string ⟨#[48]⟩) (.string ⟨#[48]⟩)).run Tryd.prog u = .ok (.bool true) u := fun t u => by kernel_rfl
    have hs3 : ∀ (t : TypeId) (u : World), (binOp .eql t (.string ⟨#[49, 48, 48, 48, 48, 48, 48, 48, 48, 48, 48, 48, 48, 48, 48, 48, 48, 48, 48, 48, 48, 48]⟩) (.string ⟨#[49, 48, 48, 48, 48, 48, 48, 48, 48, 48, 48, 48, 48, 48, 48, 48, 48, 48, 48, 48, 48, 48]⟩)).run Tryd.prog u = .ok (.bool true) u := fun t u => by kernel_rfl
    refine wp_region_quiet_below (by kernel_rfl) (by kernel_rfl) ?_
    go_big_quiet_step (fail)
    go_big_quiet_step (exact quietK (fnan_yes _))
    go_big_quiet_step (exact quietK (lessA _))
    go_big_quiet_step (fail)
    go_big_quiet_step (exact quietK (cs_yes _))
    go_big_quiet_step (exact quietK (sameA _))
    go_big_quiet_step (fail)
    go_big_quiet_step (fail)
    go_big_quiet_step (exact quietK (fnan_yes _))
    go_big_quiet_step (exact quietK (fnan_yes _))
    go_big_quiet_step (exact quietK (lessB _))
    go_big_quiet_step (fail)
    go_big_quiet_step (fail)
    go_big_quiet_step (fail)
    go_big_quiet_step (exact quietK (text_a _ (HGL.out.kept (kept_grown' _ _ _)).f))
    go_big_quiet_step (fail)
    go_big_quiet_step (fail)
    go_big_quiet_step (fail)
    go_big_quiet_step (exact quietK (fnan_yes _))
    go_big_quiet_step (exact quietK (text_z _ (HGL.out.kept (kept_grown' _ _ _)).f))
    go_big_quiet_step (fail)
    go_big_quiet_step (fail)
    go_big_quiet_step (fail)
    go_big_quiet_step (exact quietK (text_b _ (HGL.out.kept (kept_grown' _ _ _)).f))
    go_big_quiet_step (fail)
    go_big_quiet_step (fail)
    go_big_quiet_step (fail)
    go_big_quiet_step (fail)
    go_big_quiet_step (fail)
    go_big_quiet_step (fail)
    go_big_quiet_step (fail)
    go_big_quiet_step (fail)
    go_big_quiet_step (fail)
    go_big_quiet_step (fail)
    go_big_quiet_step (fail)
    go_big_quiet_step (fail)
    go_big_quiet_step (fail)
    go_big_quiet_step (fail)
    go_big_quiet_step (fail)
    go_big_quiet_step (fail)
    refine wpQuiet_nil ?_
    rintro u ⟨nq, hw⟩
    have HK := Lib.hid (HK.out.then (show Kept Nil _ u by rw [hw]; exact kept_grown _ _))
    clear hw hcc hs1 hs2 hs3
    go_wp2_with (fail)
    go_ret
    exact ⟨rfl, HK.out⟩
end Go.Proofs.YtiehmpiaddjhiaaDoor
