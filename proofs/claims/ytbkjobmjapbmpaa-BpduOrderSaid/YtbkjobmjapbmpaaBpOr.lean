/- tolllaw10.BpduOrder: the walk. -/
import Derived.Test.YtbkjobmjapbmpaaBpF
import Derived.Test.YtbkjobmjapbmpaaBpO
namespace Go.Proofs.Ytbkjobmjapbmpaa
open Go.RowKit Go.Sort
set_option linter.unusedVariables false

set_option maxRecDepth 100000 in
set_option maxHeartbeats 16000000 in
theorem border_yes (a b c : Bp) (w : World) (hoa : a.ok) (hob : b.ok) (hoc : c.ok) : Calls Try.prog 6 #[bpv a, bpv b, bpv c] w fun e w' => e = .returned (.bool true) ∧ Below w.heap.size w w' := by
  have hA := ((BPB.new w 26 a).kept ((Kept.refl Nil _).alloc (.cells (bpl b).toArray 26)) (fun hf => hf)).kept ((Kept.refl Nil _).alloc (.cells (bpl c).toArray 26)) (fun hf => hf)
  have hB := (BPB.new (w.alloc (.cells (bpl a).toArray 26)) 26 b).kept ((Kept.refl Nil _).alloc (.cells (bpl c).toArray 26)) (fun hf => hf)
  have hC := BPB.new ((w.alloc (.cells (bpl a).toArray 26)).alloc (.cells (bpl b).toArray 26)) 26 c
  simp only [World.size_alloc] at hB hC
  have HOA := Lib.hid hoa
  have HOB := Lib.hid hob
  have hab := sgn_cmp a b hoa hob
  have hbc := sgn_cmp b c hob hoc
  have hac := sgn_cmp a c hoa hoc
  have hba := sgn_cmp b a hob hoa
  have haa : cmpB a a = 0 := by rw [cmp_key a a hoa hoa]; unfold cmp1; rw [if_neg (Nat.lt_irrefl _), if_neg (Nat.lt_irrefl _)]
  have hpath := ord3 (keyB (cpdB a)) (keyB (cpdB b)) (keyB (cpdB c))
  have hux := cmp1_turn (keyB (cpdB a)) (keyB (cpdB b))
  have hx := cmp1_cases (keyB (cpdB a)) (keyB (cpdB b))
  rw [← hab, ← hbc, ← hac] at hpath
  rw [← hab, ← hba] at hux
  rw [← hab] at hx
  have hro : a.kd ≠ 2 → b.kd ≠ 2 → a.ro ≠ b.ro → decide (a.ro < b.ro) = decide (sgn (cmpB a b) < 0) := by
    intro h1 h2 h3
    have e1 : cpdB a = a := by unfold cpdB; rw [if_neg h1]
    have e2 : cpdB b = b := by unfold cpdB; rw [if_neg h2]
    rw [e1, e2] at hx
    rcases Nat.lt_or_gt_of_ne h3 with h | h
    · have := key_ro a b hoa hob h
      rw [decide_eq_true h, decide_eq_true (by omega)]
    · have := key_ro b a hob hoa h
      rw [decide_eq_false (by omega), decide_eq_false (by omega)]
  have hco : a.kd ≠ 2 → b.kd ≠ 2 → a.ro = b.ro → a.co ≠ b.co → decide (a.co < b.co) = decide (sgn (cmpB a b) < 0) := by
    intro h1 h2 h3 h4
    have e1 : cpdB a = a := by unfold cpdB; rw [if_neg h1]
    have e2 : cpdB b = b := by unfold cpdB; rw [if_neg h2]
    rw [e1, e2] at hx
    rcases Nat.lt_or_gt_of_ne h4 with h | h
    · have := key_co a b hoa hob h3 h
      rw [decide_eq_true h, decide_eq_true (by omega)]
    · have := key_co b a hob hoa h3.symm h
      rw [decide_eq_false (by omega), decide_eq_false (by omega)]
  obtain ⟨X, hX⟩ : ∃ x, sgn (cmpB a b) = x := ⟨_, rfl⟩
  obtain ⟨Y, hY⟩ : ∃ x, sgn (cmpB b c) = x := ⟨_, rfl⟩
  obtain ⟨Z, hZ⟩ : ∃ x, sgn (cmpB a c) = x := ⟨_, rfl⟩
  rw [hX] at hx hro hco
  rw [hX] at hux
  rw [hX, hY, hZ] at hpath
  have HX := Lib.hid hX
  have HY := Lib.hid hY
  have HZ := Lib.hid hZ
  have HU := Lib.hid hux
  have HAA := Lib.hid haa
  have HRO := Lib.hid hro
  have HCO := Lib.hid hco
  have HPA := Lib.hid hpath
  clear hX hY hZ hux haa hro hco hpath hx hab hbc hac hba hoa hob hoc
  go_enter Try.func6, Try.ntmps6
  go_upto_region 1 with (fail)
  refine wp_nameE (fun W => BPB W w.heap.size 26 a ∧ BPB W (w.heap.size + 1) 26 b ∧ BPB W (w.heap.size + 1 + 1) 26 c ∧ Kept Nil w W) ⟨hA, hB, hC, (((Kept.refl Nil w).alloc _).alloc _).alloc _⟩ ?_
  clear hA hB hC
  rintro W ⟨hA, hB, hC, hk⟩
  have GA := Lib.hid hA
  have GB := Lib.hid hB
  have GC := Lib.hid hC
  have HK := Lib.hid hk
  clear hA hB hC hk
  obtain ⟨g0, hg0⟩ : ∃ g, w.heap.size = g := ⟨_, rfl⟩
  obtain ⟨g1, hg1⟩ : ∃ g, g0 + 1 = g := ⟨_, rfl⟩
  obtain ⟨g2, hg2⟩ : ∃ g, g1 + 1 = g := ⟨_, rfl⟩
  rw [hg0] at GA GB GC ⊢
  rw [hg1] at GB GC ⊢
  rw [hg2] at GC ⊢
  have HG0 := Lib.hid hg0
  clear hg0 hg1 hg2
  refine wp_region_quiet_below (by kernel_rfl) (by kernel_rfl) ?_
  refine wpQuiet_ld rfl _ _ rfl g0 0 rfl (bpl a) (fun w1 hw => row_grown GA.out.all hw) _ Try.underlying26 rfl (infBp _) ?_; simp only [Act.put, List.setIfInBounds_toArray, List.set_cons_succ, List.set_cons_zero]
  refine wpQuiet_ld rfl _ _ rfl g1 0 rfl (bpl b) (fun w1 hw => row_grown GB.out.all hw) _ Try.underlying26 rfl (infBp _) ?_; simp only [Act.put, List.setIfInBounds_toArray, List.set_cons_succ, List.set_cons_zero]
  go_big_quiet_step (exact quietK (compare_yes a b _))
  go_big_quiet_step (exact quietK (sign_yes _ _))
  refine wpQuiet_ld rfl _ _ rfl g1 0 rfl (bpl b) (fun w1 hw => row_grown GB.out.all hw) _ Try.underlying26 rfl (infBp _) ?_; simp only [Act.put, List.setIfInBounds_toArray, List.set_cons_succ, List.set_cons_zero]
  refine wpQuiet_ld rfl _ _ rfl g2 0 rfl (bpl c) (fun w1 hw => row_grown GC.out.all hw) _ Try.underlying26 rfl (infBp _) ?_; simp only [Act.put, List.setIfInBounds_toArray, List.set_cons_succ, List.set_cons_zero]
  go_big_quiet_step (exact quietK (compare_yes b c _))
  go_big_quiet_step (exact quietK (sign_yes _ _))
  refine wpQuiet_ld rfl _ _ rfl g0 0 rfl (bpl a) (fun w1 hw => row_grown GA.out.all hw) _ Try.underlying26 rfl (infBp _) ?_; simp only [Act.put, List.setIfInBounds_toArray, List.set_cons_succ, List.set_cons_zero]
  refine wpQuiet_ld rfl _ _ rfl g2 0 rfl (bpl c) (fun w1 hw => row_grown GC.out.all hw) _ Try.underlying26 rfl (infBp _) ?_; simp only [Act.put, List.setIfInBounds_toArray, List.set_cons_succ, List.set_cons_zero]
  go_big_quiet_step (exact quietK (compare_yes a c _))
  go_big_quiet_step (exact quietK (sign_yes _ _))
  repeat (go_big_quiet_step (fail))
  refine wpQuiet_nil ?_
  rintro u ⟨nq, hw⟩
  have hkz : Kept Nil W u := by rw [hw]; exact kept_grown _ _
  have GA := Lib.hid (GA.out.kept hkz (fun hf => hf))
  have GB := Lib.hid (GB.out.kept hkz (fun hf => hf))
  have HK := Lib.hid (HK.out.then hkz)
  clear hw hkz GC
  rw [HX.out, HY.out, HZ.out]
  go_wp2_with (first
    | (refine wpList_ld rfl _ _ rfl g0 0 rfl (bpl a) GA.out.all _ Try.underlying26 rfl (infBp _) ?_)
    | (refine wpList_ld rfl _ _ rfl g1 0 rfl (bpl b) GB.out.all _ Try.underlying26 rfl (infBp _) ?_)
    | fail)
  refine (compare_yes b a _).mono ?_
  rintro e u1 ⟨rfl, hk1⟩
  have GA := Lib.hid (GA.out.kept hk1 (fun hf => hf))
  have GB := Lib.hid (GB.out.kept hk1 (fun hf => hf))
  have HK := Lib.hid (HK.out.then hk1)
  clear hk1
  dsimp only
  go_wp2_with (fail)
  refine (sign_yes _ _).mono ?_
  rintro e u2 ⟨rfl, hk1⟩
  have GA := Lib.hid (GA.out.kept hk1 (fun hf => hf))
  have GB := Lib.hid (GB.out.kept hk1 (fun hf => hf))
  have HK := Lib.hid (HK.out.then hk1)
  clear hk1
  dsimp only
  rw [HU.out]
  rcases HPA.out with rfl | ⟨rfl, rfl⟩ | ⟨rfl, rfl, z1⟩ | ⟨rfl, rfl, z1, z2⟩ | ⟨rfl, rfl⟩ | ⟨rfl, y0, y1, z1, z2⟩

  · go_wp2_with (first
      | (refine wpList_ld rfl _ _ rfl g0 0 rfl (bpl a) GA.out.all _ Try.underlying26 rfl (infBp _) ?_)
      | fail)
    refine (compare_yes a a _).mono ?_
    rintro e u3 ⟨rfl, hk1⟩
    have GA := Lib.hid (GA.out.kept hk1 (fun hf => hf))
    have GB := Lib.hid (GB.out.kept hk1 (fun hf => hf))
    have HK := Lib.hid (HK.out.then hk1)
    clear hk1
    dsimp only
    rw [HAA.out]
    go_upto_region 4 with (fail)
    have a0 := GA.out.c0
    have b0 := GB.out.c0
    by_cases ha : a.kd = 2
    · have ba : (a.kd == 2) = true := by simp [ha]
      go_wp2_with (fail)
      refine (rows_yes _).mono ?_
      rintro e u4 ⟨rfl, hk1⟩
      have HK := Lib.hid (HK.out.then hk1)
      clear hk1
      dsimp only
      go_wp2
      go_ret
      exact ⟨rfl, HK.out.below (Nat.le_refl _) (fun _ hf => hf.elim)⟩
    · have ba : (a.kd == 2) = false := by simp [ha]
      by_cases hb : b.kd = 2
      · have bb : (b.kd == 2) = true := by simp [hb]
        go_wp2_with (fail)
        refine (rows_yes _).mono ?_
        rintro e u4 ⟨rfl, hk1⟩
        have HK := Lib.hid (HK.out.then hk1)
        clear hk1
        dsimp only
        go_wp2
        go_ret
        exact ⟨rfl, HK.out.below (Nat.le_refl _) (fun _ hf => hf.elim)⟩
      · have bb : (b.kd == 2) = false := by simp [hb]
        go_upto_region 6 with (fail)
        have a2 := GA.out.c2
        have b2 := GB.out.c2
        have a4 := GA.out.c4
        have b4 := GB.out.c4
        clear a0 b0
        by_cases hr : a.ro = b.ro
        · have br : ((a.ro : Int) != (b.ro : Int)) = false := by simp [hr]
          by_cases hc : a.co = b.co
          · have bc : ((a.co : Int) == (b.co : Int)) = true := by simp [hc]
            go_wp2_with (fail)
            refine (rows_yes _).mono ?_
            rintro e u4 ⟨rfl, hk1⟩
            have HK := Lib.hid (HK.out.then hk1)
            clear hk1
            dsimp only
            go_wp2
            go_ret
            exact ⟨rfl, HK.out.below (Nat.le_refl _) (fun _ hf => hf.elim)⟩
          · have bc : ((a.co : Int) == (b.co : Int)) = false := by simp; omega
            have hl : ¬ a.co < b.co := by have := HCO.out ha hb hr hc; simpa using this
            have hl2 : decide ((a.co : Int) < (b.co : Int)) = false := by simp; omega
            go_wp2_with (fail)
            refine (rows_yes _).mono ?_
            rintro e u4 ⟨rfl, hk1⟩
            have HK := Lib.hid (HK.out.then hk1)
            clear hk1
            dsimp only
            go_wp2
            go_ret
            exact ⟨rfl, HK.out.below (Nat.le_refl _) (fun _ hf => hf.elim)⟩
        · have br : ((a.ro : Int) != (b.ro : Int)) = true := by simp; omega
          have hl : ¬ a.ro < b.ro := by have := HRO.out ha hb hr; simpa using this
          have hl2 : decide ((a.ro : Int) < (b.ro : Int)) = false := by simp; omega
          go_wp2_with (fail)
          refine (rows_yes _).mono ?_
          rintro e u4 ⟨rfl, hk1⟩
          have HK := Lib.hid (HK.out.then hk1)
          clear hk1
          dsimp only
          go_wp2
          go_ret
          exact ⟨rfl, HK.out.below (Nat.le_refl _) (fun _ hf => hf.elim)⟩
  · go_wp2_with (first
      | (refine wpList_ld rfl _ _ rfl g0 0 rfl (bpl a) GA.out.all _ Try.underlying26 rfl (infBp _) ?_)
      | fail)
    refine (compare_yes a a _).mono ?_
    rintro e u3 ⟨rfl, hk1⟩
    have GA := Lib.hid (GA.out.kept hk1 (fun hf => hf))
    have GB := Lib.hid (GB.out.kept hk1 (fun hf => hf))
    have HK := Lib.hid (HK.out.then hk1)
    clear hk1
    dsimp only
    rw [HAA.out]
    go_upto_region 4 with (fail)
    have a0 := GA.out.c0
    have b0 := GB.out.c0
    by_cases ha : a.kd = 2
    · have ba : (a.kd == 2) = true := by simp [ha]
      go_wp2_with (fail)
      refine (rows_yes _).mono ?_
      rintro e u4 ⟨rfl, hk1⟩
      have HK := Lib.hid (HK.out.then hk1)
      clear hk1
      dsimp only
      go_wp2
      go_ret
      exact ⟨rfl, HK.out.below (Nat.le_refl _) (fun _ hf => hf.elim)⟩
    · have ba : (a.kd == 2) = false := by simp [ha]
      by_cases hb : b.kd = 2
      · have bb : (b.kd == 2) = true := by simp [hb]
        go_wp2_with (fail)
        refine (rows_yes _).mono ?_
        rintro e u4 ⟨rfl, hk1⟩
        have HK := Lib.hid (HK.out.then hk1)
        clear hk1
        dsimp only
        go_wp2
        go_ret
        exact ⟨rfl, HK.out.below (Nat.le_refl _) (fun _ hf => hf.elim)⟩
      · have bb : (b.kd == 2) = false := by simp [hb]
        go_upto_region 6 with (fail)
        have a2 := GA.out.c2
        have b2 := GB.out.c2
        have a4 := GA.out.c4
        have b4 := GB.out.c4
        clear a0 b0
        by_cases hr : a.ro = b.ro
        · have br : ((a.ro : Int) != (b.ro : Int)) = false := by simp [hr]
          by_cases hc : a.co = b.co
          · have bc : ((a.co : Int) == (b.co : Int)) = true := by simp [hc]
            go_wp2_with (fail)
            refine (rows_yes _).mono ?_
            rintro e u4 ⟨rfl, hk1⟩
            have HK := Lib.hid (HK.out.then hk1)
            clear hk1
            dsimp only
            go_wp2
            go_ret
            exact ⟨rfl, HK.out.below (Nat.le_refl _) (fun _ hf => hf.elim)⟩
          · have bc : ((a.co : Int) == (b.co : Int)) = false := by simp; omega
            have hl : ¬ a.co < b.co := by have := HCO.out ha hb hr hc; simpa using this
            have hl2 : decide ((a.co : Int) < (b.co : Int)) = false := by simp; omega
            go_wp2_with (fail)
            refine (rows_yes _).mono ?_
            rintro e u4 ⟨rfl, hk1⟩
            have HK := Lib.hid (HK.out.then hk1)
            clear hk1
            dsimp only
            go_wp2
            go_ret
            exact ⟨rfl, HK.out.below (Nat.le_refl _) (fun _ hf => hf.elim)⟩
        · have br : ((a.ro : Int) != (b.ro : Int)) = true := by simp; omega
          have hl : ¬ a.ro < b.ro := by have := HRO.out ha hb hr; simpa using this
          have hl2 : decide ((a.ro : Int) < (b.ro : Int)) = false := by simp; omega
          go_wp2_with (fail)
          refine (rows_yes _).mono ?_
          rintro e u4 ⟨rfl, hk1⟩
          have HK := Lib.hid (HK.out.then hk1)
          clear hk1
          dsimp only
          go_wp2
          go_ret
          exact ⟨rfl, HK.out.below (Nat.le_refl _) (fun _ hf => hf.elim)⟩
  · go_wp2_with (first
      | (refine wpList_ld rfl _ _ rfl g0 0 rfl (bpl a) GA.out.all _ Try.underlying26 rfl (infBp _) ?_)
      | fail)
    refine (compare_yes a a _).mono ?_
    rintro e u3 ⟨rfl, hk1⟩
    have GA := Lib.hid (GA.out.kept hk1 (fun hf => hf))
    have GB := Lib.hid (GB.out.kept hk1 (fun hf => hf))
    have HK := Lib.hid (HK.out.then hk1)
    clear hk1
    dsimp only
    rw [HAA.out]
    go_upto_region 4 with (fail)
    have a0 := GA.out.c0
    have b0 := GB.out.c0
    by_cases ha : a.kd = 2
    · have ba : (a.kd == 2) = true := by simp [ha]
      go_wp2_with (fail)
      refine (rows_yes _).mono ?_
      rintro e u4 ⟨rfl, hk1⟩
      have HK := Lib.hid (HK.out.then hk1)
      clear hk1
      dsimp only
      go_wp2
      go_ret
      exact ⟨rfl, HK.out.below (Nat.le_refl _) (fun _ hf => hf.elim)⟩
    · have ba : (a.kd == 2) = false := by simp [ha]
      by_cases hb : b.kd = 2
      · have bb : (b.kd == 2) = true := by simp [hb]
        go_wp2_with (fail)
        refine (rows_yes _).mono ?_
        rintro e u4 ⟨rfl, hk1⟩
        have HK := Lib.hid (HK.out.then hk1)
        clear hk1
        dsimp only
        go_wp2
        go_ret
        exact ⟨rfl, HK.out.below (Nat.le_refl _) (fun _ hf => hf.elim)⟩
      · have bb : (b.kd == 2) = false := by simp [hb]
        go_upto_region 6 with (fail)
        have a2 := GA.out.c2
        have b2 := GB.out.c2
        have a4 := GA.out.c4
        have b4 := GB.out.c4
        clear a0 b0
        by_cases hr : a.ro = b.ro
        · have br : ((a.ro : Int) != (b.ro : Int)) = false := by simp [hr]
          by_cases hc : a.co = b.co
          · have bc : ((a.co : Int) == (b.co : Int)) = true := by simp [hc]
            go_wp2_with (fail)
            refine (rows_yes _).mono ?_
            rintro e u4 ⟨rfl, hk1⟩
            have HK := Lib.hid (HK.out.then hk1)
            clear hk1
            dsimp only
            go_wp2
            go_ret
            exact ⟨rfl, HK.out.below (Nat.le_refl _) (fun _ hf => hf.elim)⟩
          · have bc : ((a.co : Int) == (b.co : Int)) = false := by simp; omega
            have hl : ¬ a.co < b.co := by have := HCO.out ha hb hr hc; simpa using this
            have hl2 : decide ((a.co : Int) < (b.co : Int)) = false := by simp; omega
            go_wp2_with (fail)
            refine (rows_yes _).mono ?_
            rintro e u4 ⟨rfl, hk1⟩
            have HK := Lib.hid (HK.out.then hk1)
            clear hk1
            dsimp only
            go_wp2
            go_ret
            exact ⟨rfl, HK.out.below (Nat.le_refl _) (fun _ hf => hf.elim)⟩
        · have br : ((a.ro : Int) != (b.ro : Int)) = true := by simp; omega
          have hl : ¬ a.ro < b.ro := by have := HRO.out ha hb hr; simpa using this
          have hl2 : decide ((a.ro : Int) < (b.ro : Int)) = false := by simp; omega
          go_wp2_with (fail)
          refine (rows_yes _).mono ?_
          rintro e u4 ⟨rfl, hk1⟩
          have HK := Lib.hid (HK.out.then hk1)
          clear hk1
          dsimp only
          go_wp2
          go_ret
          exact ⟨rfl, HK.out.below (Nat.le_refl _) (fun _ hf => hf.elim)⟩
  · go_wp2_with (first
      | (refine wpList_ld rfl _ _ rfl g0 0 rfl (bpl a) GA.out.all _ Try.underlying26 rfl (infBp _) ?_)
      | fail)
    refine (compare_yes a a _).mono ?_
    rintro e u3 ⟨rfl, hk1⟩
    have GA := Lib.hid (GA.out.kept hk1 (fun hf => hf))
    have GB := Lib.hid (GB.out.kept hk1 (fun hf => hf))
    have HK := Lib.hid (HK.out.then hk1)
    clear hk1
    dsimp only
    rw [HAA.out]
    go_upto_region 4 with (fail)
    have a0 := GA.out.c0
    have b0 := GB.out.c0
    by_cases ha : a.kd = 2
    · have ba : (a.kd == 2) = true := by simp [ha]
      go_wp2_with (fail)
      refine (rows_yes _).mono ?_
      rintro e u4 ⟨rfl, hk1⟩
      have HK := Lib.hid (HK.out.then hk1)
      clear hk1
      dsimp only
      go_wp2
      go_ret
      exact ⟨rfl, HK.out.below (Nat.le_refl _) (fun _ hf => hf.elim)⟩
    · have ba : (a.kd == 2) = false := by simp [ha]
      by_cases hb : b.kd = 2
      · have bb : (b.kd == 2) = true := by simp [hb]
        go_wp2_with (fail)
        refine (rows_yes _).mono ?_
        rintro e u4 ⟨rfl, hk1⟩
        have HK := Lib.hid (HK.out.then hk1)
        clear hk1
        dsimp only
        go_wp2
        go_ret
        exact ⟨rfl, HK.out.below (Nat.le_refl _) (fun _ hf => hf.elim)⟩
      · have bb : (b.kd == 2) = false := by simp [hb]
        go_upto_region 6 with (fail)
        have a2 := GA.out.c2
        have b2 := GB.out.c2
        have a4 := GA.out.c4
        have b4 := GB.out.c4
        clear a0 b0
        by_cases hr : a.ro = b.ro
        · have br : ((a.ro : Int) != (b.ro : Int)) = false := by simp [hr]
          by_cases hc : a.co = b.co
          · have bc : ((a.co : Int) == (b.co : Int)) = true := by simp [hc]
            go_wp2_with (fail)
            refine (rows_yes _).mono ?_
            rintro e u4 ⟨rfl, hk1⟩
            have HK := Lib.hid (HK.out.then hk1)
            clear hk1
            dsimp only
            go_wp2
            go_ret
            exact ⟨rfl, HK.out.below (Nat.le_refl _) (fun _ hf => hf.elim)⟩
          · have bc : ((a.co : Int) == (b.co : Int)) = false := by simp; omega
            have hl : ¬ a.co < b.co := by have := HCO.out ha hb hr hc; simpa using this
            have hl2 : decide ((a.co : Int) < (b.co : Int)) = false := by simp; omega
            go_wp2_with (fail)
            refine (rows_yes _).mono ?_
            rintro e u4 ⟨rfl, hk1⟩
            have HK := Lib.hid (HK.out.then hk1)
            clear hk1
            dsimp only
            go_wp2
            go_ret
            exact ⟨rfl, HK.out.below (Nat.le_refl _) (fun _ hf => hf.elim)⟩
        · have br : ((a.ro : Int) != (b.ro : Int)) = true := by simp; omega
          have hl : ¬ a.ro < b.ro := by have := HRO.out ha hb hr; simpa using this
          have hl2 : decide ((a.ro : Int) < (b.ro : Int)) = false := by simp; omega
          go_wp2_with (fail)
          refine (rows_yes _).mono ?_
          rintro e u4 ⟨rfl, hk1⟩
          have HK := Lib.hid (HK.out.then hk1)
          clear hk1
          dsimp only
          go_wp2
          go_ret
          exact ⟨rfl, HK.out.below (Nat.le_refl _) (fun _ hf => hf.elim)⟩
  · go_wp2_with (first
      | (refine wpList_ld rfl _ _ rfl g0 0 rfl (bpl a) GA.out.all _ Try.underlying26 rfl (infBp _) ?_)
      | fail)
    refine (compare_yes a a _).mono ?_
    rintro e u3 ⟨rfl, hk1⟩
    have GA := Lib.hid (GA.out.kept hk1 (fun hf => hf))
    have GB := Lib.hid (GB.out.kept hk1 (fun hf => hf))
    have HK := Lib.hid (HK.out.then hk1)
    clear hk1
    dsimp only
    rw [HAA.out]
    go_upto_region 4 with (fail)
    have a0 := GA.out.c0
    have b0 := GB.out.c0
    by_cases ha : a.kd = 2
    · have ba : (a.kd == 2) = true := by simp [ha]
      go_wp2_with (fail)
      refine (rows_yes _).mono ?_
      rintro e u4 ⟨rfl, hk1⟩
      have HK := Lib.hid (HK.out.then hk1)
      clear hk1
      dsimp only
      go_wp2
      go_ret
      exact ⟨rfl, HK.out.below (Nat.le_refl _) (fun _ hf => hf.elim)⟩
    · have ba : (a.kd == 2) = false := by simp [ha]
      by_cases hb : b.kd = 2
      · have bb : (b.kd == 2) = true := by simp [hb]
        go_wp2_with (fail)
        refine (rows_yes _).mono ?_
        rintro e u4 ⟨rfl, hk1⟩
        have HK := Lib.hid (HK.out.then hk1)
        clear hk1
        dsimp only
        go_wp2
        go_ret
        exact ⟨rfl, HK.out.below (Nat.le_refl _) (fun _ hf => hf.elim)⟩
      · have bb : (b.kd == 2) = false := by simp [hb]
        go_upto_region 6 with (fail)
        have a2 := GA.out.c2
        have b2 := GB.out.c2
        have a4 := GA.out.c4
        have b4 := GB.out.c4
        clear a0 b0
        by_cases hr : a.ro = b.ro
        · have br : ((a.ro : Int) != (b.ro : Int)) = false := by simp [hr]
          by_cases hc : a.co = b.co
          · have bc : ((a.co : Int) == (b.co : Int)) = true := by simp [hc]
            go_wp2_with (fail)
            refine (rows_yes _).mono ?_
            rintro e u4 ⟨rfl, hk1⟩
            have HK := Lib.hid (HK.out.then hk1)
            clear hk1
            dsimp only
            go_wp2
            go_ret
            exact ⟨rfl, HK.out.below (Nat.le_refl _) (fun _ hf => hf.elim)⟩
          · have bc : ((a.co : Int) == (b.co : Int)) = false := by simp; omega
            have hl : a.co < b.co := by have := HCO.out ha hb hr hc; simpa using this
            have hl2 : decide ((a.co : Int) < (b.co : Int)) = true := by simp; omega
            go_wp2_with (fail)
            refine (rows_yes _).mono ?_
            rintro e u4 ⟨rfl, hk1⟩
            have HK := Lib.hid (HK.out.then hk1)
            clear hk1
            dsimp only
            go_wp2
            go_ret
            exact ⟨rfl, HK.out.below (Nat.le_refl _) (fun _ hf => hf.elim)⟩
        · have br : ((a.ro : Int) != (b.ro : Int)) = true := by simp; omega
          have hl : a.ro < b.ro := by have := HRO.out ha hb hr; simpa using this
          have hl2 : decide ((a.ro : Int) < (b.ro : Int)) = true := by simp; omega
          go_wp2_with (fail)
          refine (rows_yes _).mono ?_
          rintro e u4 ⟨rfl, hk1⟩
          have HK := Lib.hid (HK.out.then hk1)
          clear hk1
          dsimp only
          go_wp2
          go_ret
          exact ⟨rfl, HK.out.below (Nat.le_refl _) (fun _ hf => hf.elim)⟩
  · rcases y1 with rfl | rfl
    · go_wp2_with (first
        | (refine wpList_ld rfl _ _ rfl g0 0 rfl (bpl a) GA.out.all _ Try.underlying26 rfl (infBp _) ?_)
        | fail)
      refine (compare_yes a a _).mono ?_
      rintro e u3 ⟨rfl, hk1⟩
      have GA := Lib.hid (GA.out.kept hk1 (fun hf => hf))
      have GB := Lib.hid (GB.out.kept hk1 (fun hf => hf))
      have HK := Lib.hid (HK.out.then hk1)
      clear hk1
      dsimp only
      rw [HAA.out]
      go_upto_region 4 with (fail)
      have a0 := GA.out.c0
      have b0 := GB.out.c0
      by_cases ha : a.kd = 2
      · have ba : (a.kd == 2) = true := by simp [ha]
        go_wp2_with (fail)
        refine (rows_yes _).mono ?_
        rintro e u4 ⟨rfl, hk1⟩
        have HK := Lib.hid (HK.out.then hk1)
        clear hk1
        dsimp only
        go_wp2
        go_ret
        exact ⟨rfl, HK.out.below (Nat.le_refl _) (fun _ hf => hf.elim)⟩
      · have ba : (a.kd == 2) = false := by simp [ha]
        by_cases hb : b.kd = 2
        · have bb : (b.kd == 2) = true := by simp [hb]
          go_wp2_with (fail)
          refine (rows_yes _).mono ?_
          rintro e u4 ⟨rfl, hk1⟩
          have HK := Lib.hid (HK.out.then hk1)
          clear hk1
          dsimp only
          go_wp2
          go_ret
          exact ⟨rfl, HK.out.below (Nat.le_refl _) (fun _ hf => hf.elim)⟩
        · have bb : (b.kd == 2) = false := by simp [hb]
          go_upto_region 6 with (fail)
          have a2 := GA.out.c2
          have b2 := GB.out.c2
          have a4 := GA.out.c4
          have b4 := GB.out.c4
          clear a0 b0
          by_cases hr : a.ro = b.ro
          · have br : ((a.ro : Int) != (b.ro : Int)) = false := by simp [hr]
            by_cases hc : a.co = b.co
            · have bc : ((a.co : Int) == (b.co : Int)) = true := by simp [hc]
              go_wp2_with (fail)
              refine (rows_yes _).mono ?_
              rintro e u4 ⟨rfl, hk1⟩
              have HK := Lib.hid (HK.out.then hk1)
              clear hk1
              dsimp only
              go_wp2
              go_ret
              exact ⟨rfl, HK.out.below (Nat.le_refl _) (fun _ hf => hf.elim)⟩
            · have bc : ((a.co : Int) == (b.co : Int)) = false := by simp; omega
              have hl : a.co < b.co := by have := HCO.out ha hb hr hc; simpa using this
              have hl2 : decide ((a.co : Int) < (b.co : Int)) = true := by simp; omega
              go_wp2_with (fail)
              refine (rows_yes _).mono ?_
              rintro e u4 ⟨rfl, hk1⟩
              have HK := Lib.hid (HK.out.then hk1)
              clear hk1
              dsimp only
              go_wp2
              go_ret
              exact ⟨rfl, HK.out.below (Nat.le_refl _) (fun _ hf => hf.elim)⟩
          · have br : ((a.ro : Int) != (b.ro : Int)) = true := by simp; omega
            have hl : a.ro < b.ro := by have := HRO.out ha hb hr; simpa using this
            have hl2 : decide ((a.ro : Int) < (b.ro : Int)) = true := by simp; omega
            go_wp2_with (fail)
            refine (rows_yes _).mono ?_
            rintro e u4 ⟨rfl, hk1⟩
            have HK := Lib.hid (HK.out.then hk1)
            clear hk1
            dsimp only
            go_wp2
            go_ret
            exact ⟨rfl, HK.out.below (Nat.le_refl _) (fun _ hf => hf.elim)⟩
    · go_wp2_with (first
        | (refine wpList_ld rfl _ _ rfl g0 0 rfl (bpl a) GA.out.all _ Try.underlying26 rfl (infBp _) ?_)
        | fail)
      refine (compare_yes a a _).mono ?_
      rintro e u3 ⟨rfl, hk1⟩
      have GA := Lib.hid (GA.out.kept hk1 (fun hf => hf))
      have GB := Lib.hid (GB.out.kept hk1 (fun hf => hf))
      have HK := Lib.hid (HK.out.then hk1)
      clear hk1
      dsimp only
      rw [HAA.out]
      go_upto_region 4 with (fail)
      have a0 := GA.out.c0
      have b0 := GB.out.c0
      by_cases ha : a.kd = 2
      · have ba : (a.kd == 2) = true := by simp [ha]
        go_wp2_with (fail)
        refine (rows_yes _).mono ?_
        rintro e u4 ⟨rfl, hk1⟩
        have HK := Lib.hid (HK.out.then hk1)
        clear hk1
        dsimp only
        go_wp2
        go_ret
        exact ⟨rfl, HK.out.below (Nat.le_refl _) (fun _ hf => hf.elim)⟩
      · have ba : (a.kd == 2) = false := by simp [ha]
        by_cases hb : b.kd = 2
        · have bb : (b.kd == 2) = true := by simp [hb]
          go_wp2_with (fail)
          refine (rows_yes _).mono ?_
          rintro e u4 ⟨rfl, hk1⟩
          have HK := Lib.hid (HK.out.then hk1)
          clear hk1
          dsimp only
          go_wp2
          go_ret
          exact ⟨rfl, HK.out.below (Nat.le_refl _) (fun _ hf => hf.elim)⟩
        · have bb : (b.kd == 2) = false := by simp [hb]
          go_upto_region 6 with (fail)
          have a2 := GA.out.c2
          have b2 := GB.out.c2
          have a4 := GA.out.c4
          have b4 := GB.out.c4
          clear a0 b0
          by_cases hr : a.ro = b.ro
          · have br : ((a.ro : Int) != (b.ro : Int)) = false := by simp [hr]
            by_cases hc : a.co = b.co
            · have bc : ((a.co : Int) == (b.co : Int)) = true := by simp [hc]
              go_wp2_with (fail)
              refine (rows_yes _).mono ?_
              rintro e u4 ⟨rfl, hk1⟩
              have HK := Lib.hid (HK.out.then hk1)
              clear hk1
              dsimp only
              go_wp2
              go_ret
              exact ⟨rfl, HK.out.below (Nat.le_refl _) (fun _ hf => hf.elim)⟩
            · have bc : ((a.co : Int) == (b.co : Int)) = false := by simp; omega
              have hl : a.co < b.co := by have := HCO.out ha hb hr hc; simpa using this
              have hl2 : decide ((a.co : Int) < (b.co : Int)) = true := by simp; omega
              go_wp2_with (fail)
              refine (rows_yes _).mono ?_
              rintro e u4 ⟨rfl, hk1⟩
              have HK := Lib.hid (HK.out.then hk1)
              clear hk1
              dsimp only
              go_wp2
              go_ret
              exact ⟨rfl, HK.out.below (Nat.le_refl _) (fun _ hf => hf.elim)⟩
          · have br : ((a.ro : Int) != (b.ro : Int)) = true := by simp; omega
            have hl : a.ro < b.ro := by have := HRO.out ha hb hr; simpa using this
            have hl2 : decide ((a.ro : Int) < (b.ro : Int)) = true := by simp; omega
            go_wp2_with (fail)
            refine (rows_yes _).mono ?_
            rintro e u4 ⟨rfl, hk1⟩
            have HK := Lib.hid (HK.out.then hk1)
            clear hk1
            dsimp only
            go_wp2
            go_ret
            exact ⟨rfl, HK.out.below (Nat.le_refl _) (fun _ hf => hf.elim)⟩
end Go.Proofs.Ytbkjobmjapbmpaa
