/- Package internal/strconv: unrounded scaling, at the values that the examples meet. -/
import Derived.Test.YtiehmpiaddjhiaaDoorMg19
import Derived.Test.YtiehmpiaddjhiaaDoorMg5
import Derived.Test.YtiehmpiaddjhiaaDoorMg6
import Derived.Test.YtiehmpiaddjhiaaDoorMg7
import Derived.WalkSpells
import Derived.Deep.QuietTactic
import Derived.BigQuiet
import Derived.Outline
import Derived.Deep.DeepCutAuto
namespace Go.Proofs.YtiehmpiaddjhiaaDoor
open Go.RowKit Go.Sort
set_option linter.unusedVariables false

theorem infW1 : (Tryd.prog.info? 22).map (·.size) = some 1 := by kernel_rfl
theorem infW2 : (Tryd.prog.info? 3).map (·.size) = some 1 := by kernel_rfl
theorem b2u_yes (b : Bool) (w : World) : Calls Tryd.prog 81 #[.bool b] w fun e w' => e = .returned (.int .u64 (if b then 1 else 0)) ∧ Kept Nil w w' := by
  cases b
  · go_enter Tryd.func81, Tryd.ntmps81
    go_wp2_with (fail)
    go_ret
    exact ⟨rfl, Kept.refl _ _⟩
  · go_enter Tryd.func81, Tryd.ntmps81
    go_wp2_with (fail)
    go_ret
    exact ⟨rfl, Kept.refl _ _⟩
theorem mul_mna (w : World) : Calls Tryd.prog 80 #[.int .u64 14757395258967641088, .int .u64 12800000000000000000] w fun e w' => e = .returned (.tuple #[.int .u64 10239999999999999857, .int .u64 16444402540465881088]) ∧ w' = w := by
  have h := Tryd.bits_Mul64 14757395258967641088 12800000000000000000 (by decide) (by decide) w
  rw [show 14757395258967641088 * 12800000000000000000 / 18446744073709551616 = 10239999999999999857 from by decide +kernel, show 14757395258967641088 * 12800000000000000000 % 18446744073709551616 = 16444402540465881088 from by decide +kernel] at h
  exact h
theorem us_mna (g : Nat) (w : World) (hp : Blo w g 96 #[.int .u64 12800000000000000000, .int .u64 0, .int .i64 8]) : Calls Tryd.prog 63 #[.int .u64 14757395258967641088, .pointer (some ⟨g, 0, none⟩)] w fun e w' => e = .returned (.int .u64 39999999999999999) ∧ Kept Nil w w' := by
  have c0 := hp.cell 0
  have c1 := hp.cell 1
  have c2 := hp.cell 2
  simp at c0 c1 c2
  have hb1 : bits .and .i64 8 63 = 8 := by kernel_rfl
  have hb2 : bits .or .u64 39999999999999999 1 = 39999999999999999 := by kernel_rfl
  have hs1 : ∀ w, (Op.shift .shr .u64 10239999999999999857 .i64 8).run Tryd.prog w = .ok (.int .u64 39999999999999999) w := fun w => by kernel_rfl
  have hs2 : ∀ w, (Op.shift .shl .u64 39999999999999999 .i64 8).run Tryd.prog w = .ok (.int .u64 10239999999999999744) w := fun w => by kernel_rfl
  clear hp
  go_enter Tryd.func63, Tryd.ntmps63
  go_wp2_with (fail)
  refine (mul_mna _).mono ?_
  rintro e w1 ⟨rfl, rfl⟩
  dsimp only
  go_wp2_with (fail)
  go_ret
  exact ⟨rfl, Kept.refl _ _⟩
theorem mul_mxa (w : World) : Calls Tryd.prog 80 #[.int .u64 14757395258967643136, .int .u64 12800000000000000000] w fun e w' => e = .returned (.tuple #[.int .u64 10240000000000001278, .int .u64 18021073799193034752]) ∧ w' = w := by
  have h := Tryd.bits_Mul64 14757395258967643136 12800000000000000000 (by decide) (by decide) w
  rw [show 14757395258967643136 * 12800000000000000000 / 18446744073709551616 = 10240000000000001278 from by decide +kernel, show 14757395258967643136 * 12800000000000000000 % 18446744073709551616 = 18021073799193034752 from by decide +kernel] at h
  exact h
theorem us_mxa (g : Nat) (w : World) (hp : Blo w g 96 #[.int .u64 12800000000000000000, .int .u64 0, .int .i64 8]) : Calls Tryd.prog 63 #[.int .u64 14757395258967643136, .pointer (some ⟨g, 0, none⟩)] w fun e w' => e = .returned (.int .u64 40000000000000005) ∧ Kept Nil w w' := by
  have c0 := hp.cell 0
  have c1 := hp.cell 1
  have c2 := hp.cell 2
  simp at c0 c1 c2
  have hb1 : bits .and .i64 8 63 = 8 := by kernel_rfl
  have hb2 : bits .or .u64 40000000000000004 1 = 40000000000000005 := by kernel_rfl
  have hs1 : ∀ w, (Op.shift .shr .u64 10240000000000001278 .i64 8).run Tryd.prog w = .ok (.int .u64 40000000000000004) w := fun w => by kernel_rfl
  have hs2 : ∀ w, (Op.shift .shl .u64 40000000000000004 .i64 8).run Tryd.prog w = .ok (.int .u64 10240000000000001024) w := fun w => by kernel_rfl
  clear hp
  go_enter Tryd.func63, Tryd.ntmps63
  go_wp2_with (fail)
  refine (mul_mxa _).mono ?_
  rintro e w1 ⟨rfl, rfl⟩
  dsimp only
  go_wp2_with (fail)
  go_ret
  exact ⟨rfl, Kept.refl _ _⟩
theorem mul_mnb (w : World) : Calls Tryd.prog 80 #[.int .u64 15624999999999998976, .int .u64 12089258196146291748] w fun e w' => e = .returned (.tuple #[.int .u64 10239999999999999329, .int .u64 13024880605306384384]) ∧ w' = w := by
  have h := Tryd.bits_Mul64 15624999999999998976 12089258196146291748 (by decide) (by decide) w
  rw [show 15624999999999998976 * 12089258196146291748 / 18446744073709551616 = 10239999999999999329 from by decide +kernel, show 15624999999999998976 * 12089258196146291748 % 18446744073709551616 = 13024880605306384384 from by decide +kernel] at h
  exact h
theorem us_mnb (g : Nat) (w : World) (hp : Blo w g 96 #[.int .u64 12089258196146291748, .int .u64 17307473159717249708, .int .i64 8]) : Calls Tryd.prog 63 #[.int .u64 15624999999999998976, .pointer (some ⟨g, 0, none⟩)] w fun e w' => e = .returned (.int .u64 39999999999999997) ∧ Kept Nil w w' := by
  have c0 := hp.cell 0
  have c1 := hp.cell 1
  have c2 := hp.cell 2
  simp at c0 c1 c2
  have hb1 : bits .and .i64 8 63 = 8 := by kernel_rfl
  have hb2 : bits .or .u64 39999999999999997 1 = 39999999999999997 := by kernel_rfl
  have hs1 : ∀ w, (Op.shift .shr .u64 10239999999999999329 .i64 8).run Tryd.prog w = .ok (.int .u64 39999999999999997) w := fun w => by kernel_rfl
  have hs2 : ∀ w, (Op.shift .shl .u64 39999999999999997 .i64 8).run Tryd.prog w = .ok (.int .u64 10239999999999999232) w := fun w => by kernel_rfl
  clear hp
  go_enter Tryd.func63, Tryd.ntmps63
  go_wp2_with (fail)
  refine (mul_mnb _).mono ?_
  rintro e w1 ⟨rfl, rfl⟩
  dsimp only
  go_wp2_with (fail)
  go_ret
  exact ⟨rfl, Kept.refl _ _⟩
theorem mul_mxb (w : World) : Calls Tryd.prog 80 #[.int .u64 15625000000000001024, .int .u64 12089258196146291748] w fun e w' => e = .returned (.tuple #[.int .u64 10240000000000000671, .int .u64 16295119394693615616]) ∧ w' = w := by
  have h := Tryd.bits_Mul64 15625000000000001024 12089258196146291748 (by decide) (by decide) w
  rw [show 15625000000000001024 * 12089258196146291748 / 18446744073709551616 = 10240000000000000671 from by decide +kernel, show 15625000000000001024 * 12089258196146291748 % 18446744073709551616 = 16295119394693615616 from by decide +kernel] at h
  exact h
theorem us_mxb (g : Nat) (w : World) (hp : Blo w g 96 #[.int .u64 12089258196146291748, .int .u64 17307473159717249708, .int .i64 8]) : Calls Tryd.prog 63 #[.int .u64 15625000000000001024, .pointer (some ⟨g, 0, none⟩)] w fun e w' => e = .returned (.int .u64 40000000000000003) ∧ Kept Nil w w' := by
  have c0 := hp.cell 0
  have c1 := hp.cell 1
  have c2 := hp.cell 2
  simp at c0 c1 c2
  have hb1 : bits .and .i64 8 63 = 8 := by kernel_rfl
  have hb2 : bits .or .u64 40000000000000002 1 = 40000000000000003 := by kernel_rfl
  have hs1 : ∀ w, (Op.shift .shr .u64 10240000000000000671 .i64 8).run Tryd.prog w = .ok (.int .u64 40000000000000002) w := fun w => by kernel_rfl
  have hs2 : ∀ w, (Op.shift .shl .u64 40000000000000002 .i64 8).run Tryd.prog w = .ok (.int .u64 10240000000000000512) w := fun w => by kernel_rfl
  clear hp
  go_enter Tryd.func63, Tryd.ntmps63
  go_wp2_with (fail)
  refine (mul_mxb _).mono ?_
  rintro e w1 ⟨rfl, rfl⟩
  dsimp only
  go_wp2_with (fail)
  go_ret
  exact ⟨rfl, Kept.refl _ _⟩
theorem l10_a (w : World) : Calls Tryd.prog 51 #[.int .i64 (-56)] w fun e w' => e = .returned (.int .i64 (-17)) ∧ Kept Nil w w' := by
  have h1 : ∀ w, (Op.shift .shr .i64 (-4419128) .u64 18).run Tryd.prog w = .ok (.int .i64 (-17)) w := fun w => by kernel_rfl
  go_enter Tryd.func51, Tryd.ntmps51
  go_wp2_with (fail)
  go_ret
  exact ⟨rfl, Kept.refl _ _⟩
theorem l2_a (w : World) : Calls Tryd.prog 62 #[.int .i64 17] w fun e w' => e = .returned (.int .i64 56) ∧ Kept Nil w w' := by
  have h1 : ∀ w, (Op.shift .shr .i64 1850501 .u64 15).run Tryd.prog w = .ok (.int .i64 56) w := fun w => by kernel_rfl
  go_enter Tryd.func62, Tryd.ntmps62
  go_wp2_with (fail)
  go_ret
  exact ⟨rfl, Kept.refl _ _⟩
theorem nud_mna (w : World) : Calls Tryd.prog 64 #[.int .u64 39999999999999999, .int .i64 0] w fun e w' => e = .returned (.int .u64 39999999999999999) ∧ Kept Nil w w' := by
  go_enter Tryd.func64, Tryd.ntmps64
  go_wp2_with (fail)
  go_ret
  exact ⟨rfl, Kept.refl _ _⟩
theorem nud_mxa (w : World) : Calls Tryd.prog 64 #[.int .u64 40000000000000005, .int .i64 0] w fun e w' => e = .returned (.int .u64 40000000000000005) ∧ Kept Nil w w' := by
  go_enter Tryd.func64, Tryd.ntmps64
  go_wp2_with (fail)
  go_ret
  exact ⟨rfl, Kept.refl _ _⟩
theorem ceil_a (w : World) : Calls Tryd.prog 65 #[.int .u64 39999999999999999] w fun e w' => e = .returned (.int .u64 10000000000000000) ∧ Kept Nil w w' := by
  have h1 : ∀ w, (Op.shift .shr .u64 40000000000000002 .u64 2).run Tryd.prog w = .ok (.int .u64 10000000000000000) w := fun w => by kernel_rfl
  go_enter Tryd.func65, Tryd.ntmps65
  go_wp2_with (fail)
  go_ret
  exact ⟨rfl, Kept.refl _ _⟩
theorem floor_a (w : World) : Calls Tryd.prog 66 #[.int .u64 40000000000000005] w fun e w' => e = .returned (.int .u64 10000000000000001) ∧ Kept Nil w w' := by
  have h1 : ∀ w, (Op.shift .shr .u64 40000000000000005 .u64 2).run Tryd.prog w = .ok (.int .u64 10000000000000001) w := fun w => by kernel_rfl
  go_enter Tryd.func66, Tryd.ntmps66
  go_wp2_with (fail)
  go_ret
  exact ⟨rfl, Kept.refl _ _⟩
def p10a (w : World) : Prop := w.cell? ⟨4, 730, none⟩ = some (.int .u64 12800000000000000000) ∧ w.cell? ⟨4, 731, none⟩ = some (.int .u64 0)
theorem p10a.kept {w w' : World} {F : Nat → Prop} (h : p10a w) (k : Kept F w w') (hF : ¬ F 4) : p10a w' := ⟨k.cell h.1 hF, k.cell h.2 hF⟩
set_option maxRecDepth 100000 in
theorem pre_a (g : Nat) (w : World) (hg : 4 ≠ g) (hp : Blo w g 96 #[.int .u64 0, .int .u64 0, .int .i64 0]) (ht : p10a w) : Calls Tryd.prog 61 #[.pointer (some ⟨g, 0, none⟩), .int .i64 (-67), .int .i64 17, .int .i64 56] w fun e w' => e = .returned (.tuple #[]) ∧ Blo w' g 96 #[.int .u64 12800000000000000000, .int .u64 0, .int .i64 8] ∧ Kept (One g) w w' := by
  obtain ⟨t0, t1⟩ := ht
  have HP := Lib.hid hp
  have HG := Lib.hid hg
  clear hp hg
  go_enter Tryd.func61, Tryd.ntmps61
  go_upto_region 1 with (first
    | (refine wpList_st rfl 22 (.tmp 15) _ rfl g 0 rfl [.int .u64 12800000000000000000] _ rfl rfl infW1 96 [.int .u64 0, .int .u64 0, .int .i64 0] HP.out (by decide) (by intro u hu; obtain rfl := List.mem_singleton.1 hu; rfl) ?_; intro w1 hb1 hk1 hz1; simp only [Act.put, List.setIfInBounds_toArray, List.set_cons_succ, List.set_cons_zero])
    | fail)
  have HB1 := Lib.hid (show Blo w1 g 96 [.int .u64 12800000000000000000, .int .u64 0, .int .i64 0].toArray from hb1)
  have t1' := hk1.cell t1 HG.out
  have HK1 := Lib.hid hk1
  clear hb1 hk1 hz1 t0 t1 HP
  go_upto_region 2 with (first
    | (refine wpList_st rfl 22 (.tmp 23) _ rfl g 1 rfl [.int .u64 0] _ rfl rfl infW1 96 [.int .u64 12800000000000000000, .int .u64 0, .int .i64 0] HB1.out (by decide) (by intro u hu; obtain rfl := List.mem_singleton.1 hu; rfl) ?_; intro w2 hb2 hk2 hz2; simp only [Act.put, List.setIfInBounds_toArray, List.set_cons_succ, List.set_cons_zero])
    | fail)
  have HB2 := Lib.hid (show Blo w2 g 96 [.int .u64 12800000000000000000, .int .u64 0, .int .i64 0].toArray from hb2)
  have HK2 := Lib.hid (HK1.out.trans hk2 (fun _ _ hf => hf))
  clear hb2 hk2 hz2 t1' HB1 HK1
  go_wp2_with (first
    | (refine wpList_st rfl 3 (.tmp 31) _ rfl g 2 rfl [.int .i64 8] _ rfl rfl infW2 96 [.int .u64 12800000000000000000, .int .u64 0, .int .i64 0] HB2.out (by decide) (by intro u hu; obtain rfl := List.mem_singleton.1 hu; rfl) ?_; intro w3 hb3 hk3 hz3; simp only [Act.put, List.setIfInBounds_toArray, List.set_cons_succ, List.set_cons_zero])
    | fail)
  go_end0
  exact ⟨rfl, hb3, HK2.out.trans hk3 (fun _ _ hf => hf)⟩
theorem l10_b (w : World) : Calls Tryd.prog 51 #[.int .i64 17] w fun e w' => e = .returned (.int .i64 5) ∧ Kept Nil w w' := by
  have h1 : ∀ w, (Op.shift .shr .i64 1341521 .u64 18).run Tryd.prog w = .ok (.int .i64 5) w := fun w => by kernel_rfl
  go_enter Tryd.func51, Tryd.ntmps51
  go_wp2_with (fail)
  go_ret
  exact ⟨rfl, Kept.refl _ _⟩
theorem l2_b (w : World) : Calls Tryd.prog 62 #[.int .i64 (-5)] w fun e w' => e = .returned (.int .i64 (-17)) ∧ Kept Nil w w' := by
  have h1 : ∀ w, (Op.shift .shr .i64 (-544265) .u64 15).run Tryd.prog w = .ok (.int .i64 (-17)) w := fun w => by kernel_rfl
  go_enter Tryd.func62, Tryd.ntmps62
  go_wp2_with (fail)
  go_ret
  exact ⟨rfl, Kept.refl _ _⟩
theorem nud_mnb (w : World) : Calls Tryd.prog 64 #[.int .u64 39999999999999997, .int .i64 0] w fun e w' => e = .returned (.int .u64 39999999999999997) ∧ Kept Nil w w' := by
  go_enter Tryd.func64, Tryd.ntmps64
  go_wp2_with (fail)
  go_ret
  exact ⟨rfl, Kept.refl _ _⟩
theorem nud_mxb (w : World) : Calls Tryd.prog 64 #[.int .u64 40000000000000003, .int .i64 0] w fun e w' => e = .returned (.int .u64 40000000000000003) ∧ Kept Nil w w' := by
  go_enter Tryd.func64, Tryd.ntmps64
  go_wp2_with (fail)
  go_ret
  exact ⟨rfl, Kept.refl _ _⟩
theorem ceil_b (w : World) : Calls Tryd.prog 65 #[.int .u64 39999999999999997] w fun e w' => e = .returned (.int .u64 10000000000000000) ∧ Kept Nil w w' := by
  have h1 : ∀ w, (Op.shift .shr .u64 40000000000000000 .u64 2).run Tryd.prog w = .ok (.int .u64 10000000000000000) w := fun w => by kernel_rfl
  go_enter Tryd.func65, Tryd.ntmps65
  go_wp2_with (fail)
  go_ret
  exact ⟨rfl, Kept.refl _ _⟩
theorem floor_b (w : World) : Calls Tryd.prog 66 #[.int .u64 40000000000000003] w fun e w' => e = .returned (.int .u64 10000000000000000) ∧ Kept Nil w w' := by
  have h1 : ∀ w, (Op.shift .shr .u64 40000000000000003 .u64 2).run Tryd.prog w = .ok (.int .u64 10000000000000000) w := fun w => by kernel_rfl
  go_enter Tryd.func66, Tryd.ntmps66
  go_wp2_with (fail)
  go_ret
  exact ⟨rfl, Kept.refl _ _⟩
def p10b (w : World) : Prop := w.cell? ⟨4, 686, none⟩ = some (.int .u64 12089258196146291748) ∧ w.cell? ⟨4, 687, none⟩ = some (.int .u64 17307473159717249708)
theorem p10b.kept {w w' : World} {F : Nat → Prop} (h : p10b w) (k : Kept F w w') (hF : ¬ F 4) : p10b w' := ⟨k.cell h.1 hF, k.cell h.2 hF⟩
set_option maxRecDepth 100000 in
theorem pre_b (g : Nat) (w : World) (hg : 4 ≠ g) (hp : Blo w g 96 #[.int .u64 0, .int .u64 0, .int .i64 0]) (ht : p10b w) : Calls Tryd.prog 61 #[.pointer (some ⟨g, 0, none⟩), .int .i64 6, .int .i64 (-5), .int .i64 (-17)] w fun e w' => e = .returned (.tuple #[]) ∧ Blo w' g 96 #[.int .u64 12089258196146291748, .int .u64 17307473159717249708, .int .i64 8] ∧ Kept (One g) w w' := by
  obtain ⟨t0, t1⟩ := ht
  have HP := Lib.hid hp
  have HG := Lib.hid hg
  clear hp hg
  go_enter Tryd.func61, Tryd.ntmps61
  go_upto_region 1 with (first
    | (refine wpList_st rfl 22 (.tmp 15) _ rfl g 0 rfl [.int .u64 12089258196146291748] _ rfl rfl infW1 96 [.int .u64 0, .int .u64 0, .int .i64 0] HP.out (by decide) (by intro u hu; obtain rfl := List.mem_singleton.1 hu; rfl) ?_; intro w1 hb1 hk1 hz1; simp only [Act.put, List.setIfInBounds_toArray, List.set_cons_succ, List.set_cons_zero])
    | fail)
  have HB1 := Lib.hid (show Blo w1 g 96 [.int .u64 12089258196146291748, .int .u64 0, .int .i64 0].toArray from hb1)
  have t1' := hk1.cell t1 HG.out
  have HK1 := Lib.hid hk1
  clear hb1 hk1 hz1 t0 t1 HP
  go_upto_region 2 with (first
    | (refine wpList_st rfl 22 (.tmp 23) _ rfl g 1 rfl [.int .u64 17307473159717249708] _ rfl rfl infW1 96 [.int .u64 12089258196146291748, .int .u64 0, .int .i64 0] HB1.out (by decide) (by intro u hu; obtain rfl := List.mem_singleton.1 hu; rfl) ?_; intro w2 hb2 hk2 hz2; simp only [Act.put, List.setIfInBounds_toArray, List.set_cons_succ, List.set_cons_zero])
    | fail)
  have HB2 := Lib.hid (show Blo w2 g 96 [.int .u64 12089258196146291748, .int .u64 17307473159717249708, .int .i64 0].toArray from hb2)
  have HK2 := Lib.hid (HK1.out.trans hk2 (fun _ _ hf => hf))
  clear hb2 hk2 hz2 t1' HB1 HK1
  go_wp2_with (first
    | (refine wpList_st rfl 3 (.tmp 31) _ rfl g 2 rfl [.int .i64 8] _ rfl rfl infW2 96 [.int .u64 12089258196146291748, .int .u64 17307473159717249708, .int .i64 0] HB2.out (by decide) (by intro u hu; obtain rfl := List.mem_singleton.1 hu; rfl) ?_; intro w3 hb3 hk3 hz3; simp only [Act.put, List.setIfInBounds_toArray, List.set_cons_succ, List.set_cons_zero])
    | fail)
  go_end0
  exact ⟨rfl, hb3, HK2.out.trans hk3 (fun _ _ hf => hf)⟩
end Go.Proofs.YtiehmpiaddjhiaaDoor
