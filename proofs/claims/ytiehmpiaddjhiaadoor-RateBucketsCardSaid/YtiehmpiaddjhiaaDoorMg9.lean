/- Texts that belong together, one behind the other: RaK, RaL. Conditions: those of each. -/
import Derived.Test.YtiehmpiaddjhiaaDoorMg5
import Derived.Test.YtiehmpiaddjhiaaDoorMg7
import Derived.Test.YtiehmpiaddjhiaaDoorMg8
import Derived.WalkSpells
import Derived.Deep.QuietTactic
import Derived.BigQuiet
import Derived.Outline
import Derived.Deep.DeepCutAuto
/- Package rate: a bucket, cleaned. -/
namespace Go.Proofs.YtiehmpiaddjhiaaDoor
open Go.RowKit Go.Sort
set_option linter.unusedVariables false

structure Bk where
  r : Nat
  b : Nat
  l : Nat
  a : Int
structure Bk.ok (m : Bk) : Prop where
  r : m.r < 18446744073709551616
  b : m.b < 18446744073709551616
  l : m.l < 18446744073709551616
  a : -9223372036854775808 ≤ m.a ∧ m.a ≤ 9223372036854775807
/-- Clean ones. -/
structure Bk.cl (m : Bk) : Prop where
  r : m.r ≤ INFB
  b : m.b ≤ INFB
  l : m.l ≤ m.b
  a : -9223372036854775808 ≤ m.a ∧ m.a ≤ 9223372036854775807
def bkl (m : Bk) : List Value := [.float .f64 m.r, .float .f64 m.b, .float .f64 m.l, .int .i64 m.a]
def bkv (m : Bk) : Value := .agg (bkl m).toArray
def KB (w : World) (g : Nat) (m : Bk) : Prop := Blo w g 26 (bkl m).toArray
def clB (m : Bk) : Bk := ⟨clF m.r, clF m.b, min (clF m.l) (clF m.b), m.a⟩
theorem clB_cl {m : Bk} (h : m.ok) : (clB m).cl := ⟨clF_le h.r, clF_le h.b, Nat.min_le_right .., h.a⟩
theorem Bk.cl.ok {m : Bk} (h : m.cl) : m.ok := by
  have h1 : INFB < 18446744073709551616 := by decide
  have h2 := h.r
  have h3 := h.b
  have h4 := h.l
  exact ⟨by omega, by omega, by omega, h.a⟩
theorem clB_same {m : Bk} (h : m.cl) : clB m = m := by
  obtain ⟨r, b, l, a⟩ := m
  unfold clB
  have h4 := h.l
  have h3 := h.b
  simp only at h3 h4 ⊢
  rw [clF_clean h.r, clF_clean h3, clF_clean (Nat.le_trans h4 h3), Nat.min_eq_left h4]
theorem bkl_one (m : Bk) : ∀ v ∈ bkl m, v.oneCell' = true := by
  intro v hv
  simp only [bkl, List.mem_cons, List.not_mem_nil, or_false] at hv
  rcases hv with rfl | rfl | rfl | rfl <;> rfl
theorem infBk (m : Bk) : (Tryd.prog.info? 26).map (·.size) = some (bkl m).length := by show _ = some 4; kernel_rfl
theorem infFl : (Tryd.prog.info? 24).map (·.size) = some 1 := by kernel_rfl
theorem KB.all {w : World} {g : Nat} {m : Bk} (b : KB w g m) : Row w g 0 (bkl m) := Blo.row [] _ [] (by rw [List.nil_append, List.append_nil]; exact b)
theorem KB.kept {F : Nat → Prop} {w w' : World} {g : Nat} {m : Bk} (b : KB w g m) (k : Kept F w w') (hg : ¬ F g) : KB w' g m := Blo.kept b k hg
theorem KB.c0 {w : World} {g : Nat} {m : Bk} (b : KB w g m) : w.cell? ⟨g, 0, none⟩ = some (.float .f64 m.r) := b.all 0 _ rfl
theorem KB.c1 {w : World} {g : Nat} {m : Bk} (b : KB w g m) : w.cell? ⟨g, 1, none⟩ = some (.float .f64 m.b) := b.all 1 _ rfl
theorem KB.c2 {w : World} {g : Nat} {m : Bk} (b : KB w g m) : w.cell? ⟨g, 2, none⟩ = some (.float .f64 m.l) := b.all 2 _ rfl
theorem KB.c3 {w : World} {g : Nat} {m : Bk} (b : KB w g m) : w.cell? ⟨g, 3, none⟩ = some (.int .i64 m.a) := b.all 3 _ rfl
theorem run_minF (x y : Nat) (hx : x ≤ INFB) (hy : y ≤ INFB) (t t' ty : TypeId) (w : World) : (Builtin.min_ #[t, t'] ty #[.float .f64 x, .float .f64 y]).run Tryd.prog w = .ok (.float .f64 (min x y)) w := by
  have h1 : INFB < 18446744073709551616 := by decide
  obtain ⟨n1, k1⟩ := clean_key hx
  obtain ⟨n2, k2⟩ := clean_key hy
  have h := order_key x y (by omega) (by omega)
  rw [n1, n2, k1, k2] at h
  simp only [Bool.or_false, if_false, Bool.false_eq_true] at h
  have h' : FloatKind.f64.format.order x y = some (compare (x : Int) (y : Int)) := h
  rcases Nat.lt_trichotomy x y with hl | rfl | hl
  · rw [Int.compare_eq_lt.2 (by omega)] at h'
    rw [Nat.min_eq_left (by omega)]
    simp [Builtin.min_, Builtin.min2, h']
  · rw [Int.compare_eq_eq.2 rfl] at h'
    rw [Nat.min_self]
    simp [Builtin.min_, Builtin.min2, h']
  · rw [Int.compare_eq_gt.2 (by omega)] at h'
    rw [Nat.min_eq_right (by omega)]
    simp [Builtin.min_, Builtin.min2, h']
end Go.Proofs.YtiehmpiaddjhiaaDoor
/- Package rate: clean. -/
namespace Go.Proofs.YtiehmpiaddjhiaaDoor
open Go.RowKit Go.Sort
set_option linter.unusedVariables false

def Bk.zero : Bk := ⟨0, 0, 0, 0⟩
set_option maxRecDepth 100000 in
set_option maxHeartbeats 4000000 in
theorem bclean_yes (m : Bk) (hm : m.ok) (w : World) : Calls Tryd.prog 20 #[bkv m] w fun e w' => e = .returned (bkv (clB m)) ∧ Kept Nil w w' := by
  have hP : KB (w.alloc (.cells (bkl m).toArray 26)) w.heap.size m := Blo.new w _ _
  have hQ : KB ((w.alloc (.cells (bkl m).toArray 26)).alloc (.cells (bkl Bk.zero).toArray 26)) (w.heap.size + 1) Bk.zero := by
    have := Blo.new (w.alloc (.cells (bkl m).toArray 26)) 26 (bkl Bk.zero).toArray
    rwa [World.size_alloc] at this
  have hk0 := ((Kept.refl Nil w).alloc (.cells (bkl m).toArray 26)).alloc (.cells (bkl Bk.zero).toArray 26)
  have HOK := Lib.hid hm
  clear hm
  go_enter Tryd.func20, Tryd.ntmps20
  go_upto_region 1 with (fail)
  refine wp_nameE (fun W => KB W w.heap.size m ∧ KB W (w.heap.size + 1) Bk.zero ∧ Kept Nil w W) ⟨hP.kept ((Kept.refl Nil _).alloc _) (fun hf => hf), hQ, hk0⟩ ?_
  clear hP hQ hk0
  rintro W ⟨hP, hQ, hk⟩
  obtain ⟨g1, hg1⟩ : ∃ g, w.heap.size = g := ⟨_, rfl⟩
  rw [hg1] at hP hQ ⊢
  have HW := Lib.hid (show w.heap.size ≤ g1 by omega)
  have HP := Lib.hid hP
  have HQ := Lib.hid hQ
  have HK := Lib.hid hk
  clear hP hQ hk hg1
  have c0 := fun d os => (HP.out.kept (kept_grown' W d os) (fun hf => hf)).c0
  have c1 := fun d os => (HP.out.kept (kept_grown' W d os) (fun hf => hf)).c1
  refine wp_region_tail 7 (by kernel_rfl) (by kernel_rfl) ?_
  simp only [List.take_succ_cons, List.take_zero, List.drop_succ_cons, List.drop_zero]
  go_big_quiet_step (fail)
  go_big_quiet_step (fail)
  go_big_quiet_step (exact quietK (fclean_yes m.r HOK.out.r _))
  go_big_quiet_step (fail)
  go_big_quiet_step (fail)
  go_big_quiet_step (exact quietK (fclean_yes m.b HOK.out.b _))
  go_big_quiet_step (fail)
  refine wpQuiet_nil ?_
  rintro u ⟨nq, hw⟩
  have hku : Kept Nil W u := by rw [hw]; exact kept_grown _ _
  have HP := Lib.hid (HP.out.kept hku (fun hf => hf))
  have HQ := Lib.hid (HQ.out.kept hku (fun hf => hf))
  have HK := Lib.hid (HK.out.then hku)
  clear hw hku c0 c1
  go_wp2_with (first
    | (refine wpList_st rfl 24 (.tmp 9) _ rfl g1 0 rfl [.float .f64 (clF m.r)] _ rfl rfl infFl 26 _ HP.out (by show 0 + 1 ≤ 4; decide) (by intro u hu; obtain rfl := List.mem_singleton.1 hu; rfl) ?_; intro w2 hb2 hk2 hz2; have HP2 := Lib.hid (show KB w2 g1 ⟨clF m.r, m.b, m.l, m.a⟩ from hb2); clear hb2; simp only [Act.put, List.setIfInBounds_toArray, List.set_cons_succ, List.set_cons_zero])
    | (refine wpList_st rfl 24 (.tmp 10) _ rfl g1 1 rfl [.float .f64 (clF m.b)] _ rfl rfl infFl 26 _ HP2.out (by show 1 + 1 ≤ 4; decide) (by intro u hu; obtain rfl := List.mem_singleton.1 hu; rfl) ?_; intro w3 hb3 hk3 hz3; simp only [Act.put, List.setIfInBounds_toArray, List.set_cons_succ, List.set_cons_zero])
    | fail)
  have HP := Lib.hid (show KB w3 g1 ⟨clF m.r, clF m.b, m.l, m.a⟩ from hb3)
  have hk23 := hk2.trans hk3 (fun _ _ hf => hf)
  have HQ := Lib.hid (HQ.out.kept hk23 (fun hf => by have h1 : g1 + 1 = g1 := hf; omega))
  have HK := Lib.hid (HK.out.fresh hk23 (fun i hi => by have h1 := HW.out; have h2 : i = g1 := hi; omega))
  clear hb3 hk2 hk3 hz2 hz3 hk23 HP2
  have c2 := fun d os => (HP.out.kept (kept_grown' w3 d os) (fun hf => hf)).c2
  have c1 := fun d os => (HP.out.kept (kept_grown' w3 d os) (fun hf => hf)).c1
  have hmin := run_minF (clF m.l) (clF m.b) (clF_le HOK.out.l) (clF_le HOK.out.b)
  refine wp_region_tail 6 (by kernel_rfl) (by kernel_rfl) ?_
  simp only [List.take_succ_cons, List.take_zero, List.drop_succ_cons, List.drop_zero]
  go_big_quiet_step (fail)
  go_big_quiet_step (fail)
  go_big_quiet_step (exact quietK (fclean_yes m.l HOK.out.l _))
  go_big_quiet_step (fail)
  go_big_quiet_step (fail)
  go_big_quiet_step (fail)
  refine wpQuiet_nil ?_
  rintro u ⟨nq, hw⟩
  have hku : Kept Nil w3 u := by rw [hw]; exact kept_grown _ _
  have HP := Lib.hid (HP.out.kept hku (fun hf => hf))
  have HQ := Lib.hid (HQ.out.kept hku (fun hf => hf))
  have HK := Lib.hid (HK.out.then hku)
  clear hw hku c2 c1 hmin
  go_upto_region 3 with (first
    | (refine wpList_st rfl 24 (.tmp 17) _ rfl g1 2 rfl [.float .f64 (min (clF m.l) (clF m.b))] _ rfl rfl infFl 26 _ HP.out (by show 2 + 1 ≤ 4; decide) (by intro u hu; obtain rfl := List.mem_singleton.1 hu; rfl) ?_; intro w4 hb4 hk4 hz4; simp only [Act.put, List.setIfInBounds_toArray, List.set_cons_succ, List.set_cons_zero])
    | fail)
  have HP := Lib.hid (show KB w4 g1 (clB m) from hb4)
  have HQ := Lib.hid (HQ.out.kept hk4 (fun hf => by have h1 : g1 + 1 = g1 := hf; omega))
  have HK := Lib.hid (HK.out.fresh hk4 (fun i hi => by have h1 := HW.out; have h2 : i = g1 := hi; omega))
  clear hb4 hk4 hz4
  go_wp2_with (first
    | (refine wpList_ld rfl _ (.tmp 1) rfl g1 0 rfl (bkl (clB m)) HP.out.all _ Tryd.underlying26 rfl (infBk _) ?_; simp only [Act.put, List.setIfInBounds_toArray, List.set_cons_succ, List.set_cons_zero])
    | (refine wpList_st rfl 26 (.tmp 2) _ rfl (g1 + 1) 0 rfl (bkl (clB m)) _ rfl rfl (infBk _) 26 _ HQ.out (by show 0 + 4 ≤ 4; decide) (bkl_one _) ?_; intro w5 hb5 hk5 hz5; simp only [Act.put, List.setIfInBounds_toArray, List.set_cons_succ, List.set_cons_zero])
    | fail)
  have hQ : KB w5 (g1 + 1) (clB m) := hb5
  refine bodyPost_ret (res_cell0 Tryd.results20 rfl hQ.all Tryd.underlying26 rfl (infBk _)) rfl ⟨rfl, ?_⟩
  exact HK.out.fresh hk5 (fun i hi => by have h1 := HW.out; have h2 : i = g1 + 1 := hi; omega)
set_option maxRecDepth 100000 in
theorem bnew_yes (r b : Nat) (t : Int) (hr : r < 18446744073709551616) (hb : b < 18446744073709551616) (ht : -9223372036854775808 ≤ t ∧ t ≤ 9223372036854775807) (w : World) : Calls Tryd.prog 6 #[.float .f64 r, .float .f64 b, .int .i64 t] w fun e w' => e = .returned (bkv (clB ⟨r, b, b, t⟩)) ∧ Kept Nil w w' := by
  have hP : KB (w.alloc (.cells (bkl Bk.zero).toArray 26)) w.heap.size Bk.zero := Blo.new w _ _
  have hk0 := (Kept.refl Nil w).alloc (.cells (bkl Bk.zero).toArray 26)
  have HOK := Lib.hid (show (⟨r, b, b, t⟩ : Bk).ok from ⟨hr, hb, hb, ht⟩)
  clear hr hb ht
  go_enter Tryd.func6, Tryd.ntmps6
  go_upto_region 1 with (fail)
  refine wp_nameE (fun W => KB W w.heap.size Bk.zero ∧ Kept Nil w W) ⟨hP, hk0⟩ ?_
  clear hP hk0
  rintro W ⟨hP, hk⟩
  obtain ⟨g1, hg1⟩ : ∃ g, w.heap.size = g := ⟨_, rfl⟩
  rw [hg1] at hP ⊢
  have HW := Lib.hid (show w.heap.size ≤ g1 by omega)
  have HP := Lib.hid hP
  have HK := Lib.hid hk
  clear hP hk hg1
  go_wp2_with (fail)
  refine (bclean_yes ⟨r, b, b, t⟩ HOK.out _).mono ?_
  rintro e w2 ⟨rfl, hk⟩
  have HP := Lib.hid (HP.out.kept hk (fun hf => hf))
  have HK := Lib.hid (HK.out.then hk)
  clear hk
  dsimp only
  go_wp2_with (first
    | (refine wpList_st rfl 26 (.tmp 6) _ rfl g1 0 rfl (bkl (clB ⟨r, b, b, t⟩)) _ rfl rfl (infBk _) 26 _ HP.out (by show 0 + 4 ≤ 4; decide) (bkl_one _) ?_; intro w5 hb5 hk5 hz5; simp only [Act.put, List.setIfInBounds_toArray, List.set_cons_succ, List.set_cons_zero])
    | fail)
  have hQ : KB w5 g1 (clB ⟨r, b, b, t⟩) := hb5
  refine bodyPost_ret (res_cell0 Tryd.results6 rfl hQ.all Tryd.underlying26 rfl (infBk _)) rfl ⟨rfl, ?_⟩
  exact HK.out.fresh hk5 (fun i hi => by have h1 := HW.out; have h2 : i = g1 := hi; omega)
end Go.Proofs.YtiehmpiaddjhiaaDoor
