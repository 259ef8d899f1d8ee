/- Package bpdu: Compare, what lays, Put. -/
import Derived.Test.YtbkjobmjapbmpaaMg6
import Derived.Test.YtbkjobmjapbmpaaMg10
namespace Go.Proofs.Ytbkjobmjapbmpaa
open Go.RowKit Go.Sort
set_option linter.unusedVariables false

set_option maxRecDepth 100000 in
set_option maxHeartbeats 2000000 in
theorem compare_yes (x y : Bp) (w : World) : Calls Try.prog 14 #[bpv x, bpv y] w fun e w' => e = .returned (.int .i64 (cmpB x y)) ∧ Kept Nil w w' := by
  have hX := BPB.new w 26 x
  have hY := BPB.new (w.alloc (.cells (bpl x).toArray 26)) 26 y
  rw [World.size_alloc] at hY
  go_enter Try.func14, Try.ntmps14
  go_upto_region 1 with (fail)
  refine wp_nameE (fun W => BPB W w.heap.size 26 x ∧ BPB W (w.heap.size + 1) 26 y ∧ Kept Nil w W) ⟨hX.kept ((Kept.refl Nil _).alloc _) (fun hf => hf), hY, ((Kept.refl Nil w).alloc _).alloc _⟩ ?_
  clear hX hY
  rintro W ⟨hX, hY, hk⟩
  have HX := Lib.hid hX
  have HY := Lib.hid hY
  have HK := Lib.hid hk
  clear hX hY hk
  have hgx : w.heap.size < W.heap.size := HX.out.lt
  have hgy : w.heap.size + 1 < W.heap.size := HY.out.lt
  refine wp_region_tail 4 (by kernel_rfl) (by kernel_rfl) ?_
  simp only [List.take_succ_cons, List.take_zero, List.drop_succ_cons, List.drop_zero]
  repeat (first
    | (refine wpQuiet_ld rfl _ _ rfl w.heap.size 0 rfl (bpl x) (fun w1 hw => row_grown HX.out.all hw) _ Try.underlying26 rfl (infBp x) ?_; simp only [Act.put, List.setIfInBounds_toArray, List.set_cons_succ, List.set_cons_zero])
    | (refine wpQuiet_ld rfl _ _ rfl (w.heap.size + 1) 0 rfl (bpl y) (fun w1 hw => row_grown HY.out.all hw) _ Try.underlying26 rfl (infBp y) ?_; simp only [Act.put, List.setIfInBounds_toArray, List.set_cons_succ, List.set_cons_zero])
    | (go_big_quiet_step (first | exact quietK (compared_yes x _) | exact quietK (compared_yes y _))))
  refine wpQuiet_nil ?_
  rintro u ⟨nq, hw⟩
  have hkz : Kept Nil W u := by rw [hw]; exact kept_grown _ _
  have HX1 := Lib.hid (HX.out.kept hkz (fun hf => hf))
  have HY1 := Lib.hid (HY.out.kept hkz (fun hf => hf))
  have HK1 := Lib.hid (HK.out.then hkz)
  clear hw hkz HX HY HK
  go_upto_region 2 with (first
    | (refine wpList_st rfl 26 (.tmp 2) _ rfl _ 0 rfl (bpl (cpdB x)) _ rfl rfl (infBp _) 26 (bpl x) HX1.out (by show 0 + 10 ≤ 10; decide) (bpl_one _) ?_; intro u2 hb2 hk2 hz2; simp only [Act.put, List.setIfInBounds_toArray, List.set_cons_succ, List.set_cons_zero]; have HY2 := Lib.hid (HY1.out.kept hk2 (fun hf => absurd hf (by unfold One; omega))))
    | (refine wpList_st rfl 26 (.tmp 3) _ rfl _ 0 rfl (bpl (cpdB y)) _ rfl rfl (infBp _) 26 (bpl y) HY2.out (by show 0 + 10 ≤ 10; decide) (bpl_one _) ?_; intro u3 hb3 hk3 hz3; simp only [Act.put, List.setIfInBounds_toArray, List.set_cons_succ, List.set_cons_zero])
    | fail)
  have hX3 := (BPB.of_all (m := x) (m' := cpdB x) hb2).kept hk3 (fun hf => absurd hf (by unfold One; omega))
  have hY3 := BPB.of_all (m := y) (m' := cpdB y) hb3
  have hk3' := (HK1.out.fresh hk2 (fun i hi => by cases hi; omega)).fresh hk3 (fun i hi => by cases hi; omega)
  generalize hcx : cpdB x = X at *
  generalize hcy : cpdB y = Y at *
  have HX := Lib.hid hX3
  have HY := Lib.hid hY3
  have HK := Lib.hid hk3'
  have HC := Lib.hid (show cmpB x y = orI (cmpL X Y) by unfold cmpB; rw [hcx, hcy])
  clear hb2 hk2 hz2 hb3 hk3 hz3 hX3 hY3 hk3' HX1 HY1 HK1 HY2 hcx hcy
  refine wp_region_tail 20 (by kernel_rfl) (by kernel_rfl) ?_
  simp only [List.take_succ_cons, List.take_zero, List.drop_succ_cons, List.drop_zero]
  have x2 := fun d os => (HX.out.kept (kept_grown' u3 d os) (fun hf => hf)).c2
  have x3 := fun d os => (HX.out.kept (kept_grown' u3 d os) (fun hf => hf)).c3
  have x4 := fun d os => (HX.out.kept (kept_grown' u3 d os) (fun hf => hf)).c4
  have x5 := fun d os => (HX.out.kept (kept_grown' u3 d os) (fun hf => hf)).c5
  have y2 := fun d os => (HY.out.kept (kept_grown' u3 d os) (fun hf => hf)).c2
  have y3 := fun d os => (HY.out.kept (kept_grown' u3 d os) (fun hf => hf)).c3
  have y4 := fun d os => (HY.out.kept (kept_grown' u3 d os) (fun hf => hf)).c4
  have y5 := fun d os => (HY.out.kept (kept_grown' u3 d os) (fun hf => hf)).c5
  repeat (go_big_quiet_step (first | with_reducible exact quietK (cmp64 _ _ _) | with_reducible exact quietK (cmp32 _ _ _) | with_reducible exact quietK (cmp16 _ _ _)))
  refine wpQuiet_nil ?_
  rintro u4 ⟨nq, hw⟩
  have HK4 := Lib.hid (HK.out.then (show Kept Nil u3 u4 from by rw [hw]; exact kept_grown _ _))
  clear hw HK HX HY x2 x3 x4 x5 y2 y3 y4 y5
  go_wp2_with (fail)
  have hor := or_yes u4.heap.size (cmpL X Y) 3 _ (Blo.new u4 3 ((cmpL X Y).map fun x : Int => Value.int .i64 x).toArray) (by show 4 ≤ 1000000; decide)
  refine hor.mono ?_
  clear hor
  rintro e u5 ⟨rfl, hk5⟩
  have HK5 := Lib.hid ((HK4.out.alloc _).then hk5)
  clear hk5
  go_wp2
  go_ret
  exact ⟨by rw [HC.out]; rfl, HK5.out⟩
theorem beM8 (n : Nat) : beM 8 n = beAll 4 [n / 4294967296, n % 4294967296] := by
  have e : ∀ k, k ≤ 3 → UInt8.ofNat (n % 4294967296 / 2 ^ (8 * k)) = UInt8.ofNat (n / 2 ^ (8 * k)) := by
    intro k hk
    apply UInt8.toNat_inj.1
    simp only [UInt8.toNat_ofNat']
    match k, hk with
    | 0, _ => simp <;> omega
    | 1, _ => simp <;> omega
    | 2, _ => simp <;> omega
    | 3, _ => simp <;> omega
  have d : ∀ k, n / 4294967296 / 2 ^ (8 * k) = n / 2 ^ (8 * (k + 4)) := by
    intro k
    rw [Nat.div_div_eq_div_mul, show (4294967296 : Nat) = 2 ^ 32 from rfl, ← Nat.pow_add]
    congr 2
    omega
  have e0 := e 0 (by omega)
  have e1 := e 1 (by omega)
  have e2 := e 2 (by omega)
  have e3 := e 3 (by omega)
  have d0 := d 0
  have d1 := d 1
  have d2 := d 2
  have d3 := d 3
  simp only [beAll, beM, List.map_cons, List.map_nil, List.flatten_cons, List.flatten_nil, List.append_nil, List.range_succ, List.range_zero, List.nil_append, List.map_append, List.cons_append]
  simp only [Nat.mul_zero, Nat.mul_one, Nat.zero_add] at e0 e1 e2 e3 d0 d1 d2 d3
  simp only [Nat.reduceSub, Nat.reduceMul, Nat.reduceAdd, Nat.mul_zero, Nat.sub_zero, Nat.sub_self] at *
  rw [e0, e1, e2, e3, d0, d1, d2, d3]

end Go.Proofs.Ytbkjobmjapbmpaa
