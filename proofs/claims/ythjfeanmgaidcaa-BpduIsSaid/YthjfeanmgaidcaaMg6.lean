/- Texts that belong together, one behind the other: EqS, BpB. Conditions: those of each. -/
import Derived.Test.YthjfeanmgaidcaaMg5
import Derived.Test.YthjfeanmgaidcaaMg4
import Derived.Test.YthjfeanmgaidcaaMg1
import Derived.Test.YthjfeanmgaidcaaMg2
import Derived.IntWalk
import Derived.Lib.Hide
/- Structs and arrays told apart, whatever they hold: laws of the walk. Nothing of the program is named here. -/
namespace Go.Proofs.Ythjfeanmgaidcaa
open Go.RowKit Go.Sort
set_option linter.unusedVariables false

theorem run_eqS {P : Program} {w : World} (ty : TypeId) (x y : Operand) (cs ds : Array Value) (hG : P.eqGuardType P.depth ty = false) (b : Bool) (he : (Op.equalIn 10000 ty (.agg cs) (.agg ds)).run P w = .ok b w) :
    (do eqGuard .eql ty x y (.agg cs) (.agg ds); binOp .eql ty (.agg cs) (.agg ds) : Sem Value).run P w = .ok (.bool b) w := by
  have he' : (Op.equal ty (.agg cs) (.agg ds)).run P w = .ok b w := he
  have hp : (program : Sem Program).run P w = .ok P w := rfl
  simp [eqGuard, binOp, Sem.run_bind, Sem.run_pure, hp, hG, he', Result.andThen_ok]
theorem run_neS {P : Program} {w : World} (ty : TypeId) (x y : Operand) (cs ds : Array Value) (hG : P.eqGuardType P.depth ty = false) (b : Bool) (he : (Op.equalIn 10000 ty (.agg cs) (.agg ds)).run P w = .ok b w) :
    (do eqGuard .neq ty x y (.agg cs) (.agg ds); binOp .neq ty (.agg cs) (.agg ds) : Sem Value).run P w = .ok (.bool (!b)) w := by
  have he' : (Op.equal ty (.agg cs) (.agg ds)).run P w = .ok b w := he
  have hp : (program : Sem Program).run P w = .ok P w := rfl
  simp [eqGuard, binOp, Sem.run_bind, Sem.run_pure, hp, hG, he', Result.andThen_ok]
theorem wpList_eqS {P : Program} {w : World} {ops : Array Oper} {rest : List Oper} {o : Oper} {a : Act} {Q : Exit → Act → World → Prop} (hgd : Region.wanted o (yielded ops a.tmps) = true) (ty ty2 : TypeId) (x y : Operand) (ho : o.op = .binOp .eql ty x y ty2) (cs ds : Array Value) (hx : a.eval x = .agg cs) (hy : a.eval y = .agg ds)
    (hG : P.eqGuardType P.depth ty = false) (b : Bool) (he : (Op.equalIn 10000 ty (.agg cs) (.agg ds)).run P w = .ok b w) (h : wpList P ops Q rest (a.put o.dst (.bool b)) w) : wpList P ops Q (o :: rest) a w := by
  refine BigFrame.wpList_want hgd fun K hK => ?_
  unfold Oper.wp execOp
  have := run_eqS ty x y cs ds hG b he
  rw [Sem.run_bind] at this
  simp only [ho, hx, hy, Sem.run_bind, Sem.run_pure, Result.andThen_ok, this]
  exact hK _ _ h
theorem wpQuiet_eqS {P : Program} {ops : Array Oper} {C : World → Prop} {Q : Act → Prop} {o : Oper} {rest : List Oper} {a : Act} (hgd : Region.wanted o (yielded ops a.tmps) = true) (ty ty2 : TypeId) (x y : Operand) (ho : o.op = .binOp .eql ty x y ty2) (cs ds : Array Value) (hx : a.eval x = .agg cs) (hy : a.eval y = .agg ds)
    (hG : P.eqGuardType P.depth ty = false) (b : Bool) (he : ∀ w, (Op.equalIn 10000 ty (.agg cs) (.agg ds)).run P w = .ok b w) (h : wpQuiet P ops C Q rest (a.put o.dst (.bool b))) : wpQuiet P ops C Q (o :: rest) a := by
  unfold wpQuiet
  rw [if_pos hgd]
  refine ⟨.bool b, fun w hw => ?_, h⟩
  unfold Oper.quietAt execOp
  have := run_eqS ty x y cs ds hG b (he w)
  rw [Sem.run_bind] at this
  simp only [ho, hx, hy, Sem.run_bind, Sem.run_pure, Result.andThen_ok, this]
  exact ⟨rfl, rfl⟩
theorem wpQuiet_neS {P : Program} {ops : Array Oper} {C : World → Prop} {Q : Act → Prop} {o : Oper} {rest : List Oper} {a : Act} (hgd : Region.wanted o (yielded ops a.tmps) = true) (ty ty2 : TypeId) (x y : Operand) (ho : o.op = .binOp .neq ty x y ty2) (cs ds : Array Value) (hx : a.eval x = .agg cs) (hy : a.eval y = .agg ds)
    (hG : P.eqGuardType P.depth ty = false) (b : Bool) (he : ∀ w, (Op.equalIn 10000 ty (.agg cs) (.agg ds)).run P w = .ok b w) (h : wpQuiet P ops C Q rest (a.put o.dst (.bool (!b)))) : wpQuiet P ops C Q (o :: rest) a := by
  unfold wpQuiet
  rw [if_pos hgd]
  refine ⟨.bool (!b), fun w hw => ?_, h⟩
  unfold Oper.quietAt execOp
  have := run_neS ty x y cs ds hG b (he w)
  rw [Sem.run_bind] at this
  simp only [ho, hx, hy, Sem.run_bind, Sem.run_pure, Result.andThen_ok, this]
  exact ⟨rfl, rfl⟩
theorem wpList_neS {P : Program} {w : World} {ops : Array Oper} {rest : List Oper} {o : Oper} {a : Act} {Q : Exit → Act → World → Prop} (hgd : Region.wanted o (yielded ops a.tmps) = true) (ty ty2 : TypeId) (x y : Operand) (ho : o.op = .binOp .neq ty x y ty2) (cs ds : Array Value) (hx : a.eval x = .agg cs) (hy : a.eval y = .agg ds)
    (hG : P.eqGuardType P.depth ty = false) (b : Bool) (he : (Op.equalIn 10000 ty (.agg cs) (.agg ds)).run P w = .ok b w) (h : wpList P ops Q rest (a.put o.dst (.bool (!b))) w) : wpList P ops Q (o :: rest) a w := by
  refine BigFrame.wpList_want hgd fun K hK => ?_
  unfold Oper.wp execOp
  have := run_neS ty x y cs ds hG b he
  rw [Sem.run_bind] at this
  simp only [ho, hx, hy, Sem.run_bind, Sem.run_pure, Result.andThen_ok, this]
  exact hK _ _ h
end Go.Proofs.Ythjfeanmgaidcaa
/- Package bpdu: mayBe, compared, Compare. -/
namespace Go.Proofs.Ythjfeanmgaidcaa
open Go.RowKit Go.Sort
set_option linter.unusedVariables false

/-- A message boxed, and what has been made since. -/
theorem bp_box (w : World) (T : TypeId) (m : Bp) : BPB (w.alloc (.cells (bpl m).toArray T)) w.heap.size T m ∧ Kept Nil w (w.alloc (.cells (bpl m).toArray T)) := ⟨BPB.new w T m, (Kept.refl Nil w).alloc _⟩
set_option maxRecDepth 100000 in
theorem maybe_yes (m : Bp) (w : World) : Calls Try.prog 38 #[bpv m] w fun e w' => e = .returned (.bool (mayB m)) ∧ Kept Nil w w' := by
  have hP := bp_box w 52 m
  go_enter Try.func38, Try.ntmps38
  go_upto_region 1 with (fail)
  refine wp_nameE (fun W => BPB W w.heap.size 52 m ∧ Kept Nil w W) hP ?_
  clear hP
  rintro W ⟨hP, hk⟩
  have HK := Lib.hid hk
  have c0 := hP.c0
  have c6 := hP.c6
  have c7 := hP.c7
  have hall := hP.all
  clear hP hk
  by_cases h1 : m.kd = 1
  · have b1 : (m.kd == 1) = true := by simp [h1]
    have hm : mayB m = decide (m.ag < m.ma) := by unfold mayB; rw [if_pos (.inl h1)]
    have HM := Lib.hid hm
    clear h1 hm
    go_wp2
    go_ret
    exact ⟨by rw [HM.out]; rfl, HK.out⟩
  · have b1 : (m.kd == 1) = false := by simp [h1]
    by_cases h3 : m.kd = 3
    · have b3 : (m.kd == 3) = true := by simp [h3]
      have hm : mayB m = decide (m.ag < m.ma) := by unfold mayB; rw [if_pos (.inr h3)]
      have HM := Lib.hid hm
      clear h1 h3 hm
      go_wp2
      go_ret
      exact ⟨by rw [HM.out]; rfl, HK.out⟩
    · have b3 : (m.kd == 3) = false := by simp [h3]
      by_cases h2 : m.kd = 2
      · have b2 : (m.kd == 2) = true := by simp [h2]
        have hm : mayB m = decide (m = Bp.chg) := by unfold mayB; rw [if_neg (by omega), if_pos h2]
        have HM := Lib.hid hm
        have heq : (Op.equalIn 10000 52 (.agg (bpl m).toArray) (.agg #[.int .i64 2, .int .u8 0, .int .u64 0, .int .u64 0, .int .u32 0, .int .u16 0, .int .u16 0, .int .u16 0, .int .u16 0, .int .u16 0])).run Try.prog W = .ok (decide (m = Bp.chg)) W := eq_bp m Bp.chg W
        clear h1 h2 h3 hm
        go_wp2_with (first | (refine wpList_ld rfl _ _ rfl w.heap.size 0 rfl (bpl m) hall _ Try.underlying52 rfl (infBp m) ?_) | (refine wpList_eqS rfl _ _ _ _ rfl (bpl m).toArray _ rfl rfl (by kernel_rfl) _ heq ?_; simp only [Act.put, List.setIfInBounds_toArray, List.set_cons_succ, List.set_cons_zero]) | fail)
        go_ret
        exact ⟨by rw [HM.out]; rfl, HK.out⟩
      · have b2 : (m.kd == 2) = false := by simp [h2]
        have hm : mayB m = false := by unfold mayB; rw [if_neg (by omega), if_neg h2]
        have HM := Lib.hid hm
        clear h1 h2 h3 hm
        go_wp2
        go_ret
        exact ⟨by rw [HM.out]; rfl, HK.out⟩
end Go.Proofs.Ythjfeanmgaidcaa
