/- Structs and arrays told apart, whatever they hold: laws of the walk. Nothing of the program is named here. -/
import Derived.Test.YtbkjobmjapbmpaaEthT
namespace Go.Proofs.Ytbkjobmjapbmpaa
open Go.RowKit Go.Sort
set_option linter.unusedVariables false

theorem run_eqS {P : Program} {w : World} (ty : TypeId) (x y : Operand) (cs ds : Array Value) (hG : P.eqGuardType P.depth ty = false) (b : Bool) (he : (Op.equalIn 10000 ty (.agg cs) (.agg ds)).run P w = .ok b w) :
    (do eqGuard .eql ty x y (.agg cs) (.agg ds); binOp .eql ty (.agg cs) (.agg ds) : Sem Value).run P w = .ok (.bool b) w := by
  have he' : (Op.equal ty (.agg cs) (.agg ds)).run P w = .ok b w := he
  have hp : (program : Sem Program).run P w = .ok P w := rfl
  simp [eqGuard, binOp, Sem.run_bind, Sem.run_pure, hp, hG, he', Result.andThen_ok]
theorem run_neS {P : Program} {w : World} (ty : TypeId) (x y : Operand) (cs ds : Array Value) (hG : P.eqGuardType P.depth ty = false) (b : Bool) (he : (Op.equalIn 10000 ty (.agg cs) (.agg ds)).run P w = .ok b w) :
    (do eqGuard .neq ty x y (.agg cs) (.agg ds); binOp .neq ty (.agg cs) (.agg ds) : Sem Value).run P w = .ok (.bool (!b)) w := by
  have he' : (Op.equal ty (.agg cs) (.agg ds)).run P w = .ok b w := he
  have hp : (program : Sem Program).run P w = .ok P w := rfl
  simp [eqGuard, binOp, Sem.run_bind, Sem.run_pure, hp, hG, he', Result.andThen_ok]
theorem wpList_eqS {P : Program} {w : World} {ops : Array Oper} {rest : List Oper} {o : Oper} {a : Act} {Q : Exit → Act → World → Prop} (hgd : Region.wanted o (yielded ops a.tmps) = true) (ty ty2 : TypeId) (x y : Operand) (ho : o.op = .binOp .eql ty x y ty2) (cs ds : Array Value) (hx : a.eval x = .agg cs) (hy : a.eval y = .agg ds)
    (hG : P.eqGuardType P.depth ty = false) (b : Bool) (he : (Op.equalIn 10000 ty (.agg cs) (.agg ds)).run P w = .ok b w) (h : wpList P ops Q rest (a.put o.dst (.bool b)) w) : wpList P ops Q (o :: rest) a w := by
  refine BigFrame.wpList_want hgd fun K hK => ?_
  unfold Oper.wp execOp
  have := run_eqS ty x y cs ds hG b he
  rw [Sem.run_bind] at this
  simp only [ho, hx, hy, Sem.run_bind, Sem.run_pure, Result.andThen_ok, this]
  exact hK _ _ h
theorem wpQuiet_eqS {P : Program} {ops : Array Oper} {C : World → Prop} {Q : Act → Prop} {o : Oper} {rest : List Oper} {a : Act} (hgd : Region.wanted o (yielded ops a.tmps) = true) (ty ty2 : TypeId) (x y : Operand) (ho : o.op = .binOp .eql ty x y ty2) (cs ds : Array Value) (hx : a.eval x = .agg cs) (hy : a.eval y = .agg ds)
    (hG : P.eqGuardType P.depth ty = false) (b : Bool) (he : ∀ w, (Op.equalIn 10000 ty (.agg cs) (.agg ds)).run P w = .ok b w) (h : wpQuiet P ops C Q rest (a.put o.dst (.bool b))) : wpQuiet P ops C Q (o :: rest) a := by
  unfold wpQuiet
  rw [if_pos hgd]
  refine ⟨.bool b, fun w hw => ?_, h⟩
  unfold Oper.quietAt execOp
  have := run_eqS ty x y cs ds hG b (he w)
  rw [Sem.run_bind] at this
  simp only [ho, hx, hy, Sem.run_bind, Sem.run_pure, Result.andThen_ok, this]
  exact ⟨rfl, rfl⟩
theorem wpQuiet_neS {P : Program} {ops : Array Oper} {C : World → Prop} {Q : Act → Prop} {o : Oper} {rest : List Oper} {a : Act} (hgd : Region.wanted o (yielded ops a.tmps) = true) (ty ty2 : TypeId) (x y : Operand) (ho : o.op = .binOp .neq ty x y ty2) (cs ds : Array Value) (hx : a.eval x = .agg cs) (hy : a.eval y = .agg ds)
    (hG : P.eqGuardType P.depth ty = false) (b : Bool) (he : ∀ w, (Op.equalIn 10000 ty (.agg cs) (.agg ds)).run P w = .ok b w) (h : wpQuiet P ops C Q rest (a.put o.dst (.bool (!b)))) : wpQuiet P ops C Q (o :: rest) a := by
  unfold wpQuiet
  rw [if_pos hgd]
  refine ⟨.bool (!b), fun w hw => ?_, h⟩
  unfold Oper.quietAt execOp
  have := run_neS ty x y cs ds hG b (he w)
  rw [Sem.run_bind] at this
  simp only [ho, hx, hy, Sem.run_bind, Sem.run_pure, Result.andThen_ok, this]
  exact ⟨rfl, rfl⟩
theorem wpList_neS {P : Program} {w : World} {ops : Array Oper} {rest : List Oper} {o : Oper} {a : Act} {Q : Exit → Act → World → Prop} (hgd : Region.wanted o (yielded ops a.tmps) = true) (ty ty2 : TypeId) (x y : Operand) (ho : o.op = .binOp .neq ty x y ty2) (cs ds : Array Value) (hx : a.eval x = .agg cs) (hy : a.eval y = .agg ds)
    (hG : P.eqGuardType P.depth ty = false) (b : Bool) (he : (Op.equalIn 10000 ty (.agg cs) (.agg ds)).run P w = .ok b w) (h : wpList P ops Q rest (a.put o.dst (.bool (!b))) w) : wpList P ops Q (o :: rest) a w := by
  refine BigFrame.wpList_want hgd fun K hK => ?_
  unfold Oper.wp execOp
  have := run_neS ty x y cs ds hG b he
  rw [Sem.run_bind] at this
  simp only [ho, hx, hy, Sem.run_bind, Sem.run_pure, Result.andThen_ok, this]
  exact hK _ _ h
end Go.Proofs.Ytbkjobmjapbmpaa
