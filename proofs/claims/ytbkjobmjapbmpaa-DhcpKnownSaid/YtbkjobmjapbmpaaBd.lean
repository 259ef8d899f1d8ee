/- A struct built in a region that only reads. Nothing of the program is named here. -/
import Derived.Test.YtbkjobmjapbmpaaRegO
namespace Go.Proofs.Ytbkjobmjapbmpaa
open Go.RowKit Go.Sort
set_option linter.unusedVariables false

theorem wpQuiet_bd {P : Program} {ops : Array Oper} {C : World → Prop} {Q : Act → Prop} {o : Oper} {rest : List Oper} {a : Act} (hgd : Region.wanted o (yielded ops a.tmps) = true) (ty : TypeId) (ps : Array (Nat × Operand)) (ho : o.op = .build ty ps) (xs : Array (Nat × Value)) (hxs : (ps.toList.map fun x => (x.1, a.eval x.2)) = xs.toList) (v : Value)
    (hv : ∀ w, (Instr.build ty xs).run P w = .ok v w) (h : wpQuiet P ops C Q rest (a.put o.dst v)) : wpQuiet P ops C Q (o :: rest) a := by
  have e : (ps.map fun x => (x.1, a.eval x.2)) = xs := Array.toList_inj.1 (by rw [Array.toList_map]; exact hxs)
  unfold wpQuiet
  rw [if_pos hgd]
  refine ⟨v, fun w hw => ?_, h⟩
  unfold Oper.quietAt execOp
  simp only [ho, e, Sem.run_bind, Sem.run_pure, hv, Result.andThen_ok]
  exact ⟨rfl, rfl⟩
end Go.Proofs.Ytbkjobmjapbmpaa
