/- Steps of a region in free order, one an operation. -/
import Derived.Test.YtgkbcfhgodjpaaaEthT
import Derived.Test.YtgkbcfhgodjpaaaRegV
namespace Go.Proofs.Ytgkbcfhgodjpaaa
open Go.RowKit Go.Sort
set_option linter.unusedVariables false

section exec
variable {P : Program} {o : Oper} {a : Act} {u : World}
theorem exec_fa (s : TypeId) (p : Operand) (i : Nat) (ho : o.op = .fieldAddr s p i) {v r : Value} (hp : a.eval p = v) (h : (Instr.fieldAt s v i).run P u = .ok r u) : (execOp a.eval o).run P u = .ok (.value r) u := by
  unfold execOp
  simp only [ho, hp, Sem.run_bind, h, Result.andThen_ok, Sem.run_pure]
theorem exec_len (x : Operand) (t : TypeId) (ho : o.op = .call { callee := .builtin .len, args := #[x], argTypes := #[t] }) {A : Option Addr} {n c : Nat} (hx : a.eval x = .slice A n c) (hr : (Builtin.len_ #[t] o.type #[.slice A n c]).run P u = .ok (.int .i64 (n : Int)) u) : (execOp a.eval o).run P u = .ok (.value (.int .i64 (n : Int))) u := by
  unfold execOp
  simp only [ho, resolve, invoke, builtin, Sem.run_bind, Sem.run_pure, Result.andThen_ok, List.map_toArray, List.map_cons, List.map_nil, hx, hr]
theorem exec_min (x y : Operand) (t t' : TypeId) (ho : o.op = .call { callee := .builtin .min, args := #[x, y], argTypes := #[t, t'] }) {v v' r : Value} (hx : a.eval x = v) (hy : a.eval y = v') (hr : (Builtin.min_ #[t, t'] o.type #[v, v']).run P u = .ok r u) : (execOp a.eval o).run P u = .ok (.value r) u := by
  unfold execOp
  simp only [ho, resolve, invoke, builtin, Sem.run_bind, Sem.run_pure, Result.andThen_ok, List.map_toArray, List.map_cons, List.map_nil, hx, hy, hr]
theorem exec_cut (t : TypeId) (x h : Operand) (ho : o.op = .slice t x none (some h) none) {A : Option Addr} {n c m : Nat} {e : TypeId} (ht : P.underlying t = some (.slice e)) (hx : a.eval x = .slice A n c) (hh : a.eval h = .int .i64 (m : Int)) (hr : (Instr.slice t (.slice A n c) none (some (.int .i64 (m : Int))) none).run P u = .ok (.slice A m c) u) : (execOp a.eval o).run P u = .ok (.value (.slice A m c)) u := by
  unfold execOp
  simp only [ho, hx, hh, Option.map_none, Option.map_some, Instr.sliceAt, Sem.run_bind, run_underlying ht, Result.andThen_ok, hr, Sem.run_pure]
end exec
def pAt (g f : Nat) : Value := .pointer (some ⟨g, f, none⟩)
section
variable {u u' : World}
theorem cell_kept {F : Nat → Prop} (k : Kept F u u') {h o : Nat} (hg : ¬ F h) (hl : h < u.heap.size) : u'.cell? ⟨h, o, none⟩ = u.cell? ⟨h, o, none⟩ := by
  have := k.block h hl hg
  unfold World.cell?
  simp only [this]
end
theorem eval_put (a : Act) (d : Nat) (v : Value) (k : Nat) (h : d ≠ k) : (a.put (some d) v).eval (.tmp k) = a.eval (.tmp k) := by
  simp only [Act.put, Act.eval, Array.getD_eq_getD_getElem?]
  rw [Array.getElem?_setIfInBounds_ne h]
/-- A step that leaves the world as it is. -/
theorem step_pure {P : Program} {o : Oper} {a : Act} {u : World} {I : Act → World → Prop} {R : Nat → Value → World → Prop} {U : Nat → World → Prop} {Q : Exit → Act → World → Prop} {i : Nat} (v : Value) (h : (execOp a.eval o).run P u = .ok (.value v) u) (hd : o.dst.isSome = true) (hI : I (a.put o.dst v) u) (hR : R i v u) :
    o.wp P a u (fun a' w' => ∃ v, a' = a.put o.dst v ∧ I a' w' ∧ (R i (if o.dst.isSome then v else undef) w') ∧ (∀ j x, j ≠ i → R j x u → R j x w') ∧ ∀ j, j ≠ i → U j u → U j w') Q := by
  unfold Oper.wp
  rw [h]
  exact ⟨v, rfl, hI, by rw [hd]; exact hR, fun _ _ _ h => h, fun _ _ h => h⟩
/-- A step that stores. -/
theorem step_st {P : Program} {o : Oper} {a : Act} {u : World} {I : Act → World → Prop} {R : Nat → Value → World → Prop} {U : Nat → World → Prop} {Q : Exit → Act → World → Prop} {i : Nat} (ty : TypeId) (p x : Operand) (ho : o.op = .store ty p x) (hd : o.dst = none) {g f : Nat} (hp : a.eval p = .pointer (some ⟨g, f, none⟩)) (l : List Value) {v : Value} (hx : a.eval x = v) (hvc : v.cells = l.toArray) (hi : (P.info? ty).map (·.size) = some l.length) {T : TypeId} {cs : List Value} (hb : Blo u g T cs.toArray) (hf : f + l.length ≤ cs.length) (h1 : ∀ u ∈ l, u.oneCell' = true)
    (h : ∀ u', Blo u' g T (cs.take f ++ l ++ cs.drop (f + l.length)).toArray → Kept (One g) u u' → u'.heap.size = u.heap.size → I a u' ∧ R i undef u' ∧ (∀ j x, j ≠ i → R j x u → R j x u') ∧ ∀ j, j ≠ i → U j u → U j u') :
    o.wp P a u (fun a' w' => ∃ v, a' = a.put o.dst v ∧ I a' w' ∧ (R i (if o.dst.isSome then v else undef) w') ∧ (∀ j x, j ≠ i → R j x u → R j x w') ∧ ∀ j, j ≠ i → U j u → U j w') Q := by
  obtain ⟨u', hr, hbl, hk, hz⟩ := exec_st (P := P) ty p x ho hp l hx hvc hi hb hf h1
  obtain ⟨h1, h2, h3, h4⟩ := h u' hbl hk hz
  unfold Oper.wp
  rw [hr]
  exact ⟨undef, rfl, by rw [hd]; exact h1, by rw [hd]; exact h2, h3, h4⟩
end Go.Proofs.Ytgkbcfhgodjpaaa
