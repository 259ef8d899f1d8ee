/- Texts that belong together, one behind the other: IcR, PostA. Conditions: those of each. -/
import Derived.Test.YtiehmpiaddjhiaaDoorMg12
import Derived.Test.YtiehmpiaddjhiaaDoorMg13
import Derived.Test.YtiehmpiaddjhiaaDoorMg11
/- Steps of a region that turns a word of bytes: element by element, in free order. -/
namespace Go.Proofs.YtiehmpiaddjhiaaDoor
open Go.RowKit Go.Sort
set_option linter.unusedVariables false

theorem xor_8 (a b : UInt8) : bits .xor .u8 (a.toNat : Int) (b.toNat : Int) = ((a ^^^ b).toNat : Int) := by
  rw [u8_xor_nat a.toNat b.toNat a.toNat_lt b.toNat_lt, UInt8.toNat_xor]
section
variable {P : Program} {o : Oper} {a : Act} {u : World}
theorem exec_iaB (t : TypeId) (p x : Operand) (ho : o.op = .indexAddr t p x) {v y r : Value} (hp : a.eval p = v) (hx : a.eval x = y) (hr : (Instr.indexAt t v y).run P u = .ok r u) : (execOp a.eval o).run P u = .ok (.value r) u := by
  unfold execOp
  simp only [ho, hp, hx, Sem.run_bind, hr, Result.andThen_ok, Sem.run_pure]
theorem exec_ldI (ty : TypeId) (p : Operand) (ho : o.op = .load ty p) {g f : Nat} {v : Value} {q : IntKind} (hp : a.eval p = .pointer (some ⟨g, f, none⟩)) (hc : u.cell? ⟨g, f, none⟩ = some v) (hu : P.underlying ty = some (.int q)) :
    (execOp a.eval o).run P u = .ok (.value v) u := by
  have hl : (loadVar ty ⟨g, f, none⟩).run P u = .ok v u := by simp [loadVar, isAgg, run_underlying hu, hc, go_sem]
  unfold execOp
  simp only [ho, hp, Instr.loadAt, Instr.sureAddr, Sem.run_bind, Sem.run_pure, Result.andThen_ok, hl]
theorem exec_cvI (src dst : TypeId) (x : Operand) (ho : o.op = .convert src dst x) {v r : Value} (hx : a.eval x = v) (hr : (convert src dst v).run P u = .ok r u) : (execOp a.eval o).run P u = .ok (.value r) u := by
  unfold execOp
  simp only [ho, hx, Sem.run_bind, hr, Result.andThen_ok, Sem.run_pure]
end
theorem ia_b (g n c k : Nat) (h : k < n) (u : World) : (Instr.indexAt 68 (.slice (some ⟨g, 0, none⟩) n c) (.int .i64 (k : Int))).run Tryd.prog u = .ok (pAt g k) u := by
  have hs : (sizeOf 5).run Tryd.prog u = .ok 1 u := by kernel_rfl
  have h1 : (0 : Int) ≤ (k : Int) ∧ (k : Int) < (n : Int) := by omega
  simp [Instr.indexAt, asIntOf, run_underlying Tryd.underlying68, h1, hs, pAt, Addr.add]
  rw [if_pos h]
  by_cases h0 : k = 0
  · subst h0; rfl
  · rw [if_neg h0]
theorem add_c (k k1 : Nat) (h : k + 1 = k1) (hk : k < 100000) (p q : Operand) (u : World) : ((do eqGuard .add 3 p q (.int .i64 (k : Int)) (.int .i64 1); binOp .add 3 (.int .i64 (k : Int)) (.int .i64 1)) : Sem Value).run Tryd.prog u = .ok (.int .i64 (k1 : Int)) u := by
  subst h
  have e : IntKind.i64.wrap ((k : Int) + 1) = (k : Int) + 1 := IntWalk.i64_in _ (by omega)
  simp [eqGuard, binOp, Op.intArith, e]
theorem xor_c (x h : UInt8) (p q : Operand) (u : World) : ((do eqGuard .xor 5 p q (.int .u8 (x.toNat : Int)) (.int .u8 (h.toNat : Int)); binOp .xor 5 (.int .u8 (x.toNat : Int)) (.int .u8 (h.toNat : Int))) : Sem Value).run Tryd.prog u = .ok (.int .u8 ((x ^^^ h).toNat : Int)) u := by
  have e : IntKind.u8.wrap ((BitVec.ofInt IntKind.u8.bits (x.toNat : Int) ^^^ BitVec.ofInt IntKind.u8.bits (h.toNat : Int)).toNat : Int) = ((x ^^^ h).toNat : Int) := xor_8 x h
  simp only [eqGuard, binOp, Op.intBits, e]
  rfl
end Go.Proofs.YtiehmpiaddjhiaaDoor
/- Steps of a region in free order, one an operation; what is said of an operation may speak of the act. -/
namespace Go.Proofs.YtiehmpiaddjhiaaDoor
open Go.RowKit Go.Sort
set_option linter.unusedVariables false

theorem wp_nameA {P : Program} {c : Code} {Q : Exit → Act → World → Prop} {a : Act} {w : World} (h : ∀ A, A = a → Code.wp P c Q A w) : Code.wp P c Q a w := h a rfl
def trueU (_ : Nat) (_ : World) : Prop := True
theorem eval_same (a : Act) (d : Nat) (v : Value) (h : d < a.tmps.size) : (a.put (some d) v).eval (.tmp d) = v := by
  simp only [Act.put, Act.eval, Array.getD_eq_getD_getElem?, Array.getElem?_setIfInBounds_self]
  rw [if_pos h]
  rfl
section exec
variable {P : Program} {o : Oper} {a : Act} {u : World}
theorem exec_ldR (ty : TypeId) (p : Operand) (ho : o.op = .load ty p) {g f : Nat} (hp : a.eval p = .pointer (some ⟨g, f, none⟩)) (l : List Value) (hl : Row u g f l) (d : TypeDesc) (hu : P.underlying ty = some d) (hd : aggB d = true) (hi : (P.info? ty).map (·.size) = some l.length) :
    (execOp a.eval o).run P u = .ok (.value (.agg l.toArray)) u := by
  unfold execOp
  simp only [ho, hp, Instr.loadAt, Instr.sureAddr, Sem.run_bind, Sem.run_pure, Result.andThen_ok, run_loadRow hl hu hd hi]
theorem exec_mv (x : Operand) (ho : o.op = .move x) {v : Value} (hx : a.eval x = v) : (execOp a.eval o).run P u = .ok (.value v) u := by
  unfold execOp
  simp only [ho, hx, Sem.run_pure]
theorem exec_as (x : Operand) (ho : o.op = .assign x) {v : Value} (hx : a.eval x = v) : (execOp a.eval o).run P u = .ok (.value v) u := by
  unfold execOp
  simp only [ho, hx, Sem.run_pure]
theorem exec_ex (x : Operand) (i : Nat) (ho : o.op = .extract x i) {v r : Value} (hx : a.eval x = v) (hr : (Instr.extract v i).run P u = .ok r u) : (execOp a.eval o).run P u = .ok (.value r) u := by
  unfold execOp
  simp only [ho, hx, Sem.run_bind, hr, Result.andThen_ok, Sem.run_pure]
theorem ev_simp {a : Act} {t : Nat} {v : Value} (h : a.eval (.tmp t) = v) : a.tmps[t]?.getD undef = v := by
  rw [← Array.getD_eq_getD_getElem?]
  exact h
theorem exec_lo (t : TypeId) (x h : Operand) (ho : o.op = .slice t x (some h) none none) {A B : Option Addr} {n c m n' c' : Nat} {e : TypeId} (ht : P.underlying t = some (.slice e)) (hx : a.eval x = .slice A n c) (hh : a.eval h = .int .i64 (m : Int)) (hr : (Instr.slice t (.slice A n c) (some (.int .i64 (m : Int))) none none).run P u = .ok (.slice B n' c') u) : (execOp a.eval o).run P u = .ok (.value (.slice B n' c')) u := by
  unfold execOp
  simp only [ho, hx, hh, Option.map_none, Option.map_some, Instr.sliceAt, Sem.run_bind, run_underlying ht, Result.andThen_ok, hr, Sem.run_pure]
end exec
/-- A step that leaves the world as it is. -/
theorem stepA_pure {P : Program} {o : Oper} {a : Act} {u : World} {I : Act → World → Prop} {R : Nat → Act → World → Prop} {U : Nat → World → Prop} {Q : Exit → Act → World → Prop} {i : Nat} (v : Value) (h : (execOp a.eval o).run P u = .ok (.value v) u) (hI : I (a.put o.dst v) u) (hR : R i (a.put o.dst v) u) :
    o.wp P a u (fun a' w' => ∃ v, a' = a.put o.dst v ∧ I a' w' ∧ R i a' w' ∧ (∀ j, j ≠ i → R j a u → R j a w') ∧ ∀ j, j ≠ i → U j u → U j w') Q := by
  unfold Oper.wp
  rw [h]
  exact ⟨v, rfl, hI, hR, fun _ _ h => h, fun _ _ h => h⟩
/-- A step that calls. -/
theorem stepA_call {P : Program} {o : Oper} {a : Act} {u : World} {I : Act → World → Prop} {R : Nat → Act → World → Prop} {U : Nat → World → Prop} {Q : Exit → Act → World → Prop} {i : Nat} (f : FuncId) (avs : Array Value) (h : (execOp a.eval o).run P u = .ok (.enter f avs) u)
    (hc : Calls P f avs u fun e w' => ∃ v, e = .returned v ∧ I (a.put o.dst v) w' ∧ R i (a.put o.dst v) w' ∧ (∀ j, j ≠ i → R j a u → R j a w') ∧ ∀ j, j ≠ i → U j u → U j w') :
    o.wp P a u (fun a' w' => ∃ v, a' = a.put o.dst v ∧ I a' w' ∧ R i a' w' ∧ (∀ j, j ≠ i → R j a u → R j a w') ∧ ∀ j, j ≠ i → U j u → U j w') Q := by
  unfold Oper.wp
  rw [h]
  refine hc.mono ?_
  rintro e w' ⟨v, rfl, h1, h2, h3, h4⟩
  exact ⟨v, rfl, h1, h2, h3, h4⟩
theorem stepA_st {P : Program} {o : Oper} {a : Act} {u : World} {I : Act → World → Prop} {R : Nat → Act → World → Prop} {U : Nat → World → Prop} {Q : Exit → Act → World → Prop} {i : Nat} (ty : TypeId) (p x : Operand) (ho : o.op = .store ty p x) (hd : o.dst = none) {g f : Nat} (hp : a.eval p = .pointer (some ⟨g, f, none⟩)) (l : List Value) {v : Value} (hx : a.eval x = v) (hvc : v.cells = l.toArray) (hi : (P.info? ty).map (·.size) = some l.length) {T : TypeId} {cs : List Value} (hb : Blo u g T cs.toArray) (hf : f + l.length ≤ cs.length) (h1 : ∀ u ∈ l, u.oneCell' = true)
    (h : ∀ u', Blo u' g T (cs.take f ++ l ++ cs.drop (f + l.length)).toArray → Kept (One g) u u' → u'.heap.size = u.heap.size → I a u' ∧ R i a u' ∧ (∀ j, j ≠ i → R j a u → R j a u') ∧ ∀ j, j ≠ i → U j u → U j u') :
    o.wp P a u (fun a' w' => ∃ v, a' = a.put o.dst v ∧ I a' w' ∧ R i a' w' ∧ (∀ j, j ≠ i → R j a u → R j a w') ∧ ∀ j, j ≠ i → U j u → U j w') Q := by
  obtain ⟨u', hr, hbl, hk, hz⟩ := exec_st (P := P) ty p x ho hp l hx hvc hi hb hf h1
  obtain ⟨h1, h2, h3, h4⟩ := h u' hbl hk hz
  unfold Oper.wp
  rw [hr]
  exact ⟨undef, rfl, by rw [hd]; exact h1, by rw [hd]; exact h2, h3, h4⟩
end Go.Proofs.YtiehmpiaddjhiaaDoor
