/- Texts that belong together, one behind the other: EthU, PostA. Conditions: those of each. -/
import Derived.Test.YthjfeanmgaidcaaMg13
import Derived.Test.YthjfeanmgaidcaaMg15
/- What acts that make memory alone keep up. -/
namespace Go.Proofs.Ythjfeanmgaidcaa
open Go.RowKit Go.Sort
set_option linter.unusedVariables false

def actI (G0 : Nat → Value → World → Prop) (D : Nat → Prop) (s : List Value) (u : World) : Prop := ∀ i v, s[i]? = some v → G0 i v u
theorem actI_keeps {G0 : Nat → Value → World → Prop} (h : ∀ i v u u', G0 i v u → Kept Nil u u' → G0 i v u') : Keeps (actI G0) where
  quiet := fun D s u u' hI hk i v hi => h i v u u' (hI i v hi) hk
  make := fun D s u o hI i v hi => h i v u _ (hI i v hi) ((Kept.refl Nil u).alloc o)
theorem actI_nil {G0 : Nat → Value → World → Prop} {D : Nat → Prop} {u : World} : actI G0 D [] u := fun i v h => by simp at h
theorem actI_snoc {G0 : Nat → Value → World → Prop} (h : ∀ i v u u', G0 i v u → Kept Nil u u' → G0 i v u') {D : Nat → Prop} {s : List Value} {u u' : World} {v : Value} (hI : actI G0 D s u) (k : Kept Nil u u') (n : Nat) (hn : s.length = n) (hv : G0 n v u') : actI G0 D (s ++ [v]) u' := by
  intro i x hi
  by_cases hlt : i < s.length
  · rw [List.getElem?_append_left hlt] at hi
    exact h i x u u' (hI i x hi) k
  · rw [List.getElem?_append_right (by omega)] at hi
    by_cases h0 : i - s.length = 0
    · rw [h0] at hi
      simp at hi
      subst hi
      rw [show i = n by omega]
      exact hv
    · rw [List.getElem?_eq_none (by simp; omega)] at hi
      cases hi
end Go.Proofs.Ythjfeanmgaidcaa
/- Steps of a region in free order, one an operation; what is said of an operation may speak of the act. -/
namespace Go.Proofs.Ythjfeanmgaidcaa
open Go.RowKit Go.Sort
set_option linter.unusedVariables false

theorem wp_nameA {P : Program} {c : Code} {Q : Exit → Act → World → Prop} {a : Act} {w : World} (h : ∀ A, A = a → Code.wp P c Q A w) : Code.wp P c Q a w := h a rfl
def trueU (_ : Nat) (_ : World) : Prop := True
theorem eval_same (a : Act) (d : Nat) (v : Value) (h : d < a.tmps.size) : (a.put (some d) v).eval (.tmp d) = v := by
  simp only [Act.put, Act.eval, Array.getD_eq_getD_getElem?, Array.getElem?_setIfInBounds_self]
  rw [if_pos h]
  rfl
section exec
variable {P : Program} {o : Oper} {a : Act} {u : World}
theorem exec_ldR (ty : TypeId) (p : Operand) (ho : o.op = .load ty p) {g f : Nat} (hp : a.eval p = .pointer (some ⟨g, f, none⟩)) (l : List Value) (hl : Row u g f l) (d : TypeDesc) (hu : P.underlying ty = some d) (hd : aggB d = true) (hi : (P.info? ty).map (·.size) = some l.length) :
    (execOp a.eval o).run P u = .ok (.value (.agg l.toArray)) u := by
  unfold execOp
  simp only [ho, hp, Instr.loadAt, Instr.sureAddr, Sem.run_bind, Sem.run_pure, Result.andThen_ok, run_loadRow hl hu hd hi]
theorem exec_mv (x : Operand) (ho : o.op = .move x) {v : Value} (hx : a.eval x = v) : (execOp a.eval o).run P u = .ok (.value v) u := by
  unfold execOp
  simp only [ho, hx, Sem.run_pure]
theorem exec_as (x : Operand) (ho : o.op = .assign x) {v : Value} (hx : a.eval x = v) : (execOp a.eval o).run P u = .ok (.value v) u := by
  unfold execOp
  simp only [ho, hx, Sem.run_pure]
theorem exec_ex (x : Operand) (i : Nat) (ho : o.op = .extract x i) {v r : Value} (hx : a.eval x = v) (hr : (Instr.extract v i).run P u = .ok r u) : (execOp a.eval o).run P u = .ok (.value r) u := by
  unfold execOp
  simp only [ho, hx, Sem.run_bind, hr, Result.andThen_ok, Sem.run_pure]
theorem ev_simp {a : Act} {t : Nat} {v : Value} (h : a.eval (.tmp t) = v) : a.tmps[t]?.getD undef = v := by
  rw [← Array.getD_eq_getD_getElem?]
  exact h
theorem exec_lo (t : TypeId) (x h : Operand) (ho : o.op = .slice t x (some h) none none) {A B : Option Addr} {n c m n' c' : Nat} {e : TypeId} (ht : P.underlying t = some (.slice e)) (hx : a.eval x = .slice A n c) (hh : a.eval h = .int .i64 (m : Int)) (hr : (Instr.slice t (.slice A n c) (some (.int .i64 (m : Int))) none none).run P u = .ok (.slice B n' c') u) : (execOp a.eval o).run P u = .ok (.value (.slice B n' c')) u := by
  unfold execOp
  simp only [ho, hx, hh, Option.map_none, Option.map_some, Instr.sliceAt, Sem.run_bind, run_underlying ht, Result.andThen_ok, hr, Sem.run_pure]
end exec
/-- A step that leaves the world as it is. -/
theorem stepA_pure {P : Program} {o : Oper} {a : Act} {u : World} {I : Act → World → Prop} {R : Nat → Act → World → Prop} {U : Nat → World → Prop} {Q : Exit → Act → World → Prop} {i : Nat} (v : Value) (h : (execOp a.eval o).run P u = .ok (.value v) u) (hI : I (a.put o.dst v) u) (hR : R i (a.put o.dst v) u) :
    o.wp P a u (fun a' w' => ∃ v, a' = a.put o.dst v ∧ I a' w' ∧ R i a' w' ∧ (∀ j, j ≠ i → R j a u → R j a w') ∧ ∀ j, j ≠ i → U j u → U j w') Q := by
  unfold Oper.wp
  rw [h]
  exact ⟨v, rfl, hI, hR, fun _ _ h => h, fun _ _ h => h⟩
/-- A step that calls. -/
theorem stepA_call {P : Program} {o : Oper} {a : Act} {u : World} {I : Act → World → Prop} {R : Nat → Act → World → Prop} {U : Nat → World → Prop} {Q : Exit → Act → World → Prop} {i : Nat} (f : FuncId) (avs : Array Value) (h : (execOp a.eval o).run P u = .ok (.enter f avs) u)
    (hc : Calls P f avs u fun e w' => ∃ v, e = .returned v ∧ I (a.put o.dst v) w' ∧ R i (a.put o.dst v) w' ∧ (∀ j, j ≠ i → R j a u → R j a w') ∧ ∀ j, j ≠ i → U j u → U j w') :
    o.wp P a u (fun a' w' => ∃ v, a' = a.put o.dst v ∧ I a' w' ∧ R i a' w' ∧ (∀ j, j ≠ i → R j a u → R j a w') ∧ ∀ j, j ≠ i → U j u → U j w') Q := by
  unfold Oper.wp
  rw [h]
  refine hc.mono ?_
  rintro e w' ⟨v, rfl, h1, h2, h3, h4⟩
  exact ⟨v, rfl, h1, h2, h3, h4⟩
theorem stepA_st {P : Program} {o : Oper} {a : Act} {u : World} {I : Act → World → Prop} {R : Nat → Act → World → Prop} {U : Nat → World → Prop} {Q : Exit → Act → World → Prop} {i : Nat} (ty : TypeId) (p x : Operand) (ho : o.op = .store ty p x) (hd : o.dst = none) {g f : Nat} (hp : a.eval p = .pointer (some ⟨g, f, none⟩)) (l : List Value) {v : Value} (hx : a.eval x = v) (hvc : v.cells = l.toArray) (hi : (P.info? ty).map (·.size) = some l.length) {T : TypeId} {cs : List Value} (hb : Blo u g T cs.toArray) (hf : f + l.length ≤ cs.length) (h1 : ∀ u ∈ l, u.oneCell' = true)
    (h : ∀ u', Blo u' g T (cs.take f ++ l ++ cs.drop (f + l.length)).toArray → Kept (One g) u u' → u'.heap.size = u.heap.size → I a u' ∧ R i a u' ∧ (∀ j, j ≠ i → R j a u → R j a u') ∧ ∀ j, j ≠ i → U j u → U j u') :
    o.wp P a u (fun a' w' => ∃ v, a' = a.put o.dst v ∧ I a' w' ∧ R i a' w' ∧ (∀ j, j ≠ i → R j a u → R j a w') ∧ ∀ j, j ≠ i → U j u → U j w') Q := by
  obtain ⟨u', hr, hbl, hk, hz⟩ := exec_st (P := P) ty p x ho hp l hx hvc hi hb hf h1
  obtain ⟨h1, h2, h3, h4⟩ := h u' hbl hk hz
  unfold Oper.wp
  rw [hr]
  exact ⟨undef, rfl, by rw [hd]; exact h1, by rw [hd]; exact h2, h3, h4⟩
end Go.Proofs.Ythjfeanmgaidcaa
