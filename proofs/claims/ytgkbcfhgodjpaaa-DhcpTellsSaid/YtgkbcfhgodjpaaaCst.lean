/- Regions in free order whose operations have known values; each load of a cell that is stored comes before its store. Nothing of the program is named here. -/
import Derived.Test.YtgkbcfhgodjpaaaPosts
import Derived.Test.YtgkbcfhgodjpaaaRegW
namespace Go.Proofs.Ytgkbcfhgodjpaaa
open Go.RowKit Go.Sort
set_option linter.unusedVariables false

/-- A store of the region: which operation, block, field, what stood there, what will. -/
structure Sto where
  i : Nat
  g : Nat
  f : Nat
  x : Value
  y : Value
def cR (V : List (Value → Prop)) (S : List Sto) (i : Nat) (v : Value) (u : World) : Prop := V.getD i (fun _ => True) v ∧ ∀ e ∈ S, e.i = i → u.cell? ⟨e.g, e.f, none⟩ = some e.y
def cU (S : List Sto) (j : Nat) (u : World) : Prop := ∀ e ∈ S, e.i = j → u.cell? ⟨e.g, e.f, none⟩ = some e.x
structure cI (D : List Nat) (m : Nat) (x y : Value) (K : World → Prop) (a0 a : Act) (u : World) : Prop where
  size : a.tmps.size = a0.tmps.size
  defs : a.defers = a0.defers
  fr : ∀ k, k ∉ D → a.tmps.getD k undef = a0.tmps.getD k undef
  mv : a.eval (.tmp m) = x ∨ a.eval (.tmp m) = y
  inv : K u
section
variable {P : Program} {D : List Nat} {m : Nat} {x y : Value} {K : World → Prop} {a0 a : Act} {u : World}
theorem cI.put (h : cI D m x y K a0 a u) (k : Nat) (v : Value) (hk : k ∈ D) (hm : k ≠ m) : cI D m x y K a0 (a.put (some k) v) u where
  size := by rw [put_size]; exact h.size
  defs := h.defs
  fr := fun j hj => (eval_put a k v j (fun e => hj (e ▸ hk))).trans (h.fr j hj)
  mv := by rw [eval_put _ _ _ _ hm]; exact h.mv
  inv := h.inv
theorem cI.putm (h : cI D m x y K a0 a u) (hk : m ∈ D) (hlt : m < a0.tmps.size) : cI D m x y K a0 (a.put (some m) y) u where
  size := by rw [put_size]; exact h.size
  defs := h.defs
  fr := fun j hj => (eval_put a m y j (fun e => hj (e ▸ hk))).trans (h.fr j hj)
  mv := .inr (by
    simp only [Act.put, Act.eval, Array.getD_eq_getD_getElem?]
    rw [Array.getElem?_setIfInBounds_self_of_lt (by rw [h.size]; exact hlt)]
    rfl)
  inv := h.inv
end
section
variable {P : Program} {o : Oper} {a : Act} {u : World} {D : List Nat} {m : Nat} {x y : Value} {K : World → Prop} {a0 : Act} {V : List (Value → Prop)} {S : List Sto} {Q : Exit → Act → World → Prop} {i : Nat}
theorem c_pure (hI : cI D m x y K a0 a u) (v : Value) (h : (execOp a.eval o).run P u = .ok (.value v) u) (k : Nat) (hd : o.dst = some k) (hk : D.contains k = true) (hm : (k == m) = false) (hV : V.getD i (fun _ => True) v) (hS : (S.all fun e => e.i != i) = true) :
    o.wp P a u (fun a' w' => ∃ v, a' = a.put o.dst v ∧ cI D m x y K a0 a' w' ∧ (cR V S i (if o.dst.isSome then v else undef) w') ∧ (∀ j x, j ≠ i → cR V S j x u → cR V S j x w') ∧ ∀ j, j ≠ i → cU S j u → cU S j w') Q := by
  refine step_pure v h (by rw [hd]; rfl) (by rw [hd]; exact hI.put k v (by simpa using hk) (by simpa using hm)) ⟨hV, fun e he hi => ?_⟩
  have := List.all_eq_true.1 hS e he
  simp [hi] at this
theorem c_mv (hI : cI D m x y K a0 a u) (h : (execOp a.eval o).run P u = .ok (.value y) u) (hd : o.dst = some m) (hk : D.contains m = true) (hlt : m < a0.tmps.size) (hV : V.getD i (fun _ => True) y) (hS : (S.all fun e => e.i != i) = true) :
    o.wp P a u (fun a' w' => ∃ v, a' = a.put o.dst v ∧ cI D m x y K a0 a' w' ∧ (cR V S i (if o.dst.isSome then v else undef) w') ∧ (∀ j x, j ≠ i → cR V S j x u → cR V S j x w') ∧ ∀ j, j ≠ i → cU S j u → cU S j w') Q := by
  refine step_pure y h (by rw [hd]; rfl) (by rw [hd]; exact hI.putm (by simpa using hk) hlt) ⟨hV, fun e he hi => ?_⟩
  have := List.all_eq_true.1 hS e he
  simp [hi] at this
theorem c_cell {u u' : World} {g f g' f' : Nat} {T : TypeId} {cs : List Value} {v z : Value} (hb : Blo u g T cs.toArray) (hf : f < cs.length) (hb' : Blo u' g T (cs.take f ++ [v] ++ cs.drop (f + [v].length)).toArray) (hk : Kept (One g) u u') (hne : g' ≠ g ∨ f' ≠ f) (hc : u.cell? ⟨g', f', none⟩ = some z) : u'.cell? ⟨g', f', none⟩ = some z := by
  by_cases hg : g' = g
  · subst hg
    have hff : f' ≠ f := by rcases hne with h | h; exact absurd rfl h; exact h
    rw [hb.cell] at hc
    rw [hb'.cell]
    have e : cs.take f ++ [v] ++ cs.drop (f + [v].length) = cs.set f v := by rw [List.set_eq_take_append_cons_drop, if_pos hf]; simp
    rw [e]
    simp only [List.getElem?_toArray] at hc ⊢
    rw [List.getElem?_set_ne (Ne.symm hff)]
    exact hc
  · exact hk.cell hc (fun h => hg h)
theorem c_new {u' : World} {g f : Nat} {T : TypeId} {cs : List Value} {v : Value} (hf : f < cs.length) (hb' : Blo u' g T (cs.take f ++ [v] ++ cs.drop (f + [v].length)).toArray) : u'.cell? ⟨g, f, none⟩ = some v := by
  rw [hb'.cell]
  have e : cs.take f ++ [v] ++ cs.drop (f + [v].length) = cs.set f v := by rw [List.set_eq_take_append_cons_drop, if_pos hf]; simp
  rw [e]
  simp [hf]
theorem c_st (hI : cI D m x y K a0 a u) (ty : TypeId) (p q : Operand) (ho : o.op = .store ty p q) (hd : o.dst = none) {g f : Nat} {z : Value} (hp : a.eval p = pAt g f) (hq : a.eval q = z) (hz : z.cells = #[z]) (hz1 : z.oneCell' = true) (hi : (P.info? ty).map (·.size) = some 1) {T : TypeId} {cs : List Value} (hb : Blo u g T cs.toArray) (hf : f < cs.length)
    (hS : ∀ e ∈ S, (e.i = i ∧ e.g = g ∧ e.f = f ∧ e.y = z) ∨ (e.i ≠ i ∧ (g ≠ e.g ∨ f ≠ e.f))) (hV : V.getD i (fun _ => True) undef)
    (hK : ∀ u', Blo u' g T (cs.take f ++ [z] ++ cs.drop (f + [z].length)).toArray → Kept (One g) u u' → u'.heap.size = u.heap.size → K u') :
    o.wp P a u (fun a' w' => ∃ v, a' = a.put o.dst v ∧ cI D m x y K a0 a' w' ∧ (cR V S i (if o.dst.isSome then v else undef) w') ∧ (∀ j x, j ≠ i → cR V S j x u → cR V S j x w') ∧ ∀ j, j ≠ i → cU S j u → cU S j w') Q := by
  refine step_st ty p q ho hd hp [z] hq hz hi hb (by rw [List.length_singleton]; omega) (by intro t ht; rw [List.mem_singleton] at ht; rw [ht]; exact hz1) fun u' hbl hk hsz => ?_
  refine ⟨⟨hI.size, hI.defs, hI.fr, hI.mv, hK u' hbl hk hsz⟩, ⟨hV, fun e he hei => ?_⟩, fun j t hj hr => ⟨hr.1, fun e he hej => ?_⟩, fun j hj hu e he hej => ?_⟩
  · rcases hS e he with ⟨_, rfl, rfl, rfl⟩ | ⟨h, _⟩
    · exact c_new hf hbl
    · exact absurd hei h
  · rcases hS e he with ⟨h, _⟩ | ⟨_, h⟩
    · exact absurd (hej.symm.trans h) hj
    · exact c_cell hb hf hbl hk (by rcases h with h | h; exact .inl (Ne.symm h); exact .inr (Ne.symm h)) (hr.2 e he hej)
  · rcases hS e he with ⟨h, _⟩ | ⟨_, h⟩
    · exact absurd (hej.symm.trans h) hj
    · exact c_cell hb hf hbl hk (by rcases h with h | h; exact .inl (Ne.symm h); exact .inr (Ne.symm h)) (hu e he hej)
/-- What stood in a cell that a later store turns. -/
theorem c_old {ops : Array Oper} {k j : Nat} (hU : Yet ops (cU S) k u) (oj : Oper) (hj : ops[j]? = some oj) (he : ∃ e ∈ oj.after, Region.binds .any e = true ∧ e.on = k) (e : Sto) (hm : e ∈ S) (hi : e.i = j) : u.cell? ⟨e.g, e.f, none⟩ = some e.x := hU.2 j oj hj he e hm hi
theorem exec_mv2 (x : Operand) (ho : o.op = .move x) {v : Value} (hx : a.eval x = v) : (execOp a.eval o).run P u = .ok (.value v) u := by
  unfold execOp
  simp only [ho, hx, Sem.run_pure]
theorem exec_as2 (x : Operand) (ho : o.op = .assign x) {v : Value} (hx : a.eval x = v) : (execOp a.eval o).run P u = .ok (.value v) u := by
  unfold execOp
  simp only [ho, hx, Sem.run_pure]
theorem exec_bin2 (op : BinOp) (t t' : TypeId) (p q : Operand) (ho : o.op = .binOp op t p q t') {v v' r : Value} (hx : a.eval p = v) (hy : a.eval q = v') (hr : ((do eqGuard op t p q v v'; binOp op t v v') : Sem Value).run P u = .ok r u) : (execOp a.eval o).run P u = .ok (.value r) u := by
  unfold execOp
  simp only [ho, hx, hy]
  rw [Sem.run_bind, hr]
  rfl
theorem exec_len2 (p : Operand) (t : TypeId) (ho : o.op = .call { callee := .builtin .len, args := #[p], argTypes := #[t] }) {v r : Value} (hx : a.eval p = v) (hr : (Builtin.len_ #[t] o.type #[v]).run P u = .ok r u) : (execOp a.eval o).run P u = .ok (.value r) u := by
  unfold execOp
  simp only [ho, resolve, invoke, builtin, Sem.run_bind, Sem.run_pure, Result.andThen_ok, List.map_toArray, List.map_cons, List.map_nil, hx, hr]
theorem exec_cutS (t : TypeId) (p h : Operand) (ho : o.op = .slice t p none (some h) none) {s : ByteArray} {m : Nat} {r : Value} (ht : P.underlying t = some .string) (hx : a.eval p = .string s) (hh : a.eval h = .int .i64 (m : Int)) (hr : (Instr.slice t (.string s) none (some (.int .i64 (m : Int))) none).run P u = .ok r u) : (execOp a.eval o).run P u = .ok (.value r) u := by
  unfold execOp
  simp only [ho, hx, hh, Option.map_none, Option.map_some, Instr.sliceAt, Sem.run_bind, run_underlying ht, Result.andThen_ok, hr, Sem.run_pure]
end
theorem wp_nameC2 {P : Program} {c : Code} {Q : Exit → Act → World → Prop} {a : Act} {w : World} (h : ∀ A, A = a → Code.wp P c Q A w) : Code.wp P c Q a w := h a rfl
end Go.Proofs.Ytgkbcfhgodjpaaa
