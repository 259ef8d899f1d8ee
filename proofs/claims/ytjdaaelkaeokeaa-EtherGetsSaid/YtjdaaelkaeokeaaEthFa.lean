/- tolllaw04: few. -/
import Derived.Test.YtjdaaelkaeokeaaEthN
import Derived.Test.YtjdaaelkaeokeaaRegV
namespace Go.Proofs.Ytjdaaelkaeokeaa
open Go.RowKit Go.Sort
set_option linter.unusedVariables false

/-- A frame cut as few cuts it. -/
def fewM (f : Fr) : Fr := { f with t := f.t.take 4, b := f.b.take 1600, r := f.r.take 1600 }
section exec
variable {P : Program} {o : Oper} {a : Act} {u : World}
theorem exec_fa (s : TypeId) (p : Operand) (i : Nat) (ho : o.op = .fieldAddr s p i) {v r : Value} (hp : a.eval p = v) (h : (Instr.fieldAt s v i).run P u = .ok r u) : (execOp a.eval o).run P u = .ok (.value r) u := by
  unfold execOp
  simp only [ho, hp, Sem.run_bind, h, Result.andThen_ok, Sem.run_pure]
theorem exec_len (x : Operand) (t : TypeId) (ho : o.op = .call { callee := .builtin .len, args := #[x], argTypes := #[t] }) {A : Option Addr} {n c : Nat} (hx : a.eval x = .slice A n c) (hr : (Builtin.len_ #[t] o.type #[.slice A n c]).run P u = .ok (.int .i64 (n : Int)) u) : (execOp a.eval o).run P u = .ok (.value (.int .i64 (n : Int))) u := by
  unfold execOp
  simp only [ho, resolve, invoke, builtin, Sem.run_bind, Sem.run_pure, Result.andThen_ok, List.map_toArray, List.map_cons, List.map_nil, hx, hr]
theorem exec_min (x y : Operand) (t t' : TypeId) (ho : o.op = .call { callee := .builtin .min, args := #[x, y], argTypes := #[t, t'] }) {v v' r : Value} (hx : a.eval x = v) (hy : a.eval y = v') (hr : (Builtin.min_ #[t, t'] o.type #[v, v']).run P u = .ok r u) : (execOp a.eval o).run P u = .ok (.value r) u := by
  unfold execOp
  simp only [ho, resolve, invoke, builtin, Sem.run_bind, Sem.run_pure, Result.andThen_ok, List.map_toArray, List.map_cons, List.map_nil, hx, hy, hr]
theorem exec_cut (t : TypeId) (x h : Operand) (ho : o.op = .slice t x none (some h) none) {A : Option Addr} {n c m : Nat} {e : TypeId} (ht : P.underlying t = some (.slice e)) (hx : a.eval x = .slice A n c) (hh : a.eval h = .int .i64 (m : Int)) (hr : (Instr.slice t (.slice A n c) none (some (.int .i64 (m : Int))) none).run P u = .ok (.slice A m c) u) : (execOp a.eval o).run P u = .ok (.value (.slice A m c)) u := by
  unfold execOp
  simp only [ho, hx, hh, Option.map_none, Option.map_some, Instr.sliceAt, Sem.run_bind, run_underlying ht, Result.andThen_ok, hr, Sem.run_pure]
end exec
theorem arr31 (T : Array Value) (h : T.size = 31) : ∃ x0 x1 x2 x3 x4 x5 x6 x7 x8 x9 x10 x11 x12 x13 x14 x15 x16 x17 x18 x19 x20 x21 x22 x23 x24 x25 x26 x27 x28 x29 x30, T = #[x0, x1, x2, x3, x4, x5, x6, x7, x8, x9, x10, x11, x12, x13, x14, x15, x16, x17, x18, x19, x20, x21, x22, x23, x24, x25, x26, x27, x28, x29, x30] := by
  obtain ⟨l⟩ := T
  simp only [List.size_toArray] at h
  obtain _ | ⟨x0, l⟩ := l
  · simp at h
  obtain _ | ⟨x1, l⟩ := l
  · simp at h
  obtain _ | ⟨x2, l⟩ := l
  · simp at h
  obtain _ | ⟨x3, l⟩ := l
  · simp at h
  obtain _ | ⟨x4, l⟩ := l
  · simp at h
  obtain _ | ⟨x5, l⟩ := l
  · simp at h
  obtain _ | ⟨x6, l⟩ := l
  · simp at h
  obtain _ | ⟨x7, l⟩ := l
  · simp at h
  obtain _ | ⟨x8, l⟩ := l
  · simp at h
  obtain _ | ⟨x9, l⟩ := l
  · simp at h
  obtain _ | ⟨x10, l⟩ := l
  · simp at h
  obtain _ | ⟨x11, l⟩ := l
  · simp at h
  obtain _ | ⟨x12, l⟩ := l
  · simp at h
  obtain _ | ⟨x13, l⟩ := l
  · simp at h
  obtain _ | ⟨x14, l⟩ := l
  · simp at h
  obtain _ | ⟨x15, l⟩ := l
  · simp at h
  obtain _ | ⟨x16, l⟩ := l
  · simp at h
  obtain _ | ⟨x17, l⟩ := l
  · simp at h
  obtain _ | ⟨x18, l⟩ := l
  · simp at h
  obtain _ | ⟨x19, l⟩ := l
  · simp at h
  obtain _ | ⟨x20, l⟩ := l
  · simp at h
  obtain _ | ⟨x21, l⟩ := l
  · simp at h
  obtain _ | ⟨x22, l⟩ := l
  · simp at h
  obtain _ | ⟨x23, l⟩ := l
  · simp at h
  obtain _ | ⟨x24, l⟩ := l
  · simp at h
  obtain _ | ⟨x25, l⟩ := l
  · simp at h
  obtain _ | ⟨x26, l⟩ := l
  · simp at h
  obtain _ | ⟨x27, l⟩ := l
  · simp at h
  obtain _ | ⟨x28, l⟩ := l
  · simp at h
  obtain _ | ⟨x29, l⟩ := l
  · simp at h
  obtain _ | ⟨x30, l⟩ := l
  · simp at h
  obtain _ | ⟨y, l⟩ := l
  · exact ⟨x0, x1, x2, x3, x4, x5, x6, x7, x8, x9, x10, x11, x12, x13, x14, x15, x16, x17, x18, x19, x20, x21, x22, x23, x24, x25, x26, x27, x28, x29, x30, rfl⟩
  · simp at h
def pAt (g f : Nat) : Value := .pointer (some ⟨g, f, none⟩)
structure fewI (w : World) (g : Nat) (f : Fr) (v1 : Value) (ts : List Value) (mt : Nat) (Ab : Option Addr) (nb cb : Nat) (Ar : Option Addr) (nr cr : Nat) (a : Act) (u : World) : Prop where
  size : a.tmps.size = 31
  defs : a.defers = []
  p1 : a.eval (.tmp 1) = pAt g 0
  p2 : a.eval (.tmp 2) = pAt (g + 1) 0
  fb : ∃ x y, FB u g 28 f v1 x y
  rb : FB u (g + 1) 28 Fr.zero nilv nilv nilv
  kept : Kept Nil w u
  bb : Byt u Ab nb cb f.b
  br : Byt u Ar nr cr f.r
  own : u.ownsRow (g + 2) 60 4 v1 mt ts
  big : g + 2 ≤ u.heap.size
  low : w.heap.size ≤ g
  offb : ∀ i, Lies Ab nb i → i ≠ g
  offr : ∀ i, Lies Ar nr i → i ≠ g
structure fewR (g : Nat) (f : Fr) (Ab : Option Addr) (nb cb mb : Nat) (Ar : Option Addr) (nr cr mr : Nat) (i : Nat) (v : Value) (u : World) : Prop where
  a21 : i = 0 ∨ i = 2 ∨ i = 16 → v = pAt g 21
  a22 : i = 8 ∨ i = 10 ∨ i = 18 → v = pAt g 22
  lb : i = 1 ∨ i = 3 → v = .slice Ab nb cb
  lr : i = 9 ∨ i = 11 → v = .slice Ar nr cr
  n4 : i = 4 → v = .int .i64 (nb : Int)
  n12 : i = 12 → v = .int .i64 (nr : Int)
  n5 : i = 5 → v = .int .i64 (mb : Int)
  n13 : i = 13 → v = .int .i64 (mr : Int)
  s6 : i = 6 → v = .slice Ab mb cb
  s14 : i = 14 → v = .slice Ar mr cr
  o7 : i = 7 → u.ownsRow (g + 2) 5 1 v mb (bys (f.b.take mb))
  o15 : i = 15 → u.ownsRow (g + 2) 5 1 v mr (bys (f.r.take mr))
  t17 : i = 17 → ∃ x, u.cell? ⟨g, 21, none⟩ = some x ∧ u.ownsRow (g + 2) 5 1 x mb (bys (f.b.take mb))
  t19 : i = 19 → ∃ x, u.cell? ⟨g, 22, none⟩ = some x ∧ u.ownsRow (g + 2) 5 1 x mr (bys (f.r.take mr))
def fewU (g : Nat) (Ab : Option Addr) (nb cb : Nat) (Ar : Option Addr) (nr cr : Nat) (j : Nat) (u : World) : Prop :=
  if j = 17 then u.cell? ⟨g, 21, none⟩ = some (.slice Ab nb cb) else if j = 19 then u.cell? ⟨g, 22, none⟩ = some (.slice Ar nr cr) else True
section
variable {w u u' : World} {g : Nat} {f : Fr} {v1 : Value} {ts : List Value} {mt : Nat} {Ab : Option Addr} {nb cb mb : Nat} {Ar : Option Addr} {nr cr mr : Nat} {a : Act}
theorem cell_kept {F : Nat → Prop} (k : Kept F u u') {h o : Nat} (hg : ¬ F h) (hl : h < u.heap.size) : u'.cell? ⟨h, o, none⟩ = u.cell? ⟨h, o, none⟩ := by
  have := k.block h hl hg
  unfold World.cell?
  simp only [this]
theorem fewR_kept {i : Nat} {v : Value} (h : fewR g f Ab nb cb mb Ar nr cr mr i v u) (k : Kept Nil u u') (hg : g < u.heap.size) : fewR g f Ab nb cb mb Ar nr cr mr i v u' :=
  ⟨h.a21, h.a22, h.lb, h.lr, h.n4, h.n12, h.n5, h.n13, h.s6, h.s14, fun e => own_kept (h.o7 e) k (fun _ _ hf => hf), fun e => own_kept (h.o15 e) k (fun _ _ hf => hf),
    fun e => by obtain ⟨x, h1, h2⟩ := h.t17 e; exact ⟨x, by rw [cell_kept k (fun hf => hf) hg]; exact h1, own_kept h2 k (fun _ _ hf => hf)⟩,
    fun e => by obtain ⟨x, h1, h2⟩ := h.t19 e; exact ⟨x, by rw [cell_kept k (fun hf => hf) hg]; exact h1, own_kept h2 k (fun _ _ hf => hf)⟩⟩
theorem fewR_st {i : Nat} {v : Value} (h : fewR g f Ab nb cb mb Ar nr cr mr i v u) (k : Kept (One g) u u') (h21 : i = 17 → u'.cell? ⟨g, 21, none⟩ = u.cell? ⟨g, 21, none⟩) (h22 : i = 19 → u'.cell? ⟨g, 22, none⟩ = u.cell? ⟨g, 22, none⟩) : fewR g f Ab nb cb mb Ar nr cr mr i v u' := by
  have ow : ∀ {v : Value} {n : Nat} {xs : List Value} {e : TypeId}, u.ownsRow (g + 2) e 1 v n xs → u'.ownsRow (g + 2) e 1 v n xs := fun h2 => own_kept h2 k (fun i hi hf => by have := (h2.lt i hi).1; cases hf; omega)
  exact ⟨h.a21, h.a22, h.lb, h.lr, h.n4, h.n12, h.n5, h.n13, h.s6, h.s14, fun e => ow (h.o7 e), fun e => ow (h.o15 e),
    fun e => by obtain ⟨x, h1, h2⟩ := h.t17 e; exact ⟨x, by rw [h21 e]; exact h1, ow h2⟩,
    fun e => by obtain ⟨x, h1, h2⟩ := h.t19 e; exact ⟨x, by rw [h22 e]; exact h1, ow h2⟩⟩
theorem fewU_kept {j : Nat} (h : fewU g Ab nb cb Ar nr cr j u) (e : ∀ o, (o = 21 ∧ j = 17 ∨ o = 22 ∧ j = 19) → u'.cell? ⟨g, o, none⟩ = u.cell? ⟨g, o, none⟩) : fewU g Ab nb cb Ar nr cr j u' := by
  unfold fewU at h ⊢
  split at h <;> rename_i h0
  · rw [if_pos h0, e 21 (.inl ⟨rfl, h0⟩)]; exact h
  rw [if_neg h0]
  split at h <;> rename_i h0
  · rw [if_pos h0, e 22 (.inr ⟨rfl, h0⟩)]; exact h
  rw [if_neg h0]
  trivial
theorem eval_put (a : Act) (d : Nat) (v : Value) (k : Nat) (h : d ≠ k) : (a.put (some d) v).eval (.tmp k) = a.eval (.tmp k) := by
  simp only [Act.put, Act.eval, Array.getD_eq_getD_getElem?]
  rw [Array.getElem?_setIfInBounds_ne h]
theorem fewI.put (h : fewI w g f v1 ts mt Ab nb cb Ar nr cr a u) (d : Nat) (v : Value) (hd : 12 ≤ d) : fewI w g f v1 ts mt Ab nb cb Ar nr cr (a.put (some d) v) u where
  size := by rw [put_size]; exact h.size
  defs := h.defs
  p1 := by rw [eval_put _ _ _ _ (by omega)]; exact h.p1
  p2 := by rw [eval_put _ _ _ _ (by omega)]; exact h.p2
  fb := h.fb
  rb := h.rb
  kept := h.kept
  bb := h.bb
  br := h.br
  own := h.own
  big := h.big
  low := h.low
  offb := h.offb
  offr := h.offr
theorem fewI.next (h : fewI w g f v1 ts mt Ab nb cb Ar nr cr a u) (k : Kept Nil u u') : fewI w g f v1 ts mt Ab nb cb Ar nr cr a u' where
  size := h.size
  defs := h.defs
  p1 := h.p1
  p2 := h.p2
  fb := by obtain ⟨x, y, hb⟩ := h.fb; exact ⟨x, y, hb.kept k (fun hf => hf)⟩
  rb := h.rb.kept k (fun hf => hf)
  kept := h.kept.then k
  bb := h.bb.kept k (fun _ _ hf => hf)
  br := h.br.kept k (fun _ _ hf => hf)
  own := own_kept h.own k (fun _ _ hf => hf)
  big := Nat.le_trans h.big k.size
  low := h.low
  offb := h.offb
  offr := h.offr
theorem fewI.stored (h : fewI w g f v1 ts mt Ab nb cb Ar nr cr a u) (k : Kept (One g) u u') (hb : ∃ x y, FB u' g 28 f v1 x y) (hz : u'.heap.size = u.heap.size) : fewI w g f v1 ts mt Ab nb cb Ar nr cr a u' where
  size := h.size
  defs := h.defs
  p1 := h.p1
  p2 := h.p2
  fb := hb
  rb := h.rb.kept k (fun hf => by unfold One at hf; omega)
  kept := h.kept.fresh k (fun i hi => by cases hi; exact h.low)
  bb := h.bb.kept k (fun i hi hf => h.offb i hi hf)
  br := h.br.kept k (fun i hi hf => h.offr i hi hf)
  own := own_kept h.own k (fun i hi hf => by have := (h.own.lt i hi).1; cases hf; omega)
  big := by rw [hz]; exact h.big
  low := h.low
  offb := h.offb
  offr := h.offr
end
/-- A step that leaves the world as it is. -/
theorem step_pure {P : Program} {o : Oper} {a : Act} {u : World} {I : Act → World → Prop} {R : Nat → Value → World → Prop} {U : Nat → World → Prop} {Q : Exit → Act → World → Prop} {i : Nat} (v : Value) (h : (execOp a.eval o).run P u = .ok (.value v) u) (hd : o.dst.isSome = true) (hI : I (a.put o.dst v) u) (hR : R i v u) :
    o.wp P a u (fun a' w' => ∃ v, a' = a.put o.dst v ∧ I a' w' ∧ (R i (if o.dst.isSome then v else undef) w') ∧ (∀ j x, j ≠ i → R j x u → R j x w') ∧ ∀ j, j ≠ i → U j u → U j w') Q := by
  unfold Oper.wp
  rw [h]
  exact ⟨v, rfl, hI, by rw [hd]; exact hR, fun _ _ _ h => h, fun _ _ h => h⟩
/-- A step that stores. -/
theorem step_st {P : Program} {o : Oper} {a : Act} {u : World} {I : Act → World → Prop} {R : Nat → Value → World → Prop} {U : Nat → World → Prop} {Q : Exit → Act → World → Prop} {i : Nat} (ty : TypeId) (p x : Operand) (ho : o.op = .store ty p x) (hd : o.dst = none) {g f : Nat} (hp : a.eval p = .pointer (some ⟨g, f, none⟩)) (l : List Value) {v : Value} (hx : a.eval x = v) (hvc : v.cells = l.toArray) (hi : (P.info? ty).map (·.size) = some l.length) {T : TypeId} {cs : List Value} (hb : Blo u g T cs.toArray) (hf : f + l.length ≤ cs.length) (h1 : ∀ u ∈ l, u.oneCell' = true)
    (h : ∀ u', Blo u' g T (cs.take f ++ l ++ cs.drop (f + l.length)).toArray → Kept (One g) u u' → u'.heap.size = u.heap.size → I a u' ∧ R i undef u' ∧ (∀ j x, j ≠ i → R j x u → R j x u') ∧ ∀ j, j ≠ i → U j u → U j u') :
    o.wp P a u (fun a' w' => ∃ v, a' = a.put o.dst v ∧ I a' w' ∧ (R i (if o.dst.isSome then v else undef) w') ∧ (∀ j x, j ≠ i → R j x u → R j x w') ∧ ∀ j, j ≠ i → U j u → U j w') Q := by
  obtain ⟨u', hr, hbl, hk, hz⟩ := exec_st (P := P) ty p x ho hp l hx hvc hi hb hf h1
  obtain ⟨h1, h2, h3, h4⟩ := h u' hbl hk hz
  unfold Oper.wp
  rw [hr]
  exact ⟨undef, rfl, by rw [hd]; exact h1, by rw [hd]; exact h2, h3, h4⟩
end Go.Proofs.Ytjdaaelkaeokeaa
