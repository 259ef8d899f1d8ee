/- Texts that belong together, one behind the other: RegA, ApSt. Conditions: those of each. -/
import Derived.Test.YtiehmpiaddjhiaaDoorMg4
import Derived.Test.YtiehmpiaddjhiaaDoorMg5
import Derived.Test.YtiehmpiaddjhiaaDoorMg2
import Derived.Test.YtiehmpiaddjhiaaDoorMg27
/- Appends onto a row of the call's own as the acts of a region that draws its order. -/
namespace Go.Proofs.YtiehmpiaddjhiaaDoor
open Go.RowKit Go.Sort
set_option linter.unusedVariables false

/-- An append as an act. -/
theorem tLex_app {P : Program} {ops : Array Oper} {F : Nat → Prop} {W : World} {acts : List Nat} {Z : Nat → List Value → Array Value × TypeId} {vs : Nat → Value} {I : (Nat → Prop) → List Value → World → Prop} {Pv : Nat → Value → Prop} {T : Act → Mad → List Value → Prop} {o : Oper} {rest : List Oper} {k : Nat} {a : Act} {L : Mad} {s : List Value}
    (sl x : Operand) (t : TypeId) (ho : o.op = .call { callee := .builtin .append, args := #[sl, x], argTypes := #[t, t] }) (hg : Region.wanted o (yielded ops a.tmps) = true) (hk : acts.contains k = true) (v0 : Value) (hv : Pv k v0)
    (hc : ∀ D u, Kept F W u → I D s u → (∀ g y, Dep (opVals o a) g → L g = some y → D g ∧ Blo u g y.2 y.1) → ∃ v w', (Builtin.append_ #[t, t] o.type #[a.eval sl, a.eval x]).run P u = .ok v w' ∧ Pv k v ∧ Kept F W w' ∧ I D (s ++ [v]) w' ∧ u.heap.size ≤ w'.heap.size ∧ ∀ k, D k → k < u.heap.size → w'.heap[k]? = u.heap[k]?)
    (h : ∀ v, Pv k v → tLex P ops F W acts Z vs I Pv T rest (k + 1) (a.put o.dst v) L (s ++ [v])) : tLex P ops F W acts Z vs I Pv T (o :: rest) k a L s := by
  have hkd : kdOf ops acts k o a = .act := by
    unfold kdOf
    rw [if_pos hg, if_pos hk]
  show tO P ops F W acts Z vs I Pv k o _ a L s
  unfold tO
  simp only [hkd]
  refine ⟨fun D u hu hI hd => ?_, ⟨v0, hv⟩, h⟩
  obtain ⟨v, w', hr, h1, h2, h3, h4, h5⟩ := hc D u hu hI hd
  unfold execOp
  simp only [ho, resolve, invoke, builtin, Sem.run_bind, Sem.run_pure, Result.andThen_ok, List.map_toArray, List.map_cons, List.map_nil, hr]
  exact ⟨h1, h2, h3, h4, h5⟩
/-- The row as it stands behind so many acts; what else is known of the answers (E). -/
def chI (B n0 : Nat) (v0 : Value) (cv : List Value → Value) (ls : Nat → List UInt8) (E : List Value → World → Prop) (D : Nat → Prop) (s : List Value) (u : World) : Prop :=
  n0 ≤ u.heap.size ∧ (∀ k, D k → k < u.heap.size) ∧ u.ownsRow B 5 1 (cv s) (ls s.length).length (bys (ls s.length)) ∧ (∀ k, D k → (cv s).ownBlock ≠ some k) ∧ (∀ k, (cv s).ownBlock = some k → v0.ownBlock = some k ∨ n0 ≤ k) ∧ E s u
theorem own_blt {w : World} {B e size n : Nat} {v : Value} {xs : List Value} (h : w.ownsRow B e size v n xs) : ∀ i, v.ownBlock = some i → i < w.heap.size := fun i hi => (h.lt i hi).2
theorem chI_keeps (B n0 : Nat) (v0 : Value) (cv : List Value → Value) (ls : Nat → List UInt8) (E : List Value → World → Prop) (hE : ∀ s u u', E s u → Kept Nil u u' → E s u') : Keeps (chI B n0 v0 cv ls E) where
  quiet := fun D s u u' ⟨h1, h2, h3, h4, h5, h6⟩ hk => ⟨Nat.le_trans h1 hk.size, fun k h => Nat.lt_of_lt_of_le (h2 k h) hk.size, own_kept h3 hk (fun _ _ hf => hf), h4, h5, hE s u u' h6 hk⟩
  make := fun D s u o ⟨h1, h2, h3, h4, h5, h6⟩ => ⟨by simp; omega, fun k h => by
    rcases h with h | rfl
    · have := h2 k h; simp; omega
    · simp, own_kept h3 ((Kept.refl Nil u).alloc o) (fun _ _ hf => hf), fun k h e => by
    rcases h with h | rfl
    · exact h4 k h e
    · exact absurd (own_blt h3 _ e) (Nat.lt_irrefl _), h5, hE s u _ h6 ((Kept.refl Nil u).alloc o)⟩
/-- One append more. -/
theorem chI_app {B : Nat} {v0 : Value} {cv : List Value → Value} {ls : Nat → List UInt8} {E : List Value → World → Prop} {D : Nat → Prop} {s : List Value} {w u : World} {ty : TypeId} (hu : Kept (fun k => v0.ownBlock = some k) w u) (hI : chI B w.heap.size v0 cv ls E D s u) {A : Option Addr} {m c : Nat} {l : List UInt8} (hy : Byt u A m c l) (hb : (ls s.length).length + m ≤ 140737488355328) (hB : B ≤ w.heap.size)
    (hls : ls (s.length + 1) = ls s.length ++ l) (hcv : ∀ v, cv (s ++ [v]) = v) (hE : ∀ v u', E (s ++ [v]) u') :
    ∃ v w', (Builtin.append_ #[68, 68] ty #[cv s, .slice A m c]).run Tryd.prog u = .ok v w' ∧ True ∧ Kept (fun k => v0.ownBlock = some k) w w' ∧ chI B w.heap.size v0 cv ls E D (s ++ [v]) w' ∧ u.heap.size ≤ w'.heap.size ∧ ∀ k, D k → k < u.heap.size → w'.heap[k]? = u.heap[k]? := by
  obtain ⟨h1, h2, h3, h4, h5, h6⟩ := hI
  obtain ⟨i0, hi, hz0, hz1, hz2⟩ := info_parts Tryd.infb
  obtain ⟨v, w', hr, hn, hgr, hor⟩ := run_app (P := Tryd.prog) (ty := ty) Tryd.underlying68 hi hz0 hz1 hz2 rfl h3 hy hb (Nat.le_trans hB h1)
  refine ⟨v, w', hr, trivial, ?_, ⟨Nat.le_trans h1 hgr.size, fun k h => Nat.lt_of_lt_of_le (h2 k h) hgr.size, ?_, fun k h e => ?_, fun k e => ?_, hE v w'⟩, hgr.size, fun k h hlt => hgr.block k hlt (fun e => h4 k h e.symm)⟩
  · refine hu.trans (F' := fun k => (cv s).ownBlock = some k) ((Kept.refl _ u).grown hgr (fun k hk _ => hk)) (fun k hk hf => ?_)
    rcases h5 k hf with h | h
    · exact h
    · omega
  · rw [hcv, List.length_append, List.length_singleton, hls, bys_app, List.length_append]
    have := hy.1
    rw [this]
    exact hn
  · rw [hcv] at e
    rcases hor with h' | h'
    · exact h4 k h (by rw [← h']; exact e)
    · rw [h'] at e
      injection e with e
      have := h2 k h
      omega
  · rw [hcv] at e
    rcases hor with h' | h'
    · exact h5 k (by rw [← h']; exact e)
    · rw [h'] at e
      injection e with e
      exact .inr (by omega)
end Go.Proofs.YtiehmpiaddjhiaaDoor
/- A region in free order that appends onto a row of its own, calls, makes one block and stores into it: one step an operation. -/
namespace Go.Proofs.YtiehmpiaddjhiaaDoor
open Go.RowKit Go.Sort
set_option linter.unusedVariables false

def stepsS (P : Program) (ops : Array Oper) (Q : Exit → Act → World → Prop) (a0 : Act) (I : Act → World → Prop) (R : Nat → Act → World → Prop) : Nat → List Oper → Prop
  | _, [] => True
  | i, o :: l => (∀ a w, I a w → (∀ e ∈ o.after, Region.binds .any e = true → R e.on a w) → (∀ d, o.dst = some d → a.eval (.tmp d) = a0.eval (.tmp d)) →
      o.wp P a w (fun a' w' => ∃ v, a' = a.put o.dst v ∧ I a' w' ∧ R i a' w' ∧ ∀ j, j ≠ i → R j a w → R j a w') Q) ∧ stepsS P ops Q a0 I R (i + 1) l
def unwr (ops : Array Oper) (a0 : Act) (j : Nat) (a : Act) (_ : World) : Prop := ∀ (o : Oper) (d : Nat), ops[j]? = some o → o.dst = some d → a.eval (.tmp d) = a0.eval (.tmp d)
theorem dst_apart {N : Nat} {ops : Array Oper} (hB : postB N ops = true) {i j : Nat} {oi oj : Oper} (hi : ops[i]? = some oi) (hj : ops[j]? = some oj) (hne : j ≠ i) {d : Nat} (hd : oi.dst = some d) : oj.dst ≠ some d := by
  unfold postB at hB
  rw [List.all_eq_true] at hB
  have hb := hB i (List.mem_range.2 (Array.getElem?_eq_some_iff.1 hi).1)
  simp only [hi, Bool.and_eq_true] at hb
  have := hb.2
  rw [hd] at this
  simp only [Bool.and_eq_true, List.all_eq_true] at this
  have hx := this.2 j (List.mem_range.2 (Array.getElem?_eq_some_iff.1 hj).1)
  simpa only [hj, Bool.or_eq_true, beq_iff_eq, hne, false_or, bne_iff_ne] using hx
theorem stepsS_Y {P : Program} {ops : Array Oper} {Q : Exit → Act → World → Prop} {a0 : Act} {I : Act → World → Prop} {R : Nat → Act → World → Prop} {N : Nat} (hB : postB N ops = true) : ∀ (l : List Oper) (k : Nat), (∀ j, l[j]? = ops[k + j]?) → stepsS P ops Q a0 I R k l → stepsY P ops Q I R (unwr ops a0) k l := by
  intro l
  induction l with
  | nil => intro _ _ _; trivial
  | cons o l ih =>
    intro k hk h
    refine ⟨fun a w hI hp hU => ?_, ih (k + 1) (fun j => by have := hk (j + 1); rw [List.getElem?_cons_succ] at this; rw [this, show k + (j + 1) = k + 1 + j by omega]) h.2⟩
    have hok : ops[k]? = some o := by have := hk 0; simpa using this.symm
    refine Oper.wp_mono (fun a' w' hh => ?_) (h.1 a w hI hp (fun d hd => hU.1 o d hok hd))
    obtain ⟨v, rfl, h1, h2, h3⟩ := hh
    refine ⟨v, rfl, h1, h2, h3, fun j hj hu oj d ho hd => ?_⟩
    have hne := dst_apart hB ho hok (Ne.symm hj) hd
    cases hdo : o.dst with
    | none => exact hu oj d ho hd
    | some d' => rw [eval_put _ _ _ _ (fun e => hne (by rw [hdo, e]))]; exact hu oj d ho hd
/-- **The region, a step an operation; each step finds its own slot as it was.** -/
theorem wp_region_slots {P : Program} {id : Nat} {Q : Exit → Act → World → Prop} {a : Act} {w : World} {l : List Oper} (N : Nat) (I : Act → Act → World → Prop) (R : Nat → Act → World → Prop)
    (hm : P.follows .mixedOrders = true) (hB : postB N l.toArray = true) (hN : ∀ x w, I a x w → x.tmps.size = N) (hloc : locsA l.toArray R 0 l) (h0 : ∀ u, Kept Nil w u → I a a u) (hs : stepsS P l.toArray Q a (I a) R 0 l)
    (hend : ∀ x w, I a x w → (∀ i (o : Oper), l[i]? = some o → R i x w) → wpList P l.toArray Q [] x w) : (Code.region id l.toArray true).wp P Q a w :=
  wp_region_postsY N (I a) R (unwr l.toArray a) hm hB hN hloc (fun u hu => ⟨h0 u hu, fun _ _ _ _ _ => rfl⟩) (stepsS_Y hB l 0 (fun j => by simp) hs) hend
theorem stepS_pure {P : Program} {o : Oper} {a : Act} {u : World} {I : Act → World → Prop} {R : Nat → Act → World → Prop} {Q : Exit → Act → World → Prop} {i : Nat} (v : Value) (h : (execOp a.eval o).run P u = .ok (.value v) u) (hI : I (a.put o.dst v) u) (hR : R i (a.put o.dst v) u) :
    o.wp P a u (fun a' w' => ∃ v, a' = a.put o.dst v ∧ I a' w' ∧ R i a' w' ∧ ∀ j, j ≠ i → R j a u → R j a w') Q := by
  unfold Oper.wp
  rw [h]
  exact ⟨v, rfl, hI, hR, fun _ _ h => h⟩
theorem stepS_val {P : Program} {o : Oper} {a : Act} {u : World} {I : Act → World → Prop} {R : Nat → Act → World → Prop} {Q : Exit → Act → World → Prop} {i : Nat} (v : Value) (u' : World) (h : (execOp a.eval o).run P u = .ok (.value v) u') (hI : I (a.put o.dst v) u') (hR : R i (a.put o.dst v) u') (hj : ∀ j, j ≠ i → R j a u → R j a u') :
    o.wp P a u (fun a' w' => ∃ v, a' = a.put o.dst v ∧ I a' w' ∧ R i a' w' ∧ ∀ j, j ≠ i → R j a u → R j a w') Q := by
  unfold Oper.wp
  rw [h]
  exact ⟨v, rfl, hI, hR, hj⟩
theorem stepS_call {P : Program} {o : Oper} {a : Act} {u : World} {I : Act → World → Prop} {R : Nat → Act → World → Prop} {Q : Exit → Act → World → Prop} {i : Nat} (f : FuncId) (avs : Array Value) (h : (execOp a.eval o).run P u = .ok (.enter f avs) u)
    (hc : Calls P f avs u fun e w' => ∃ v, e = .returned v ∧ I (a.put o.dst v) w' ∧ R i (a.put o.dst v) w' ∧ ∀ j, j ≠ i → R j a u → R j a w') :
    o.wp P a u (fun a' w' => ∃ v, a' = a.put o.dst v ∧ I a' w' ∧ R i a' w' ∧ ∀ j, j ≠ i → R j a u → R j a w') Q := by
  unfold Oper.wp
  rw [h]
  refine hc.mono ?_
  rintro e w' ⟨v, rfl, h1, h2, h3⟩
  exact ⟨v, rfl, h1, h2, h3⟩
theorem stepS_st {P : Program} {o : Oper} {a : Act} {u : World} {I : Act → World → Prop} {R : Nat → Act → World → Prop} {Q : Exit → Act → World → Prop} {i : Nat} (ty : TypeId) (p x : Operand) (ho : o.op = .store ty p x) (hd : o.dst = none) {g f : Nat} (hp : a.eval p = .pointer (some ⟨g, f, none⟩)) (l : List Value) {v : Value} (hx : a.eval x = v) (hvc : v.cells = l.toArray) (hi : (P.info? ty).map (·.size) = some l.length) {T : TypeId} {cs : List Value} (hb : Blo u g T cs.toArray) (hf : f + l.length ≤ cs.length) (h1 : ∀ u ∈ l, u.oneCell' = true)
    (h : ∀ u', Blo u' g T (cs.take f ++ l ++ cs.drop (f + l.length)).toArray → Kept (One g) u u' → u'.heap.size = u.heap.size → I a u' ∧ R i a u' ∧ ∀ j, j ≠ i → R j a u → R j a u') :
    o.wp P a u (fun a' w' => ∃ v, a' = a.put o.dst v ∧ I a' w' ∧ R i a' w' ∧ ∀ j, j ≠ i → R j a u → R j a w') Q := by
  obtain ⟨u', hr, hbl, hk, hz⟩ := exec_st (P := P) ty p x ho hp l hx hvc hi hb hf h1
  obtain ⟨h1, h2, h3⟩ := h u' hbl hk hz
  unfold Oper.wp
  rw [hr]
  exact ⟨undef, rfl, by rw [hd]; exact h1, by rw [hd]; exact h2, h3⟩

/-- What such a region keeps up: ch: the slots of its appends, and what the row reads then; sl: the new block's slot. -/
structure asI (w0 : World) (D : List Nat) (ch : List (Nat × List UInt8)) (sl : Nat) (T : TypeId) (len : Nat) (a0 a : Act) (u : World) : Prop where
  size : a.tmps.size = a0.tmps.size
  defs : a.defers = a0.defers
  fr : ∀ d, d ∉ D → a.eval (.tmp d) = a0.eval (.tmp d)
  kept : Kept Nil w0 u
  al : ∀ g f', a.eval (.tmp sl) = .pointer (some ⟨g, f', none⟩) → w0.heap.size ≤ g ∧ g < u.heap.size ∧ ∃ cs : List Value, cs.length = len ∧ Blo u g T cs.toArray
  row : ∀ (k s : Nat) (l : List UInt8), ch[k]? = some (s, l) → a.eval (.tmp s) ≠ undef → (∀ (k' s' : Nat) (l' : List UInt8), k < k' → ch[k']? = some (s', l') → a.eval (.tmp s') = undef) →
    u.ownsRow w0.heap.size 5 1 (a.eval (.tmp s)) l.length (bys l) ∧ ∀ g f', a.eval (.tmp sl) = .pointer (some ⟨g, f', none⟩) → (a.eval (.tmp s)).ownBlock ≠ some g
  ord : ∀ (k k' s s' : Nat) (l l' : List UInt8), k < k' → ch[k]? = some (s, l) → ch[k']? = some (s', l') → a.eval (.tmp s') ≠ undef → a.eval (.tmp s) ≠ undef
section
variable {w0 : World} {D : List Nat} {ch : List (Nat × List UInt8)} {sl : Nat} {T : TypeId} {len : Nat} {a0 a : Act} {u u' : World}
theorem asI.start (h1 : ∀ (k s : Nat) (l : List UInt8), ch[k]? = some (s, l) → a0.eval (.tmp s) = undef) (h2 : a0.eval (.tmp sl) = undef) (hk : Kept Nil w0 u) : asI w0 D ch sl T len a0 a0 u where
  size := rfl
  defs := rfl
  fr := fun _ _ => rfl
  kept := hk
  al := fun g f' e => by rw [h2] at e; cases e
  row := fun k s l hs hn _ => absurd (h1 k s l hs) hn
  ord := fun k k' s s' l l' _ hs hs' hn => absurd (h1 k' s' l' hs') hn
theorem asI.put (h : asI w0 D ch sl T len a0 a u) (d : Nat) (v : Value) (hd : d ∈ D) (hs : d ≠ sl) (hc : d ∉ ch.map Prod.fst) : asI w0 D ch sl T len a0 (a.put (some d) v) u := by
  have hn : ∀ {k s : Nat} {l : List UInt8}, ch[k]? = some (s, l) → d ≠ s := fun {k s l} hk e => hc (List.mem_map.2 ⟨(s, l), List.mem_of_getElem? hk, e.symm⟩)
  refine ⟨(put_size _ _ _).trans h.size, h.defs, fun k hk => ?_, h.kept, fun g f' e => ?_, fun k s l hk hu hl => ?_, fun k k' s s' l l' hlt hk hk' hu => ?_⟩
  · have hne : d ≠ k := fun e => hk (e ▸ hd)
    rw [eval_put _ _ _ _ hne]
    exact h.fr k hk
  · rw [eval_put _ _ _ _ hs] at e
    exact h.al g f' e
  · rw [eval_put _ _ _ _ (hn hk)] at hu ⊢
    rw [eval_put _ _ _ _ hs]
    exact h.row k s l hk hu (fun k' s' l' hlt hk' => by have := hl k' s' l' hlt hk'; rwa [eval_put _ _ _ _ (hn hk')] at this)
  · rw [eval_put _ _ _ _ (hn hk')] at hu
    rw [eval_put _ _ _ _ (hn hk)]
    exact h.ord k k' s s' l l' hlt hk hk' hu
theorem asI.next (h : asI w0 D ch sl T len a0 a u) (k : Kept Nil u u') : asI w0 D ch sl T len a0 a u' where
  size := h.size
  defs := h.defs
  fr := h.fr
  kept := h.kept.then k
  al := fun g f' e => by
    obtain ⟨h1, h2, cs, h3, h4⟩ := h.al g f' e
    exact ⟨h1, Nat.lt_of_lt_of_le h2 k.size, cs, h3, h4.kept k (fun hf => hf)⟩
  row := fun k' s l hk hu hl => by
    obtain ⟨h1, h2⟩ := h.row k' s l hk hu hl
    exact ⟨own_kept h1 k (fun _ _ hf => hf), h2⟩
  ord := h.ord
theorem own_low {w : World} {B e size n : Nat} {v : Value} {xs : List Value} (h : w.ownsRow B e size v n xs) : ∀ i, v.ownBlock = some i → B ≤ i := by
  intro i hi
  rcases h.2 with ⟨rfl, _⟩ | ⟨g, cap, cur, rfl, hb, _⟩
  · cases hi
  · injection hi with e
    exact e ▸ hb
/-- An append: onto nothing, or onto what the one ahead has answered. -/
theorem asI.app (h : asI w0 D ch sl T len a0 a u) (hnd : (ch.map Prod.fst).Nodup) (k s : Nat) (l : List UInt8) (hk : ch[k]? = some (s, l)) (hsl : s ≠ sl) (hD : s ∈ D) (hsz : s < a.tmps.size) (hun : a.eval (.tmp s) = undef)
    {v : Value} {l0 m : List UInt8} (hl : l = l0 ++ m) (hv : u.ownsRow w0.heap.size 5 1 v l0.length (bys l0)) (hg : ∀ g f', a.eval (.tmp sl) = .pointer (some ⟨g, f', none⟩) → v.ownBlock ≠ some g) (hpv : ∀ (k' s' : Nat) (l' : List UInt8), k' < k → ch[k']? = some (s', l') → a.eval (.tmp s') ≠ undef)
    {A : Option Addr} {n c : Nat} (hy : Byt u A n c m) (hb : l0.length + n ≤ 140737488355328) {ty : TypeId} :
    ∃ v' u', (Builtin.append_ #[68, 68] ty #[v, .slice A n c]).run Tryd.prog u = .ok v' u' ∧ asI w0 D ch sl T len a0 (a.put (some s) v') u' ∧ (∃ A c, v' = .slice A l.length c) ∧ Kept (fun i => v.ownBlock = some i) u u' := by
  obtain ⟨i0, hi, hz0, hz1, hz2⟩ := info_parts Tryd.infb
  obtain ⟨v', u', hr, hn, hgr, hor⟩ := run_app (P := Tryd.prog) (ty := ty) Tryd.underlying68 hi hz0 hz1 hz2 rfl hv hy hb h.kept.size
  have e1 : l0.length + n = l.length := by rw [hl, List.length_append, hy.1]
  rw [e1, ← bys_app, ← hl] at hn
  have hkk : Kept (fun i => v.ownBlock = some i) u u' := (Kept.refl _ u).grown hgr (fun k hk _ => hk)
  have hap : ∀ {k' s' : Nat} {l' : List UInt8}, ch[k']? = some (s', l') → k' ≠ k → s ≠ s' := by
    intro k' s' l' hk' hne e
    have h1 : (ch.map Prod.fst)[k']? = some s' := by rw [List.getElem?_map, hk']; rfl
    have h2 : (ch.map Prod.fst)[k]? = some s' := by rw [List.getElem?_map, hk, ← e]; rfl
    exact hne ((List.getElem?_inj (by have := (List.getElem?_eq_some_iff.1 h1).1; exact this) hnd).1 (h1.trans h2.symm))
  have hlater : ∀ (k' s' : Nat) (l' : List UInt8), k < k' → ch[k']? = some (s', l') → a.eval (.tmp s') = undef := by
    intro k' s' l' hlt hk'
    apply Classical.byContradiction
    intro hc
    exact h.ord k k' s s' l l' hlt hk hk' hc hun
  have hne' : v' ≠ undef := by
    obtain ⟨A', c', rfl, _⟩ := Byt.of_own hn
    exact fun e => by cases e
  refine ⟨v', u', hr, ⟨(put_size _ _ _).trans h.size, h.defs, fun d hd => ?_, h.kept.fresh hkk (fun i hi => own_low hv i hi), fun g f' e => ?_, fun k' s' l' hk' hu hl' => ?_, fun k1 k2 s1 s2 l1 l2 hlt h1 h2 hu => ?_⟩, ?_, hkk⟩
  · have hne : _ ≠ d := fun e => hd (e ▸ hD)
    rw [eval_put _ _ _ _ hne]
    exact h.fr d hd
  · rw [eval_put _ _ _ _ hsl] at e
    obtain ⟨h1, h2, cs, h3, h4⟩ := h.al g f' e
    exact ⟨h1, Nat.lt_of_lt_of_le h2 hkk.size, cs, h3, h4.kept hkk (hg g f' e)⟩
  · rcases Nat.lt_trichotomy k' k with hlt | rfl | hlt
    · have := hl' k s l hlt hk
      rw [eval_same _ _ _ hsz] at this
      exact absurd this hne'
    · rw [hk] at hk'
      cases hk'
      rw [eval_same _ _ _ hsz, eval_put _ _ _ _ hsl]
      refine ⟨hn, fun g f' e => ?_⟩
      rcases hor with h' | h'
      · rw [h']; exact hg g f' e
      · rw [h']
        intro e'
        injection e' with e'
        have := (h.al g f' e).2.1
        omega
    · rw [eval_put _ _ _ _ (hap hk' (by omega))] at hu
      exact absurd (hlater k' s' l' hlt hk') hu
  · by_cases e1 : k2 = k
    · subst e1
      rw [eval_put _ _ _ _ (hap h1 (by omega))]
      exact hpv k1 s1 l1 hlt h1
    · rw [eval_put _ _ _ _ (hap h2 e1)] at hu
      by_cases e2 : k1 = k
      · subst e2
        exact absurd (hlater k2 s2 l2 hlt h2) hu
      · rw [eval_put _ _ _ _ (hap h1 e2)]
        exact h.ord k1 k2 s1 s2 l1 l2 hlt h1 h2 hu
  · obtain ⟨A', c', rfl, _⟩ := Byt.of_own hn
    exact ⟨A', c', rfl⟩
/-- The new block. -/
theorem asI.alloc (h : asI w0 D ch sl T len a0 a u) (hc : sl ∉ ch.map Prod.fst) (hD : sl ∈ D) (hsz : sl < a.tmps.size) (cs : List Value) (hl : cs.length = len) : asI w0 D ch sl T len a0 (a.put (some sl) (pAt u.heap.size 0)) (u.alloc (.cells cs.toArray T)) := by
  have k := (Kept.refl Nil u).alloc (.cells cs.toArray T)
  have hn : ∀ {k s : Nat} {l : List UInt8}, ch[k]? = some (s, l) → sl ≠ s := fun {k s l} hk e => hc (List.mem_map.2 ⟨(s, l), List.mem_of_getElem? hk, e.symm⟩)
  refine ⟨(put_size _ _ _).trans h.size, h.defs, fun d hd => ?_, h.kept.then k, fun g f' e => ?_, fun k' s l hk hu hl' => ?_, fun k' k'' s s' l l' hlt hk hk' hu => ?_⟩
  · have hne : _ ≠ d := fun e => hd (e ▸ hD)
    rw [eval_put _ _ _ _ hne]
    exact h.fr d hd
  · rw [eval_same _ _ _ hsz] at e
    unfold pAt at e
    cases e
    exact ⟨h.kept.size, by simp, cs, hl, Blo.new _ _ _⟩
  · rw [eval_put _ _ _ _ (hn hk)] at hu ⊢
    obtain ⟨h1, h2⟩ := h.row k' s l hk hu (fun k' s' l' hlt hk' => by have := hl' k' s' l' hlt hk'; rwa [eval_put _ _ _ _ (hn hk')] at this)
    refine ⟨own_kept h1 k (fun _ _ hf => hf), fun g f' e eg => ?_⟩
    rw [eval_same _ _ _ hsz] at e
    unfold pAt at e
    cases e
    exact absurd (own_blt h1 _ eg) (Nat.lt_irrefl _)
  · rw [eval_put _ _ _ _ (hn hk')] at hu
    rw [eval_put _ _ _ _ (hn hk)]
    exact h.ord k' k'' s s' l l' hlt hk hk' hu
/-- The store into it. -/
theorem asI.store (h : asI w0 D ch sl T len a0 a u) {g : Nat} (k : Kept (One g) u u') (hz : u'.heap.size = u.heap.size) (e : a.eval (.tmp sl) = pAt g 0) (cs : List Value) (hl : cs.length = len) (hb : Blo u' g T cs.toArray) : asI w0 D ch sl T len a0 a u' := by
  obtain ⟨hg1, hg2, _⟩ := h.al g 0 e
  refine ⟨h.size, h.defs, h.fr, h.kept.fresh k (fun i hi => by cases hi; exact hg1), fun g' f' e' => ?_, fun k' s l hk hu hl' => ?_, h.ord⟩
  · rw [e] at e'
    unfold pAt at e'
    cases e'
    exact ⟨hg1, by rw [hz]; exact hg2, cs, hl, hb⟩
  · obtain ⟨h1, h2⟩ := h.row k' s l hk hu hl'
    refine ⟨own_kept h1 k (fun i hi hf => ?_), h2⟩
    cases hf
    exact h2 _ 0 e hi
end
theorem ln_s (A : Option Addr) (n c : Nat) (ty : TypeId) (u : World) : (Builtin.len_ #[68] ty #[.slice A n c]).run Tryd.prog u = .ok (.int .i64 (n : Int)) u := by
  simp [Builtin.len_, Builtin.lenOf, run_underlying Tryd.underlying68, goInt]
theorem mn_s (n b m : Nat) (ty : TypeId) (u : World) (h : (if (b : Int) < (n : Int) then (b : Int) else (n : Int)) = (m : Int)) : (Builtin.min_ #[3, 3] ty #[.int .i64 (n : Int), .int .i64 (b : Int)]).run Tryd.prog u = .ok (.int .i64 (m : Int)) u := by
  rw [← h]
  simp [Builtin.min_, Builtin.min2]
theorem exS_0 (a b : Value) (u : World) : (Instr.extract (.tuple #[a, b]) 0).run Tryd.prog u = .ok a u := by kernel_rfl
theorem exS_1 (a b : Value) (u : World) : (Instr.extract (.tuple #[a, b]) 1).run Tryd.prog u = .ok b u := by kernel_rfl
end Go.Proofs.YtiehmpiaddjhiaaDoor
