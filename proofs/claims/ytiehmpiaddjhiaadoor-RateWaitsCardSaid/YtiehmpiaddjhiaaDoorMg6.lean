/- Texts that belong together, one behind the other: EthT, Bd. Conditions: those of each. -/
import Derived.Test.YtiehmpiaddjhiaaDoorMg5
import Derived.Test.YtiehmpiaddjhiaaDoorMg4
/- Regions that draw their order and store into the fields of one block. Nothing of the program is named here. -/
namespace Go.Proofs.YtiehmpiaddjhiaaDoor
open Go.RowKit Go.Sort
set_option linter.unusedVariables false

theorem wpQuiet_ld {P : Program} {ops : Array Oper} {C : World → Prop} {Q : Act → Prop} {o : Oper} {rest : List Oper} {a : Act} (hgd : Region.wanted o (yielded ops a.tmps) = true) (ty : TypeId) (p : Operand) (ho : o.op = .load ty p)
    (g f : Nat) (hp : a.eval p = .pointer (some ⟨g, f, none⟩)) (l : List Value) (hl : ∀ w, C w → Row w g f l) (d : TypeDesc) (hu : P.underlying ty = some d) (hd : aggB d = true) (hi : (P.info? ty).map (·.size) = some l.length)
    (h : wpQuiet P ops C Q rest (a.put o.dst (.agg l.toArray))) : wpQuiet P ops C Q (o :: rest) a := by
  unfold wpQuiet
  rw [if_pos hgd]
  refine ⟨_, fun w hw => ?_, h⟩
  unfold Oper.quietAt execOp
  simp only [ho, hp, Instr.loadAt, Instr.sureAddr, Sem.run_bind, Sem.run_pure, Result.andThen_ok, run_loadRow (hl w hw) hu hd hi]
  exact ⟨rfl, rfl⟩
theorem row_grown {V w : World} {g f : Nat} {l : List Value} (h : Row V g f l) (hw : ∃ p : Regrown, w = grow (redrawn V p.d) p.os) : Row w g f l := by
  obtain ⟨p, rfl⟩ := hw
  exact h.kept (kept_grown V p) (fun hf => hf)
/-- A block that is stored into, step by step. -/
def stI (g : Nat) (T : TypeId) (cs : Nat → List Value) (D : Nat → Prop) (s : List Value) (u : World) : Prop := Blo u g T (cs s.length).toArray ∧ ∀ k, D k → k ≠ g
theorem stI_keeps (g : Nat) (T : TypeId) (cs : Nat → List Value) : Keeps (stI g T cs) where
  quiet := fun D s u u' h k => ⟨h.1.kept k (fun hf => hf), h.2⟩
  make := fun D s u o h => ⟨h.1.alloc o, fun k hk => by
    rcases hk with hk | rfl
    · exact h.2 k hk
    · exact fun e => Nat.lt_irrefl _ (e ▸ h.1.lt)⟩
theorem tLex_st {P : Program} {ops : Array Oper} {F : Nat → Prop} {W : World} {acts : List Nat} {Z : Nat → List Value → Array Value × TypeId} {vs : Nat → Value} {Pv : Nat → Value → Prop} {Tf : Act → Mad → List Value → Prop} {o : Oper} {rest : List Oper} {k : Nat} {a : Act} {L : Mad} {s : List Value}
    {g : Nat} {T : TypeId} {cs : Nat → List Value} (hF : F g) (f : Nat) (ty : TypeId) (p x : Operand) (ho : o.op = .store ty p x) (hg : Region.wanted o (yielded ops a.tmps) = true) (hk : acts.contains k = true) (hv : Pv k undef) (n : Nat) (hn : s.length = n)
    (hp : a.eval p = .pointer (some ⟨g, f, none⟩)) (l : List Value) (v : Value) (hx : a.eval x = v) (hvc : v.cells = l.toArray) (hi : (P.info? ty).map (·.size) = some l.length) (hf : f + l.length ≤ (cs n).length) (h1 : ∀ u ∈ l, u.oneCell' = true)
    (hcs : cs (n + 1) = (cs n).take f ++ l ++ (cs n).drop (f + l.length)) (hpv : ∀ v, Pv k v → v = undef)
    (h : tLex P ops F W acts Z vs (stI g T cs) Pv Tf rest (k + 1) (a.put o.dst undef) L (s ++ [undef])) : tLex P ops F W acts Z vs (stI g T cs) Pv Tf (o :: rest) k a L s := by
  have hkd : kdOf ops acts k o a = .act := by
    unfold kdOf
    rw [if_pos hg, if_pos hk]
  show tO P ops F W acts Z vs (stI g T cs) Pv k o _ a L s
  unfold tO
  simp only [hkd]
  refine ⟨fun D u hu hI hd => ?_, ⟨undef, hv⟩, fun v hv => by rw [hpv v hv]; exact h⟩
  have hb := hI.1
  rw [hn] at hb
  have hs := run_storeRow (P := P) g f T l 0 (cs n).toArray u hb (by simpa using hf) h1
  have hsv : (storeVar ty ⟨g, f, none⟩ v).run P u = .ok () (u.setRow g ((cs n).take f ++ l ++ (cs n).drop (f + l.length)).toArray) := by
    cases hq : P.info? ty with
    | none => simp [hq] at hi
    | some i =>
      have hz : i.size = l.length := by simpa [hq] using hi
      simp only [Nat.add_zero] at hs
      simp [storeVar, sizeOf, typeInfo, hq, hvc, hz, hs]
  unfold execOp
  simp only [ho, hp, hx, Instr.storeAt, Instr.sureAddr, Sem.run_bind, Sem.run_pure, Result.andThen_ok, hsv, actUpon]
  have hk2 := kept_setRow u g ((cs n).take f ++ l ++ (cs n).drop (f + l.length)).toArray
  refine ⟨hv, hu.trans hk2 (fun i _ hi => by cases hi; exact hF), ⟨?_, hI.2⟩, by simp [World.setRow], fun k hDk hku => hk2.block k hku (fun hf => hI.2 k hDk hf)⟩
  have := setRow_heap u g _ ((cs n).take f ++ l ++ (cs n).drop (f + l.length)).toArray T _ hb
  unfold Blo
  rw [List.length_append, hn, List.length_singleton, hcs]
  exact this
theorem exec_app {P : Program} {o : Oper} {a : Act} {u w' : World} (s x : Operand) (t : TypeId) (ho : o.op = .call { callee := .builtin .append, args := #[s, x], argTypes := #[t, t] }) {v vx v' : Value} (hs : a.eval s = v) (hx : a.eval x = vx)
    (hr : (Builtin.append_ #[t, t] o.type #[v, vx]).run P u = .ok v' w') : (execOp a.eval o).run P u = .ok (.value v') w' := by
  unfold execOp
  simp only [ho, resolve, invoke, builtin, Sem.run_bind, Sem.run_pure, Result.andThen_ok, List.map_toArray, List.map_cons, List.map_nil, hs, hx, hr]
theorem exec_ld1 {P : Program} {o : Oper} {a : Act} {u : World} (ty e : TypeId) (p : Operand) (ho : o.op = .load ty p) {g f : Nat} {v : Value} (hp : a.eval p = .pointer (some ⟨g, f, none⟩)) (hc : u.cell? ⟨g, f, none⟩ = some v) (hu : P.underlying ty = some (.slice e)) :
    (execOp a.eval o).run P u = .ok (.value v) u := by
  have hl : (loadVar ty ⟨g, f, none⟩).run P u = .ok v u := by simp [loadVar, isAgg, run_underlying hu, hc, go_sem]
  unfold execOp
  simp only [ho, hp, Instr.loadAt, Instr.sureAddr, Sem.run_bind, Sem.run_pure, Result.andThen_ok, hl]
theorem exec_st {P : Program} {o : Oper} {a : Act} {u : World} (ty : TypeId) (p x : Operand) (ho : o.op = .store ty p x) {g f : Nat} (hp : a.eval p = .pointer (some ⟨g, f, none⟩)) (l : List Value) {v : Value} (hx : a.eval x = v) (hvc : v.cells = l.toArray) (hi : (P.info? ty).map (·.size) = some l.length) {T : TypeId} {cs : List Value} (hb : Blo u g T cs.toArray) (hf : f + l.length ≤ cs.length) (h1 : ∀ u ∈ l, u.oneCell' = true) :
    ∃ w', (execOp a.eval o).run P u = .ok .skip w' ∧ Blo w' g T (cs.take f ++ l ++ cs.drop (f + l.length)).toArray ∧ Kept (One g) u w' ∧ w'.heap.size = u.heap.size := by
  have hs := run_storeRow (P := P) g f T l 0 cs.toArray u hb (by simpa using hf) h1
  have hsv : (storeVar ty ⟨g, f, none⟩ v).run P u = .ok () (u.setRow g (cs.take f ++ l ++ cs.drop (f + l.length)).toArray) := by
    cases hq : P.info? ty with
    | none => simp [hq] at hi
    | some i =>
      have hz : i.size = l.length := by simpa [hq] using hi
      simp only [Nat.add_zero] at hs
      simp [storeVar, sizeOf, typeInfo, hq, hvc, hz, hs]
  refine ⟨_, ?_, setRow_heap u g _ _ T _ hb, kept_setRow u g _, by simp [World.setRow]⟩
  unfold execOp
  simp only [ho, hp, hx, Instr.storeAt, Instr.sureAddr, Sem.run_bind, Sem.run_pure, Result.andThen_ok, hsv]
/-- Any act, by what it does. -/
theorem tLex_raw {P : Program} {ops : Array Oper} {F : Nat → Prop} {W : World} {acts : List Nat} {Z : Nat → List Value → Array Value × TypeId} {vs : Nat → Value} {I : (Nat → Prop) → List Value → World → Prop} {Pv : Nat → Value → Prop} {Tf : Act → Mad → List Value → Prop} {o : Oper} {rest : List Oper} {k : Nat} {a : Act} {L : Mad} {s : List Value}
    (hg : Region.wanted o (yielded ops a.tmps) = true) (hk : acts.contains k = true) (hv : ∃ v, Pv k v)
    (hA : ∀ D u, Kept F W u → I D s u → (∀ g x, Dep (opVals o a) g → L g = some x → D g ∧ Blo u g x.2 x.1) →
      actUpon P (fun v w' => Pv k v ∧ Kept F W w' ∧ I D (s ++ [v]) w' ∧ u.heap.size ≤ w'.heap.size ∧ ∀ k, D k → k < u.heap.size → w'.heap[k]? = u.heap[k]?) ((execOp a.eval o).run P u))
    (h : ∀ v, Pv k v → tLex P ops F W acts Z vs I Pv Tf rest (k + 1) (a.put o.dst v) L (s ++ [v])) : tLex P ops F W acts Z vs I Pv Tf (o :: rest) k a L s := by
  have hkd : kdOf ops acts k o a = .act := by
    unfold kdOf
    rw [if_pos hg, if_pos hk]
  show tO P ops F W acts Z vs I Pv k o _ a L s
  unfold tO
  simp only [hkd]
  exact ⟨hA, hv, h⟩
end Go.Proofs.YtiehmpiaddjhiaaDoor
/- A struct built in a region that only reads. Nothing of the program is named here. -/
namespace Go.Proofs.YtiehmpiaddjhiaaDoor
open Go.RowKit Go.Sort
set_option linter.unusedVariables false

theorem wpQuiet_bd {P : Program} {ops : Array Oper} {C : World → Prop} {Q : Act → Prop} {o : Oper} {rest : List Oper} {a : Act} (hgd : Region.wanted o (yielded ops a.tmps) = true) (ty : TypeId) (ps : Array (Nat × Operand)) (ho : o.op = .build ty ps) (xs : Array (Nat × Value)) (hxs : (ps.toList.map fun x => (x.1, a.eval x.2)) = xs.toList) (v : Value)
    (hv : ∀ w, (Instr.build ty xs).run P w = .ok v w) (h : wpQuiet P ops C Q rest (a.put o.dst v)) : wpQuiet P ops C Q (o :: rest) a := by
  have e : (ps.map fun x => (x.1, a.eval x.2)) = xs := Array.toList_inj.1 (by rw [Array.toList_map]; exact hxs)
  unfold wpQuiet
  rw [if_pos hgd]
  refine ⟨v, fun w hw => ?_, h⟩
  unfold Oper.quietAt execOp
  simp only [ho, e, Sem.run_bind, Sem.run_pure, hv, Result.andThen_ok]
  exact ⟨rfl, rfl⟩
end Go.Proofs.YtiehmpiaddjhiaaDoor
