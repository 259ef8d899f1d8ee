/- Texts that belong together, one behind the other: Agg, EthT. Conditions: those of each. -/
import Derived.Test.YtiehmpiaddjhiaaDoorMg6
import Derived.Deep.WholeRow
import Derived.BigFrame
/- Rows of many cells, loaded and stored in one step; a new name for the world. Nothing of the program is named here. -/
namespace Go.Proofs.YtiehmpiaddjhiaaDoor
open Go.RowKit Go.Sort
set_option linter.unusedVariables false

theorem addr_add (g o j : Nat) : (⟨g, o, none⟩ : Addr).add j = ⟨g, o + j, none⟩ := by unfold Addr.add; split <;> simp_all
/-- The cells of a block read, from a place on, as a list. -/
def Row (w : World) (g o : Nat) (l : List Value) : Prop := ∀ j u, l[j]? = some u → w.cell? ⟨g, o + j, none⟩ = some u
theorem Row.kept {F : Nat → Prop} {w w' : World} {g o : Nat} {l : List Value} (h : Row w g o l) (k : Kept F w w') (hg : ¬ F g) : Row w' g o l := fun j u hu => k.cell (h j u hu) hg
theorem Blo.row {w : World} {g : Nat} {t : TypeId} (a l b : List Value) (h : Blo w g t (a ++ l ++ b).toArray) : Row w g a.length l := by
  intro j u hu
  have hj : j < l.length := (List.getElem?_eq_some_iff.1 hu).1
  rw [h.cell]
  rw [List.getElem?_toArray, List.append_assoc, List.getElem?_append_right (by omega), Nat.add_sub_cancel_left, List.getElem?_append_left hj, hu]
def aggB (d : TypeDesc) : Bool := match d with | .struct _ | .array _ _ => true | _ => false
theorem run_loadRow {P : Program} {w : World} {g o : Nat} {l : List Value} {ty : TypeId} {d : TypeDesc} (hl : Row w g o l) (hu : P.underlying ty = some d) (hd : aggB d = true) (hi : (P.info? ty).map (·.size) = some l.length) :
    (loadVar ty ⟨g, o, none⟩).run P w = .ok (.agg l.toArray) w := by
  have hl : (loadCells ⟨g, o, none⟩ l.length).run P w = .ok l.toArray w :=
    run_loadCells_list (P := P) w ⟨g, o, none⟩ l (fun j v hv => by rw [addr_add]; exact hl j v hv)
  cases hq : P.info? ty with
  | none => simp [hq] at hi
  | some i =>
    have hs : i.size = l.length := by simpa [hq] using hi
    have hagg : (isAgg ty).run P w = .ok true w := by
      unfold isAgg
      rw [Sem.run_bind, run_underlying hu w]
      cases d <;> simp_all [aggB]
    simp [loadVar, Sem.run_bind, hagg, sizeOf, typeInfo, hq, hs, hl]
theorem wpList_ld {P : Program} {w : World} {ops : Array Oper} {rest : List Oper} {o : Oper} {a : Act} {Q : Exit → Act → World → Prop} (hgd : Region.wanted o (yielded ops a.tmps) = true) (ty : TypeId) (p : Operand) (ho : o.op = .load ty p)
    (g f : Nat) (hp : a.eval p = .pointer (some ⟨g, f, none⟩)) (l : List Value) (hl : Row w g f l) (d : TypeDesc) (hu : P.underlying ty = some d) (hd : aggB d = true) (hi : (P.info? ty).map (·.size) = some l.length)
    (h : wpList P ops Q rest (a.put o.dst (.agg l.toArray)) w) : wpList P ops Q (o :: rest) a w := by
  refine BigFrame.wpList_want hgd fun K hK => ?_
  unfold Oper.wp execOp
  simp only [ho, hp, Instr.loadAt, Instr.sureAddr, Sem.run_bind, Sem.run_pure, Result.andThen_ok, run_loadRow hl hu hd hi]
  exact hK _ _ h
theorem run_storeRow {P : Program} (g f : Nat) (t : TypeId) : ∀ (vs : List Value) (i : Nat) (cur : Array Value) (w : World), w.heap[g]? = some (.cells cur t (0, 0)) → f + i + vs.length ≤ cur.size → (∀ v ∈ vs, v.oneCell' = true) →
    (storeCells ⟨g, f, none⟩ vs i).run P w = .ok () (w.setRow g (cur.toList.take (f + i) ++ vs ++ cur.toList.drop (f + i + vs.length)).toArray)
  | [], i, cur, w, hg, hl, _ => by
    have hlt : g < w.heap.size := (Array.getElem?_eq_some_iff.1 hg).1
    have hv : w.heap[g] = .cells cur t (0, 0) := (Array.getElem?_eq_some_iff.1 hg).2
    simp only [storeCells, List.append_nil, List.length_nil, Nat.add_zero, List.take_append_drop, Array.toArray_toList]
    show Result.ok () w = _
    congr 1
    unfold World.setRow
    cases w with
    | mk heap tape drawn os output =>
      congr 1
      apply Array.ext
      · simp
      · intro k h1 h2
        simp only [Array.getElem_modify]
        split
        · rename_i hk; subst hk; simp at hv; simp [hv]
        · rfl
  | v :: rest, i, cur, w, hg, hl, h1 => by
    have hi : f + i < cur.size := by simp at hl; omega
    have hcell : w.cell? ⟨g, f + i, none⟩ = some cur[f + i] := by simp [World.cell?, hg, hi]
    have hfro : w.frozen? ⟨g, f + i, none⟩ = false := by simp [World.frozen?, hg]
    have hst : (store ((⟨g, f, none⟩ : Addr).add i) v).run P w = .ok () (w.setRow g (cur.setIfInBounds (f + i) v)) := by
      rw [addr_add, run_store P w _ v _ (h1 v (by simp)), hcell]
      simp [hfro, setCell_eq_setRow w g (f + i) cur t (0, 0) v hg]
    have ih := run_storeRow (P := P) g f t rest (i + 1) (cur.setIfInBounds (f + i) v) (w.setRow g (cur.setIfInBounds (f + i) v)) (setRow_heap w g cur _ t _ hg) (by simp at hl ⊢; omega) (fun x hx => h1 x (by simp [hx]))
    simp only [storeCells, Sem.run_bind, hst, Result.andThen_ok, ih, setRow_setRow]
    congr 3
    apply List.ext_getElem?
    intro k
    simp only [Array.toList_setIfInBounds, List.getElem?_append, List.length_take, List.length_append, List.length_set, Array.length_toList, List.getElem?_drop, List.getElem?_take, List.length_cons]
    rw [Nat.min_eq_left (by omega : f + (i + 1) ≤ cur.size), Nat.min_eq_left (by omega : f + i ≤ cur.size)]
    by_cases hk : k < f + i
    · simp [hk, show k < f + (i + 1) by omega, show k < f + (i + 1) + rest.length by omega, show k < f + i + (rest.length + 1) by omega, show ¬ f + i = k by omega]
    · by_cases hk2 : k = f + i
      · subst hk2
        simp [show f + i < f + (i + 1) by omega, show f + i < f + (i + 1) + rest.length by omega, hi]
      · by_cases hk3 : k < f + i + (rest.length + 1)
        · simp [hk, show ¬ k < f + (i + 1) by omega, show k < f + (i + 1) + rest.length by omega, hk3, show k - (f + i) = (k - (f + (i + 1))) + 1 by omega]
        · simp [hk, show ¬ k < f + (i + 1) by omega, show ¬ k < f + (i + 1) + rest.length by omega, hk3]
          rw [List.getElem?_set_ne (by omega), show f + (i + 1) + rest.length + (k - (f + (i + 1) + rest.length)) = f + i + (rest.length + 1) + (k - (f + i + (rest.length + 1))) by omega, Array.getElem?_toList]
theorem kept_setRow (w : World) (g : Nat) (cs : Array Value) : Kept (One g) w (w.setRow g cs) := by
  refine ⟨rfl, rfl, rfl, by simp [World.setRow], fun k hk hF => ?_⟩
  unfold World.setRow
  simp only
  rw [Array.getElem?_modify]
  rw [if_neg (fun e => hF (by unfold One; exact e.symm))]
theorem wpList_st {P : Program} {w : World} {ops : Array Oper} {rest : List Oper} {o : Oper} {a : Act} {Q : Exit → Act → World → Prop} (hgd : Region.wanted o (yielded ops a.tmps) = true) (ty : TypeId) (p x : Operand) (ho : o.op = .store ty p x)
    (g f : Nat) (hp : a.eval p = .pointer (some ⟨g, f, none⟩)) (l : List Value) (v : Value) (hx : a.eval x = v) (hv : v.cells = l.toArray) (hi : (P.info? ty).map (·.size) = some l.length) (T : TypeId) (cs : List Value) (hb : Blo w g T cs.toArray) (hf : f + l.length ≤ cs.length) (h1 : ∀ u ∈ l, u.oneCell' = true)
    (h : ∀ w', Blo w' g T (cs.take f ++ l ++ cs.drop (f + l.length)).toArray → Kept (One g) w w' → w'.heap.size = w.heap.size → wpList P ops Q rest (a.put o.dst undef) w') : wpList P ops Q (o :: rest) a w := by
  refine BigFrame.wpList_want hgd fun K hK => ?_
  have hs := run_storeRow (P := P) g f T l 0 cs.toArray w hb (by simpa using hf) h1
  have hsv : (storeVar ty ⟨g, f, none⟩ v).run P w = .ok () (w.setRow g (cs.take f ++ l ++ cs.drop (f + l.length)).toArray) := by
    cases hq : P.info? ty with
    | none => simp [hq] at hi
    | some i =>
      have hz : i.size = l.length := by simpa [hq] using hi
      simp only [Nat.add_zero] at hs
      simp [storeVar, sizeOf, typeInfo, hq, hv, hz, hs]
  unfold Oper.wp execOp
  simp only [ho, hp, hx, Instr.storeAt, Instr.sureAddr, Sem.run_bind, Sem.run_pure, Result.andThen_ok, hsv]
  exact hK _ _ (h _ (setRow_heap w g _ _ T _ hb) (kept_setRow w g _) (by simp [World.setRow]))

theorem res_cell1 {P : Program} {fn : Func} {w : World} {p u : Tmp} {ty : TypeId} {g : Nat} {l : List Value} {d : TypeDesc} {tmps : Array Value} {x : Value} (h : fn.results = #[.cell p ty, .tmp u]) (hp : tmps.getD p undef = .pointer (some ⟨g, 0, none⟩)) (hx : tmps.getD u undef = x)
    (hl : Row w g 0 l) (hu : P.underlying ty = some d) (hd : aggB d = true) (hi : (P.info? ty).map (·.size) = some l.length) : (results fn tmps).run P w = .ok (.tuple #[.agg l.toArray, x]) w := by
  simp only [results, h]
  simp only [Array.getD_eq_getD_getElem?] at hp hx
  simp [Sem.run_bind, Result.andThen, hp, hx, asAddr, run_loadRow hl hu hd hi]
theorem res_cell0 {P : Program} {fn : Func} {w : World} {p : Tmp} {ty : TypeId} {g : Nat} {l : List Value} {d : TypeDesc} {tmps : Array Value} (h : fn.results = #[.cell p ty]) (hp : tmps.getD p undef = .pointer (some ⟨g, 0, none⟩))
    (hl : Row w g 0 l) (hu : P.underlying ty = some d) (hd : aggB d = true) (hi : (P.info? ty).map (·.size) = some l.length) : (results fn tmps).run P w = .ok (.agg l.toArray) w := by
  simp only [results, h]
  simp only [Array.getD_eq_getD_getElem?] at hp
  simp [Sem.run_bind, Result.andThen, hp, asAddr, run_loadRow hl hu hd hi]
theorem res_cell2 {P : Program} {fn : Func} {w : World} {p u u2 : Tmp} {ty : TypeId} {g : Nat} {l : List Value} {d : TypeDesc} {tmps : Array Value} {x y : Value} (h : fn.results = #[.cell p ty, .tmp u, .tmp u2]) (hp : tmps.getD p undef = .pointer (some ⟨g, 0, none⟩)) (hx : tmps.getD u undef = x) (hy : tmps.getD u2 undef = y)
    (hl : Row w g 0 l) (hu : P.underlying ty = some d) (hd : aggB d = true) (hi : (P.info? ty).map (·.size) = some l.length) : (results fn tmps).run P w = .ok (.tuple #[.agg l.toArray, x, y]) w := by
  simp only [results, h]
  simp only [Array.getD_eq_getD_getElem?] at hp hx hy
  simp [Sem.run_bind, Result.andThen, hp, hx, hy, asAddr, run_loadRow hl hu hd hi]
theorem wp_nameE {P : Program} {c : Code} {Q : Exit → Act → World → Prop} {a : Act} {W0 : World} (R : World → Prop) (h0 : R W0) (h : ∀ W, R W → Code.wp P c Q a W) : Code.wp P c Q a W0 := h W0 h0
theorem eqFields_step {P : Program} {w : World} {d : Nat} {xs ys : Array Value} {f : Field} {fs : List Field} (u v : Value) {b r : Bool} (hn : f.name ≠ "_") (hx : (part f.type xs f.offset).run P w = .ok u w) (hy : (part f.type ys f.offset).run P w = .ok v w) (he : (Op.equalIn d f.type u v).run P w = .ok b w)
    (hr : (Op.eqFields d xs ys fs).run P w = .ok r w) : (Op.eqFields d xs ys (f :: fs)).run P w = .ok (b && r) w := by
  simp only [Op.eqFields, if_pos hn, Sem.run_bind, hx, hy, he, Result.andThen_ok]
  cases b <;> simp [hr]
theorem part_row {P : Program} {w : World} {ty : TypeId} {d : TypeDesc} (a l b : List Value) (n : Nat) (hn : a.length = n) (hu : P.underlying ty = some d) (hd : aggB d = true) (hi : (P.info? ty).map (·.size) = some l.length) :
    (part ty (a ++ (l ++ b)).toArray n).run P w = .ok (.agg l.toArray) w := by
  have hagg : (isAgg ty).run P w = .ok true w := by
    unfold isAgg
    rw [Sem.run_bind, run_underlying hu w]
    cases d <;> simp_all [aggB]
  cases hq : P.info? ty with
  | none => simp [hq] at hi
  | some i =>
    have hs : i.size = l.length := by simpa [hq] using hi
    subst hn
    simp [part, Sem.run_bind, hagg, sizeOf, typeInfo, hq, hs]
theorem part_one {P : Program} {w : World} {ty : TypeId} {d : TypeDesc} (a b : List Value) (x : Value) (n : Nat) (hn : a.length = n) (hu : P.underlying ty = some d) (hd : aggB d = false) :
    (part ty (a ++ (x :: b)).toArray n).run P w = .ok x w := by
  have hagg : (isAgg ty).run P w = .ok false w := by
    unfold isAgg
    rw [Sem.run_bind, run_underlying hu w]
    cases d <;> simp_all [aggB]
  subst hn
  simp [part, Sem.run_bind, hagg]
/-- A part of a block, as bytes. -/
theorem byt_row {w : World} {g o : Nat} {l : List UInt8} (h : Row w g o (bys l)) (hl : l.length ≤ 9223372036854775807) (n : Nat) (hn : l.length = n) : Byt w (some ⟨g, o, none⟩) n n l := by
  subst hn
  refine ⟨rfl, Nat.le_refl _, hl, fun _ => ⟨g, o, rfl, fun i hi => ?_⟩⟩
  refine h i _ ?_
  show (l.map _)[i]? = _
  rw [List.getElem?_map, List.getElem?_eq_getElem hi]
  rfl
end Go.Proofs.YtiehmpiaddjhiaaDoor
/- Regions that draw their order and store into the fields of one block. Nothing of the program is named here. -/
namespace Go.Proofs.YtiehmpiaddjhiaaDoor
open Go.RowKit Go.Sort
set_option linter.unusedVariables false

theorem wpQuiet_ld {P : Program} {ops : Array Oper} {C : World → Prop} {Q : Act → Prop} {o : Oper} {rest : List Oper} {a : Act} (hgd : Region.wanted o (yielded ops a.tmps) = true) (ty : TypeId) (p : Operand) (ho : o.op = .load ty p)
    (g f : Nat) (hp : a.eval p = .pointer (some ⟨g, f, none⟩)) (l : List Value) (hl : ∀ w, C w → Row w g f l) (d : TypeDesc) (hu : P.underlying ty = some d) (hd : aggB d = true) (hi : (P.info? ty).map (·.size) = some l.length)
    (h : wpQuiet P ops C Q rest (a.put o.dst (.agg l.toArray))) : wpQuiet P ops C Q (o :: rest) a := by
  unfold wpQuiet
  rw [if_pos hgd]
  refine ⟨_, fun w hw => ?_, h⟩
  unfold Oper.quietAt execOp
  simp only [ho, hp, Instr.loadAt, Instr.sureAddr, Sem.run_bind, Sem.run_pure, Result.andThen_ok, run_loadRow (hl w hw) hu hd hi]
  exact ⟨rfl, rfl⟩
theorem row_grown {V w : World} {g f : Nat} {l : List Value} (h : Row V g f l) (hw : ∃ p : Regrown, w = grow (redrawn V p.d) p.os) : Row w g f l := by
  obtain ⟨p, rfl⟩ := hw
  exact h.kept (kept_grown V p) (fun hf => hf)
/-- A block that is stored into, step by step. -/
def stI (g : Nat) (T : TypeId) (cs : Nat → List Value) (D : Nat → Prop) (s : List Value) (u : World) : Prop := Blo u g T (cs s.length).toArray ∧ ∀ k, D k → k ≠ g
theorem stI_keeps (g : Nat) (T : TypeId) (cs : Nat → List Value) : Keeps (stI g T cs) where
  quiet := fun D s u u' h k => ⟨h.1.kept k (fun hf => hf), h.2⟩
  make := fun D s u o h => ⟨h.1.alloc o, fun k hk => by
    rcases hk with hk | rfl
    · exact h.2 k hk
    · exact fun e => Nat.lt_irrefl _ (e ▸ h.1.lt)⟩
theorem tLex_st {P : Program} {ops : Array Oper} {F : Nat → Prop} {W : World} {acts : List Nat} {Z : Nat → List Value → Array Value × TypeId} {vs : Nat → Value} {Pv : Nat → Value → Prop} {Tf : Act → Mad → List Value → Prop} {o : Oper} {rest : List Oper} {k : Nat} {a : Act} {L : Mad} {s : List Value}
    {g : Nat} {T : TypeId} {cs : Nat → List Value} (hF : F g) (f : Nat) (ty : TypeId) (p x : Operand) (ho : o.op = .store ty p x) (hg : Region.wanted o (yielded ops a.tmps) = true) (hk : acts.contains k = true) (hv : Pv k undef) (n : Nat) (hn : s.length = n)
    (hp : a.eval p = .pointer (some ⟨g, f, none⟩)) (l : List Value) (v : Value) (hx : a.eval x = v) (hvc : v.cells = l.toArray) (hi : (P.info? ty).map (·.size) = some l.length) (hf : f + l.length ≤ (cs n).length) (h1 : ∀ u ∈ l, u.oneCell' = true)
    (hcs : cs (n + 1) = (cs n).take f ++ l ++ (cs n).drop (f + l.length)) (hpv : ∀ v, Pv k v → v = undef)
    (h : tLex P ops F W acts Z vs (stI g T cs) Pv Tf rest (k + 1) (a.put o.dst undef) L (s ++ [undef])) : tLex P ops F W acts Z vs (stI g T cs) Pv Tf (o :: rest) k a L s := by
  have hkd : kdOf ops acts k o a = .act := by
    unfold kdOf
    rw [if_pos hg, if_pos hk]
  show tO P ops F W acts Z vs (stI g T cs) Pv k o _ a L s
  unfold tO
  simp only [hkd]
  refine ⟨fun D u hu hI hd => ?_, ⟨undef, hv⟩, fun v hv => by rw [hpv v hv]; exact h⟩
  have hb := hI.1
  rw [hn] at hb
  have hs := run_storeRow (P := P) g f T l 0 (cs n).toArray u hb (by simpa using hf) h1
  have hsv : (storeVar ty ⟨g, f, none⟩ v).run P u = .ok () (u.setRow g ((cs n).take f ++ l ++ (cs n).drop (f + l.length)).toArray) := by
    cases hq : P.info? ty with
    | none => simp [hq] at hi
    | some i =>
      have hz : i.size = l.length := by simpa [hq] using hi
      simp only [Nat.add_zero] at hs
      simp [storeVar, sizeOf, typeInfo, hq, hvc, hz, hs]
  unfold execOp
  simp only [ho, hp, hx, Instr.storeAt, Instr.sureAddr, Sem.run_bind, Sem.run_pure, Result.andThen_ok, hsv, actUpon]
  have hk2 := kept_setRow u g ((cs n).take f ++ l ++ (cs n).drop (f + l.length)).toArray
  refine ⟨hv, hu.trans hk2 (fun i _ hi => by cases hi; exact hF), ⟨?_, hI.2⟩, by simp [World.setRow], fun k hDk hku => hk2.block k hku (fun hf => hI.2 k hDk hf)⟩
  have := setRow_heap u g _ ((cs n).take f ++ l ++ (cs n).drop (f + l.length)).toArray T _ hb
  unfold Blo
  rw [List.length_append, hn, List.length_singleton, hcs]
  exact this
theorem exec_app {P : Program} {o : Oper} {a : Act} {u w' : World} (s x : Operand) (t : TypeId) (ho : o.op = .call { callee := .builtin .append, args := #[s, x], argTypes := #[t, t] }) {v vx v' : Value} (hs : a.eval s = v) (hx : a.eval x = vx)
    (hr : (Builtin.append_ #[t, t] o.type #[v, vx]).run P u = .ok v' w') : (execOp a.eval o).run P u = .ok (.value v') w' := by
  unfold execOp
  simp only [ho, resolve, invoke, builtin, Sem.run_bind, Sem.run_pure, Result.andThen_ok, List.map_toArray, List.map_cons, List.map_nil, hs, hx, hr]
theorem exec_ld1 {P : Program} {o : Oper} {a : Act} {u : World} (ty e : TypeId) (p : Operand) (ho : o.op = .load ty p) {g f : Nat} {v : Value} (hp : a.eval p = .pointer (some ⟨g, f, none⟩)) (hc : u.cell? ⟨g, f, none⟩ = some v) (hu : P.underlying ty = some (.slice e)) :
    (execOp a.eval o).run P u = .ok (.value v) u := by
  have hl : (loadVar ty ⟨g, f, none⟩).run P u = .ok v u := by simp [loadVar, isAgg, run_underlying hu, hc, go_sem]
  unfold execOp
  simp only [ho, hp, Instr.loadAt, Instr.sureAddr, Sem.run_bind, Sem.run_pure, Result.andThen_ok, hl]
theorem exec_st {P : Program} {o : Oper} {a : Act} {u : World} (ty : TypeId) (p x : Operand) (ho : o.op = .store ty p x) {g f : Nat} (hp : a.eval p = .pointer (some ⟨g, f, none⟩)) (l : List Value) {v : Value} (hx : a.eval x = v) (hvc : v.cells = l.toArray) (hi : (P.info? ty).map (·.size) = some l.length) {T : TypeId} {cs : List Value} (hb : Blo u g T cs.toArray) (hf : f + l.length ≤ cs.length) (h1 : ∀ u ∈ l, u.oneCell' = true) :
    ∃ w', (execOp a.eval o).run P u = .ok .skip w' ∧ Blo w' g T (cs.take f ++ l ++ cs.drop (f + l.length)).toArray ∧ Kept (One g) u w' ∧ w'.heap.size = u.heap.size := by
  have hs := run_storeRow (P := P) g f T l 0 cs.toArray u hb (by simpa using hf) h1
  have hsv : (storeVar ty ⟨g, f, none⟩ v).run P u = .ok () (u.setRow g (cs.take f ++ l ++ cs.drop (f + l.length)).toArray) := by
    cases hq : P.info? ty with
    | none => simp [hq] at hi
    | some i =>
      have hz : i.size = l.length := by simpa [hq] using hi
      simp only [Nat.add_zero] at hs
      simp [storeVar, sizeOf, typeInfo, hq, hvc, hz, hs]
  refine ⟨_, ?_, setRow_heap u g _ _ T _ hb, kept_setRow u g _, by simp [World.setRow]⟩
  unfold execOp
  simp only [ho, hp, hx, Instr.storeAt, Instr.sureAddr, Sem.run_bind, Sem.run_pure, Result.andThen_ok, hsv]
/-- Any act, by what it does. -/
theorem tLex_raw {P : Program} {ops : Array Oper} {F : Nat → Prop} {W : World} {acts : List Nat} {Z : Nat → List Value → Array Value × TypeId} {vs : Nat → Value} {I : (Nat → Prop) → List Value → World → Prop} {Pv : Nat → Value → Prop} {Tf : Act → Mad → List Value → Prop} {o : Oper} {rest : List Oper} {k : Nat} {a : Act} {L : Mad} {s : List Value}
    (hg : Region.wanted o (yielded ops a.tmps) = true) (hk : acts.contains k = true) (hv : ∃ v, Pv k v)
    (hA : ∀ D u, Kept F W u → I D s u → (∀ g x, Dep (opVals o a) g → L g = some x → D g ∧ Blo u g x.2 x.1) →
      actUpon P (fun v w' => Pv k v ∧ Kept F W w' ∧ I D (s ++ [v]) w' ∧ u.heap.size ≤ w'.heap.size ∧ ∀ k, D k → k < u.heap.size → w'.heap[k]? = u.heap[k]?) ((execOp a.eval o).run P u))
    (h : ∀ v, Pv k v → tLex P ops F W acts Z vs I Pv Tf rest (k + 1) (a.put o.dst v) L (s ++ [v])) : tLex P ops F W acts Z vs I Pv Tf (o :: rest) k a L s := by
  have hkd : kdOf ops acts k o a = .act := by
    unfold kdOf
    rw [if_pos hg, if_pos hk]
  show tO P ops F W acts Z vs I Pv k o _ a L s
  unfold tO
  simp only [hkd]
  exact ⟨hA, hv, h⟩
end Go.Proofs.YtiehmpiaddjhiaaDoor
