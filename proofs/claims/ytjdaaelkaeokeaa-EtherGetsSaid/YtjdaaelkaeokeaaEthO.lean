/- Rows of many cells, loaded and stored in one step; a frame's block. -/
import Derived.Test.YtjdaaelkaeokeaaEthM
import Derived.Deep.WholeRow
import Derived.BigFrame
namespace Go.Proofs.Ytjdaaelkaeokeaa
open Go.RowKit Go.Sort
set_option linter.unusedVariables false

theorem addr_add (g o j : Nat) : (⟨g, o, none⟩ : Addr).add j = ⟨g, o + j, none⟩ := by unfold Addr.add; split <;> simp_all
/-- The cells of a block read, from a place on, as a list. -/
def Row (w : World) (g o : Nat) (l : List Value) : Prop := ∀ j u, l[j]? = some u → w.cell? ⟨g, o + j, none⟩ = some u
theorem Row.kept {F : Nat → Prop} {w w' : World} {g o : Nat} {l : List Value} (h : Row w g o l) (k : Kept F w w') (hg : ¬ F g) : Row w' g o l := fun j u hu => k.cell (h j u hu) hg
theorem Blo.row {w : World} {g : Nat} {t : TypeId} (a l b : List Value) (h : Blo w g t (a ++ l ++ b).toArray) : Row w g a.length l := by
  intro j u hu
  have hj : j < l.length := (List.getElem?_eq_some_iff.1 hu).1
  rw [h.cell]
  rw [List.getElem?_toArray, List.append_assoc, List.getElem?_append_right (by omega), Nat.add_sub_cancel_left, List.getElem?_append_left hj, hu]
def aggB (d : TypeDesc) : Bool := match d with | .struct _ | .array _ _ => true | _ => false
theorem run_loadRow {P : Program} {w : World} {g o : Nat} {l : List Value} {ty : TypeId} {d : TypeDesc} (hl : Row w g o l) (hu : P.underlying ty = some d) (hd : aggB d = true) (hi : (P.info? ty).map (·.size) = some l.length) :
    (loadVar ty ⟨g, o, none⟩).run P w = .ok (.agg l.toArray) w := by
  have hl : (loadCells ⟨g, o, none⟩ l.length).run P w = .ok l.toArray w :=
    run_loadCells_list (P := P) w ⟨g, o, none⟩ l (fun j v hv => by rw [addr_add]; exact hl j v hv)
  cases hq : P.info? ty with
  | none => simp [hq] at hi
  | some i =>
    have hs : i.size = l.length := by simpa [hq] using hi
    have hagg : (isAgg ty).run P w = .ok true w := by
      unfold isAgg
      rw [Sem.run_bind, run_underlying hu w]
      cases d <;> simp_all [aggB]
    simp [loadVar, Sem.run_bind, hagg, sizeOf, typeInfo, hq, hs, hl]
theorem wpList_ld {P : Program} {w : World} {ops : Array Oper} {rest : List Oper} {o : Oper} {a : Act} {Q : Exit → Act → World → Prop} (hgd : Region.wanted o (yielded ops a.tmps) = true) (ty : TypeId) (p : Operand) (ho : o.op = .load ty p)
    (g f : Nat) (hp : a.eval p = .pointer (some ⟨g, f, none⟩)) (l : List Value) (hl : Row w g f l) (d : TypeDesc) (hu : P.underlying ty = some d) (hd : aggB d = true) (hi : (P.info? ty).map (·.size) = some l.length)
    (h : wpList P ops Q rest (a.put o.dst (.agg l.toArray)) w) : wpList P ops Q (o :: rest) a w := by
  refine BigFrame.wpList_want hgd fun K hK => ?_
  unfold Oper.wp execOp
  simp only [ho, hp, Instr.loadAt, Instr.sureAddr, Sem.run_bind, Sem.run_pure, Result.andThen_ok, run_loadRow hl hu hd hi]
  exact hK _ _ h
theorem run_storeRow {P : Program} (g f : Nat) (t : TypeId) : ∀ (vs : List Value) (i : Nat) (cur : Array Value) (w : World), w.heap[g]? = some (.cells cur t (0, 0)) → f + i + vs.length ≤ cur.size → (∀ v ∈ vs, v.oneCell' = true) →
    (storeCells ⟨g, f, none⟩ vs i).run P w = .ok () (w.setRow g (cur.toList.take (f + i) ++ vs ++ cur.toList.drop (f + i + vs.length)).toArray)
  | [], i, cur, w, hg, hl, _ => by
    have hlt : g < w.heap.size := (Array.getElem?_eq_some_iff.1 hg).1
    have hv : w.heap[g] = .cells cur t (0, 0) := (Array.getElem?_eq_some_iff.1 hg).2
    simp only [storeCells, List.append_nil, List.length_nil, Nat.add_zero, List.take_append_drop, Array.toArray_toList]
    show Result.ok () w = _
    congr 1
    unfold World.setRow
    cases w with
    | mk heap tape drawn os output =>
      congr 1
      apply Array.ext
      · simp
      · intro k h1 h2
        simp only [Array.getElem_modify]
        split
        · rename_i hk; subst hk; simp at hv; simp [hv]
        · rfl
  | v :: rest, i, cur, w, hg, hl, h1 => by
    have hi : f + i < cur.size := by simp at hl; omega
    have hcell : w.cell? ⟨g, f + i, none⟩ = some cur[f + i] := by simp [World.cell?, hg, hi]
    have hfro : w.frozen? ⟨g, f + i, none⟩ = false := by simp [World.frozen?, hg]
    have hst : (store ((⟨g, f, none⟩ : Addr).add i) v).run P w = .ok () (w.setRow g (cur.setIfInBounds (f + i) v)) := by
      rw [addr_add, run_store P w _ v _ (h1 v (by simp)), hcell]
      simp [hfro, setCell_eq_setRow w g (f + i) cur t (0, 0) v hg]
    have ih := run_storeRow (P := P) g f t rest (i + 1) (cur.setIfInBounds (f + i) v) (w.setRow g (cur.setIfInBounds (f + i) v)) (setRow_heap w g cur _ t _ hg) (by simp at hl ⊢; omega) (fun x hx => h1 x (by simp [hx]))
    simp only [storeCells, Sem.run_bind, hst, Result.andThen_ok, ih, setRow_setRow]
    congr 3
    apply List.ext_getElem?
    intro k
    simp only [Array.toList_setIfInBounds, List.getElem?_append, List.length_take, List.length_append, List.length_set, Array.length_toList, List.getElem?_drop, List.getElem?_take, List.length_cons]
    rw [Nat.min_eq_left (by omega : f + (i + 1) ≤ cur.size), Nat.min_eq_left (by omega : f + i ≤ cur.size)]
    by_cases hk : k < f + i
    · simp [hk, show k < f + (i + 1) by omega, show k < f + (i + 1) + rest.length by omega, show k < f + i + (rest.length + 1) by omega, show ¬ f + i = k by omega]
    · by_cases hk2 : k = f + i
      · subst hk2
        simp [show f + i < f + (i + 1) by omega, show f + i < f + (i + 1) + rest.length by omega, hi]
      · by_cases hk3 : k < f + i + (rest.length + 1)
        · simp [hk, show ¬ k < f + (i + 1) by omega, show k < f + (i + 1) + rest.length by omega, hk3, show k - (f + i) = (k - (f + (i + 1))) + 1 by omega]
        · simp [hk, show ¬ k < f + (i + 1) by omega, show ¬ k < f + (i + 1) + rest.length by omega, hk3]
          rw [List.getElem?_set_ne (by omega), show f + (i + 1) + rest.length + (k - (f + (i + 1) + rest.length)) = f + i + (rest.length + 1) + (k - (f + i + (rest.length + 1))) by omega, Array.getElem?_toList]
theorem kept_setRow (w : World) (g : Nat) (cs : Array Value) : Kept (One g) w (w.setRow g cs) := by
  refine ⟨rfl, rfl, rfl, by simp [World.setRow], fun k hk hF => ?_⟩
  unfold World.setRow
  simp only
  rw [Array.getElem?_modify]
  rw [if_neg (fun e => hF (by unfold One; exact e.symm))]
theorem wpList_st {P : Program} {w : World} {ops : Array Oper} {rest : List Oper} {o : Oper} {a : Act} {Q : Exit → Act → World → Prop} (hgd : Region.wanted o (yielded ops a.tmps) = true) (ty : TypeId) (p x : Operand) (ho : o.op = .store ty p x)
    (g f : Nat) (hp : a.eval p = .pointer (some ⟨g, f, none⟩)) (l : List Value) (v : Value) (hx : a.eval x = v) (hv : v.cells = l.toArray) (hi : (P.info? ty).map (·.size) = some l.length) (T : TypeId) (cs : List Value) (hb : Blo w g T cs.toArray) (hf : f + l.length ≤ cs.length) (h1 : ∀ u ∈ l, u.oneCell' = true)
    (h : ∀ w', Blo w' g T (cs.take f ++ l ++ cs.drop (f + l.length)).toArray → Kept (One g) w w' → w'.heap.size = w.heap.size → wpList P ops Q rest (a.put o.dst undef) w') : wpList P ops Q (o :: rest) a w := by
  refine BigFrame.wpList_want hgd fun K hK => ?_
  have hs := run_storeRow (P := P) g f T l 0 cs.toArray w hb (by simpa using hf) h1
  have hsv : (storeVar ty ⟨g, f, none⟩ v).run P w = .ok () (w.setRow g (cs.take f ++ l ++ cs.drop (f + l.length)).toArray) := by
    cases hq : P.info? ty with
    | none => simp [hq] at hi
    | some i =>
      have hz : i.size = l.length := by simpa [hq] using hi
      simp only [Nat.add_zero] at hs
      simp [storeVar, sizeOf, typeInfo, hq, hv, hz, hs]
  unfold Oper.wp execOp
  simp only [ho, hp, hx, Instr.storeAt, Instr.sureAddr, Sem.run_bind, Sem.run_pure, Result.andThen_ok, hsv]
  exact hK _ _ (h _ (setRow_heap w g _ _ T _ hb) (kept_setRow w g _) (by simp [World.setRow]))

theorem res_cell1 {P : Program} {fn : Func} {w : World} {p u : Tmp} {ty : TypeId} {g : Nat} {l : List Value} {d : TypeDesc} {tmps : Array Value} {x : Value} (h : fn.results = #[.cell p ty, .tmp u]) (hp : tmps.getD p undef = .pointer (some ⟨g, 0, none⟩)) (hx : tmps.getD u undef = x)
    (hl : Row w g 0 l) (hu : P.underlying ty = some d) (hd : aggB d = true) (hi : (P.info? ty).map (·.size) = some l.length) : (results fn tmps).run P w = .ok (.tuple #[.agg l.toArray, x]) w := by
  simp only [results, h]
  simp only [Array.getD_eq_getD_getElem?] at hp hx
  simp [Sem.run_bind, Result.andThen, hp, hx, asAddr, run_loadRow hl hu hd hi]
theorem res_cell0 {P : Program} {fn : Func} {w : World} {p : Tmp} {ty : TypeId} {g : Nat} {l : List Value} {d : TypeDesc} {tmps : Array Value} (h : fn.results = #[.cell p ty]) (hp : tmps.getD p undef = .pointer (some ⟨g, 0, none⟩))
    (hl : Row w g 0 l) (hu : P.underlying ty = some d) (hd : aggB d = true) (hi : (P.info? ty).map (·.size) = some l.length) : (results fn tmps).run P w = .ok (.agg l.toArray) w := by
  simp only [results, h]
  simp only [Array.getD_eq_getD_getElem?] at hp
  simp [Sem.run_bind, Result.andThen, hp, asAddr, run_loadRow hl hu hd hi]
theorem res_cell2 {P : Program} {fn : Func} {w : World} {p u u2 : Tmp} {ty : TypeId} {g : Nat} {l : List Value} {d : TypeDesc} {tmps : Array Value} {x y : Value} (h : fn.results = #[.cell p ty, .tmp u, .tmp u2]) (hp : tmps.getD p undef = .pointer (some ⟨g, 0, none⟩)) (hx : tmps.getD u undef = x) (hy : tmps.getD u2 undef = y)
    (hl : Row w g 0 l) (hu : P.underlying ty = some d) (hd : aggB d = true) (hi : (P.info? ty).map (·.size) = some l.length) : (results fn tmps).run P w = .ok (.tuple #[.agg l.toArray, x, y]) w := by
  simp only [results, h]
  simp only [Array.getD_eq_getD_getElem?] at hp hx hy
  simp [Sem.run_bind, Result.andThen, hp, hx, hy, asAddr, run_loadRow hl hu hd hi]

/-- A frame's cells. -/
def fcs (f : Fr) (vt vb vr : Value) : List Value := bys f.d ++ (bys f.s ++ ([vt, .int .i64 f.k, .int .i64 f.y] ++ (bys f.l ++ (bys f.o ++ [vb, vr]))))
def frv (f : Fr) (vt vb vr : Value) : Value := .agg (fcs f vt vb vr).toArray
/-- Lengths of a frame's arrays. -/
structure Fr.six (f : Fr) : Prop where
  d : f.d.length = 6
  s : f.s.length = 6
  l : f.l.length = 3
  o : f.o.length = 3
theorem Fr.ok.six {f : Fr} (h : f.ok) : f.six := ⟨h.d, h.s, h.l, h.o⟩
theorem Fr.zero_six : Fr.zero.six := ⟨rfl, rfl, rfl, rfl⟩
section
variable {f : Fr} {vt vb vr : Value} {w : World} {g : Nat} {T : TypeId}
theorem fcs_len (h : f.six) : (fcs f vt vb vr).length = 23 := by
  simp only [fcs, List.length_append, bys_len, h.d, h.s, h.l, h.o, List.length_cons, List.length_nil]
theorem fcs_one (hs : vt.oneCell' = true) (hb : vb.oneCell' = true) (hr : vr.oneCell' = true) : ∀ u ∈ fcs f vt vb vr, u.oneCell' = true := by
  intro u hu
  simp only [fcs, List.mem_append, List.mem_cons, List.not_mem_nil, or_false] at hu
  rcases hu with h | h | h | h | h | h
  · exact bys_one _ u h
  · exact bys_one _ u h
  · rcases h with rfl | rfl | rfl
    · exact hs
    · rfl
    · rfl
  · exact bys_one _ u h
  · exact bys_one _ u h
  · rcases h with rfl | rfl
    · exact hb
    · exact hr
/-- A block holds a frame. -/
def FB (w : World) (g : Nat) (T : TypeId) (f : Fr) (vt vb vr : Value) : Prop := Blo w g T (fcs f vt vb vr).toArray
theorem FB.all (h : FB w g T f vt vb vr) : Row w g 0 (fcs f vt vb vr) := Blo.row [] _ [] (by rw [List.nil_append, List.append_nil]; exact h)
theorem FB.rd (h : FB w g T f vt vb vr) : Row w g 0 (bys f.d) := by
  have := Blo.row [] (bys f.d) (bys f.s ++ ([vt, .int .i64 f.k, .int .i64 f.y] ++ (bys f.l ++ (bys f.o ++ [vb, vr])))) (w := w) (g := g) (t := T) (by simpa [FB, fcs] using h)
  exact this
theorem FB.rs (h : FB w g T f vt vb vr) (hf : f.six) : Row w g 6 (bys f.s) := by
  have := Blo.row (bys f.d) (bys f.s) ([vt, .int .i64 f.k, .int .i64 f.y] ++ (bys f.l ++ (bys f.o ++ [vb, vr]))) (w := w) (g := g) (t := T) (by simpa [FB, fcs] using h)
  rwa [bys_len, hf.d] at this
theorem FB.rm (h : FB w g T f vt vb vr) (hf : f.six) : Row w g 12 [vt, .int .i64 f.k, .int .i64 f.y] := by
  have := Blo.row (bys f.d ++ bys f.s) [vt, .int .i64 f.k, .int .i64 f.y] (bys f.l ++ (bys f.o ++ [vb, vr])) (w := w) (g := g) (t := T) (by simpa [FB, fcs] using h)
  rwa [List.length_append, bys_len, bys_len, hf.d, hf.s] at this
theorem FB.rl (h : FB w g T f vt vb vr) (hf : f.six) : Row w g 15 (bys f.l) := by
  have := Blo.row (bys f.d ++ bys f.s ++ [vt, .int .i64 f.k, .int .i64 f.y]) (bys f.l) (bys f.o ++ [vb, vr]) (w := w) (g := g) (t := T) (by simpa [FB, fcs] using h)
  rwa [List.length_append, List.length_append, bys_len, bys_len, hf.d, hf.s] at this
theorem FB.ro (h : FB w g T f vt vb vr) (hf : f.six) : Row w g 18 (bys f.o) := by
  have := Blo.row (bys f.d ++ bys f.s ++ [vt, .int .i64 f.k, .int .i64 f.y] ++ bys f.l) (bys f.o) [vb, vr] (w := w) (g := g) (t := T) (by simpa [FB, fcs] using h)
  rwa [List.length_append, List.length_append, List.length_append, bys_len, bys_len, bys_len, hf.d, hf.s, hf.l] at this
theorem FB.re (h : FB w g T f vt vb vr) (hf : f.six) : Row w g 21 [vb, vr] := by
  have := Blo.row (bys f.d ++ bys f.s ++ [vt, .int .i64 f.k, .int .i64 f.y] ++ bys f.l ++ bys f.o) [vb, vr] [] (w := w) (g := g) (t := T) (by simpa [FB, fcs] using h)
  rwa [List.length_append, List.length_append, List.length_append, List.length_append, bys_len, bys_len, bys_len, bys_len, hf.d, hf.s, hf.l, hf.o] at this
theorem FB.ct (h : FB w g T f vt vb vr) (hf : f.six) : w.cell? ⟨g, 12, none⟩ = some vt := h.rm hf 0 _ rfl
theorem FB.ck (h : FB w g T f vt vb vr) (hf : f.six) : w.cell? ⟨g, 13, none⟩ = some (.int .i64 f.k) := h.rm hf 1 _ rfl
theorem FB.cy (h : FB w g T f vt vb vr) (hf : f.six) : w.cell? ⟨g, 14, none⟩ = some (.int .i64 f.y) := h.rm hf 2 _ rfl
theorem FB.cb (h : FB w g T f vt vb vr) (hf : f.six) : w.cell? ⟨g, 21, none⟩ = some vb := h.re hf 0 _ rfl
theorem FB.cr (h : FB w g T f vt vb vr) (hf : f.six) : w.cell? ⟨g, 22, none⟩ = some vr := h.re hf 1 _ rfl
theorem FB.kept {F : Nat → Prop} {w' : World} (h : FB w g T f vt vb vr) (k : Kept F w w') (hg : ¬ F g) : FB w' g T f vt vb vr := Blo.kept h k hg
theorem FB.new (w : World) (T : TypeId) (f : Fr) (vt vb vr : Value) : FB (w.alloc (.cells (fcs f vt vb vr).toArray T)) w.heap.size T f vt vb vr := Blo.new w T _
theorem FB.alloc (h : FB w g T f vt vb vr) (o : Obj) : FB (w.alloc o) g T f vt vb vr := Blo.alloc h o
theorem FB.lt (h : FB w g T f vt vb vr) : g < w.heap.size := Blo.lt h
/-- Fields stored anew. -/
theorem FB.of_all {f' : Fr} {vt' vb' vr' : Value} (hf : f.six) (hf' : f'.six) (h : Blo w g T ((fcs f vt vb vr).take 0 ++ fcs f' vt' vb' vr' ++ (fcs f vt vb vr).drop (0 + (fcs f' vt' vb' vr').length)).toArray) : FB w g T f' vt' vb' vr' := by
  rw [fcs_len hf', List.drop_of_length_le (by rw [fcs_len hf]; omega)] at h
  simpa [FB] using h
theorem splice_at {α : Type} (a l l' b : List α) (h : l.length = l'.length) : (a ++ (l ++ b)).take a.length ++ l' ++ (a ++ (l ++ b)).drop (a.length + l'.length) = a ++ (l' ++ b) := by
  rw [List.take_left, ← List.drop_drop, List.drop_left, ← h, List.drop_left, List.append_assoc]
theorem FB.set_d (d : List UInt8) (hd : d.length = 6) (hf : f.six) (h : Blo w g T ((fcs f vt vb vr).take 0 ++ bys d ++ (fcs f vt vb vr).drop (0 + (bys d).length)).toArray) : FB w g T { f with d := d } vt vb vr := by
  have := splice_at [] (bys f.d) (bys d) (bys f.s ++ ([vt, .int .i64 f.k, .int .i64 f.y] ++ (bys f.l ++ (bys f.o ++ [vb, vr])))) (by rw [bys_len, bys_len, hd, hf.d])
  unfold FB
  rw [show fcs { f with d := d } vt vb vr = [] ++ (bys d ++ (bys f.s ++ ([vt, .int .i64 f.k, .int .i64 f.y] ++ (bys f.l ++ (bys f.o ++ [vb, vr]))))) from rfl, ← this]
  exact h
theorem FB.set_s (s : List UInt8) (hs : s.length = 6) (hf : f.six) (h : Blo w g T ((fcs f vt vb vr).take 6 ++ bys s ++ (fcs f vt vb vr).drop (6 + (bys s).length)).toArray) : FB w g T { f with s := s } vt vb vr := by
  have := splice_at (bys f.d) (bys f.s) (bys s) ([vt, .int .i64 f.k, .int .i64 f.y] ++ (bys f.l ++ (bys f.o ++ [vb, vr]))) (by rw [bys_len, bys_len, hs, hf.s])
  rw [bys_len, hf.d] at this
  unfold FB
  rw [show fcs { f with s := s } vt vb vr = bys f.d ++ (bys s ++ ([vt, .int .i64 f.k, .int .i64 f.y] ++ (bys f.l ++ (bys f.o ++ [vb, vr])))) from rfl, ← this]
  exact h
theorem FB.set_o (o : List UInt8) (ho : o.length = 3) (hf : f.six) (h : Blo w g T ((fcs f vt vb vr).take 18 ++ bys o ++ (fcs f vt vb vr).drop (18 + (bys o).length)).toArray) : FB w g T { f with o := o } vt vb vr := by
  have := splice_at (bys f.d ++ bys f.s ++ [vt, .int .i64 f.k, .int .i64 f.y] ++ bys f.l) (bys f.o) (bys o) [vb, vr] (by rw [bys_len, bys_len, ho, hf.o])
  rw [List.length_append, List.length_append, List.length_append, bys_len, bys_len, bys_len, hf.d, hf.s, hf.l] at this
  unfold FB
  have e1 : ∀ z : List UInt8, bys f.d ++ bys f.s ++ [vt, .int .i64 f.k, .int .i64 f.y] ++ bys f.l ++ (bys z ++ [vb, vr]) = bys f.d ++ (bys f.s ++ ([vt, .int .i64 f.k, .int .i64 f.y] ++ (bys f.l ++ (bys z ++ [vb, vr])))) := fun z => by simp
  rw [e1, e1] at this
  rw [show fcs { f with o := o } vt vb vr = bys f.d ++ (bys f.s ++ ([vt, .int .i64 f.k, .int .i64 f.y] ++ (bys f.l ++ (bys o ++ [vb, vr])))) from rfl, ← this]
  exact h
theorem FB.set_m (vt' : Value) (k y : Int) (hf : f.six) {n : Nat} {x : Value} (hx : (n = 12 ∧ x = vt' ∧ k = f.k ∧ y = f.y) ∨ (n = 13 ∧ x = .int .i64 k ∧ vt' = vt ∧ y = f.y) ∨ (n = 14 ∧ x = .int .i64 y ∧ vt' = vt ∧ k = f.k))
    (h : Blo w g T ((fcs f vt vb vr).take n ++ [x] ++ (fcs f vt vb vr).drop (n + [x].length)).toArray) : FB w g T { f with k := k, y := y } vt' vb vr := by
  obtain ⟨d, s, t, fk, fy, l, o, b, r⟩ := f
  obtain ⟨d0, d1, d2, d3, d4, d5, rfl⟩ := six_of d hf.d
  obtain ⟨s0, s1, s2, s3, s4, s5, rfl⟩ := six_of s hf.s
  rcases hx with ⟨rfl, rfl, rfl, rfl⟩ | ⟨rfl, rfl, rfl, rfl⟩ | ⟨rfl, rfl, rfl, rfl⟩ <;> exact h
theorem FB.set_e (vb' vr' : Value) (hf : f.six) {n : Nat} {x : Value} (hx : (n = 21 ∧ x = vb' ∧ vr' = vr) ∨ (n = 22 ∧ x = vr' ∧ vb' = vb))
    (h : Blo w g T ((fcs f vt vb vr).take n ++ [x] ++ (fcs f vt vb vr).drop (n + [x].length)).toArray) : FB w g T f vt vb' vr' := by
  obtain ⟨d, s, t, fk, fy, l, o, b, r⟩ := f
  obtain ⟨d0, d1, d2, d3, d4, d5, rfl⟩ := six_of d hf.d
  obtain ⟨s0, s1, s2, s3, s4, s5, rfl⟩ := six_of s hf.s
  obtain ⟨l0, l1, l2, rfl⟩ := len3 hf.l
  obtain ⟨o0, o1, o2, rfl⟩ := len3 hf.o
  rcases hx with ⟨rfl, rfl, rfl⟩ | ⟨rfl, rfl, rfl⟩ <;> exact h
theorem fcs_set_d (d : List UInt8) (hd : d.length = 6) (hf : f.six) : fcs { f with d := d } vt vb vr = (fcs f vt vb vr).take 0 ++ bys d ++ (fcs f vt vb vr).drop (0 + (bys d).length) :=
  (splice_at [] (bys f.d) (bys d) (bys f.s ++ ([vt, .int .i64 f.k, .int .i64 f.y] ++ (bys f.l ++ (bys f.o ++ [vb, vr])))) (by rw [bys_len, bys_len, hd, hf.d])).symm
theorem fcs_set_s (s : List UInt8) (hs : s.length = 6) (hf : f.six) : fcs { f with s := s } vt vb vr = (fcs f vt vb vr).take 6 ++ bys s ++ (fcs f vt vb vr).drop (6 + (bys s).length) := by
  have := splice_at (bys f.d) (bys f.s) (bys s) ([vt, .int .i64 f.k, .int .i64 f.y] ++ (bys f.l ++ (bys f.o ++ [vb, vr]))) (by rw [bys_len, bys_len, hs, hf.s])
  rw [bys_len, hf.d] at this
  exact this.symm
theorem fcs_set_t (vt' : Value) (hf : f.six) : fcs f vt' vb vr = (fcs f vt vb vr).take 12 ++ [vt'] ++ (fcs f vt vb vr).drop (12 + [vt'].length) := by
  obtain ⟨d, s, t, fk, fy, l, o, b, r⟩ := f
  obtain ⟨d0, d1, d2, d3, d4, d5, rfl⟩ := six_of d hf.d
  obtain ⟨s0, s1, s2, s3, s4, s5, rfl⟩ := six_of s hf.s
  rfl
end
end Go.Proofs.Ytjdaaelkaeokeaa
