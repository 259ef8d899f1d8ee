/- Texts that belong together, one behind the other: Tail, EthT. Conditions: those of each. -/
import Derived.Test.YthjfeanmgaidcaaMg1
import Derived.StillTail
import Derived.Test.YthjfeanmgaidcaaMg3
import Derived.Test.YthjfeanmgaidcaaMg2
/- A region that draws its order: first what only reads and calls (callees that make memory alone), in whatever order; behind all of it a row of operations of any kind, each waiting for the one ahead (the library's StillTail, with a class of worlds in the place of one world). Nothing of the program is named here. -/
namespace Go.Proofs.Ythjfeanmgaidcaa
open Go.RowKit Go.Sort
set_option linter.unusedVariables false

section
variable {P : Program} {ops : Array Oper} {md : Region.Mode} {C : World → Prop}
/-- The head's operations in whatever order, each quiet in the class; behind them L. -/
def headAny (P : Program) (md : Region.Mode) (ops : Array Oper) (C : World → Prop) (n : Nat) (L : Array Bool → Act → Prop) : Nat → Array Bool → Act → Prop
  | 0, listed, a => L listed a
  | f + 1, listed, a => Region.ready md ops listed ≠ [] ∧ ∀ i, i ∈ Region.ready md ops listed → i < n ∧ qOp P ops C i (headAny P md ops C n L f (listed.setIfInBounds i true)) a
theorem headAny_sound {n g : Nat} {L : Array Bool → Act → Prop} {Q : Exit → Act → World → Prop} (hL : ∀ listed a w, C w → L listed a → wpAny P md ops Q g listed a w) (f : Nat) :
    ∀ (listed : Array Bool) (a : Act) (w : World), C w → headAny P md ops C n L f listed a → wpAny P md ops Q (g + f) listed a w := by
  induction f with
  | zero => intro listed a w hw h; exact hL _ _ _ hw h
  | succ f ih =>
    intro listed a w hw h
    exact ⟨fun h0 => absurd h0 h.1, fun i hi => wpOp_of_qOp hw (fun a' w' hw' h' => ih _ a' w' hw' h') (h.2 i hi).2⟩
theorem headAny_first {n i : Nat} {oi : Oper} {v : Value} {L : Array Bool → Act → Prop} (hi : ops[i]? = some oi) (hsel : ∀ (j : Nat) (o : Oper) cs b, ops[j]? = some o → o.op ≠ .select cs b)
    (hs : Region.sinkB md ops n = true) (hc : Region.chainB md ops n = true) (hn : n < ops.size) (hin : i < n) (hdone : ∀ listed a, L listed a → ∀ j, j ∈ Region.ready md ops listed → n ≤ j) (f : Nat) :
    ∀ (listed : Array Bool) (a : Act), HeadInv md ops n listed →
      (∀ j oj, ops[j]? = some oj → j ≠ i → listed.getD j true = false → (∀ e ∈ oj.after, Region.binds md e = true → e.on ≠ i) → oi.apart ops oj = true) →
      i ∈ Region.ready md ops listed → YieldsIn P ops C oi v a → headAny P md ops C n L f (listed.setIfInBounds i true) (a.put oi.dst v) → headAny P md ops C n L (f + 1) listed a := by
  induction f with
  | zero =>
    intro listed a inv _ hr hy H
    have hun := (mem_ready.1 hr).1
    have low : ∀ j, j ∈ Region.ready md ops listed → j < n := fun j hj => Nat.lt_of_not_le fun hle => tail_waits hs hc hn inv _ i rfl hin hun j hle hj
    refine ⟨fun h => (by rw [h] at hr; cases hr), fun j hj => ⟨low j hj, ?_⟩⟩
    by_cases e : j = i
    · subst e; exact hy.qOp hi H
    · exact absurd (low j hj) (Nat.not_lt.2 (hdone _ _ H j (ready_mono hj e)))
  | succ f ih =>
    intro listed a inv hfree hr hy H
    have hun := (mem_ready.1 hr).1
    have low : ∀ j, j ∈ Region.ready md ops listed → j < n := fun j hj => Nat.lt_of_not_le fun hle => tail_waits hs hc hn inv _ i rfl hin hun j hle hj
    refine ⟨fun h => (by rw [h] at hr; cases hr), fun j hj => ⟨low j hj, ?_⟩⟩
    by_cases e : j = i
    · subst e; exact hy.qOp hi H
    · obtain ⟨hjun, oj, hoj, hall⟩ := mem_ready.1 hj
      have hnot : ∀ e ∈ oj.after, Region.binds md e = true → e.on ≠ i := fun x hx hb he => by
        have := hall x hx hb
        rw [he, getD_both hun] at this
        cases this
      have h2 := qOp_put hoj (hfree j oj hoj e hjun hnot) (fun cs b => hsel i oi cs b hi) (fun cs b => hsel j oj cs b hoj) hy (H.2 j (ready_mono hj e)).2
      refine qOp_mono (fun a' h3 => ih (listed.setIfInBounds j true) a' (inv.set hj (low j hj)) (fun k ok hk hki hkun hno => hfree k ok hk hki ?_ hno) (ready_mono hr (Ne.symm e)) h3.1 ?_) h2
      · by_cases hjk : j = k
        · subst hjk; exact hjun
        · rw [getD_set_ne true hjk] at hkun; exact hkun
      · rw [Array.setIfInBounds_comm _ _ e]
        exact h3.2
theorem headAny_lex {n g : Nat} {T : Act → Prop} (hsel : Region.noSelect ops = true) (hs : Region.sinkB md ops n = true) (hc : Region.chainB md ops n = true) (hn : n < ops.size) (l : List Oper) :
    ∀ (k : Nat) (listed : Array Bool) (a : Act), (∀ j, j < l.length → l[j]? = ops[k + j]?) → k + l.length = n → HeadInv md ops n listed → Region.lexHead md ops g l.length k listed = true → wpQuiet P ops C T l a →
      headAny P md ops C n (fun listed' a' => Region.seqB md ops g n listed' = true ∧ T a') l.length listed a := by
  induction l with
  | nil =>
    intro k listed a _ hk _ hB h
    obtain rfl : k = n := by simpa using hk
    exact ⟨by simpa [Region.lexHead] using hB, h⟩
  | cons o l ih =>
    intro k listed a hl hk inv hB h
    have h0 : ops[k]? = some o := by simpa using (hl 0 (by simp)).symm
    simp only [List.length_cons, Region.lexHead, Bool.and_eq_true] at hB
    obtain ⟨⟨hr, hf⟩, hB'⟩ := hB
    have hkn : k < n := by simp only [List.length_cons] at hk; omega
    have hr' : k ∈ Region.ready md ops listed := by simpa using hr
    have hq : qOp P ops C k (wpQuiet P ops C T l) a := by unfold qOp; simp only [h0]; exact h
    obtain ⟨v, hy, hK⟩ := yieldsIn_of_qOp h0 hq
    refine headAny_first h0 (Region.noSelect_spec hsel) hs hc hn hkn (fun _ _ hL => seqB_ready hL.1) l.length listed a inv (Region.free_spec h0 hf) hr' hy ?_
    exact ih (k + 1) _ _ (fun j hj => by have := hl (j + 1) (by simp; omega); simpa [Nat.add_assoc, Nat.add_comm 1 j] using this) (by simp only [List.length_cons] at hk; omega) (inv.set hr' hkn) hB' hK
end

/-- **The region: n operations that only read or make memory, in whatever order; then the rest, in the order of the text.** -/
theorem wp_region_tail {P : Program} {id : Nat} {Q : Exit → Act → World → Prop} {a : Act} {w : World} {l : List Oper} (n : Nat) (hm : P.follows .mixedOrders = true) (hB : Region.lexTailB .any l.toArray n = true)
    (h : wpQuiet P l.toArray (fun w' => ∃ p : Regrown, w' = grow (redrawn w p.d) p.os) (fun a' => ∀ w', (∃ p : Regrown, w' = grow (redrawn w p.d) p.os) → wpList P l.toArray Q (l.drop n) a' w') (l.take n) a) : (Code.region id l.toArray true).wp P Q a w := by
  simp only [Region.lexTailB, Bool.and_eq_true, decide_eq_true_eq] at hB
  obtain ⟨⟨⟨⟨hsel, hn⟩, hs⟩, hc⟩, hlex⟩ := hB
  have hn' : n < l.length := by simpa using hn
  have htl : (l.take n).length = n := by simp; omega
  have hdl : (l.drop n).length = l.toArray.size - n := by simp
  have inv0 : HeadInv .any l.toArray n (Array.replicate l.toArray.size false) :=
    ⟨by simp, fun j oj _ hl => (by rw [getD_replicate_false] at hl; cases hl), fun t _ ht => getD_in (by simpa using ht) (getD_replicate_false _ _)⟩
  have H := headAny_lex (md := .any) (g := l.toArray.size - n) hsel hs hc hn (l.take n) 0 _ a (fun j hj => by
    have hj' : j < n := by rw [htl] at hj; exact hj
    simp [hj']) (by simpa using htl) inv0 (by rw [htl]; exact hlex) h
  refine wp_region_any hm ?_
  have fin := headAny_sound (Q := Q) (g := l.toArray.size - n) (fun listed a' w' hw' hL => by
    have := wpAny_of_seq (md := .any) (Q' := Q) (l.drop n) n listed a' w' (fun j => by simp [List.getElem?_drop]) (by rw [hdl]; exact hL.1) (hL.2 w' hw')
    rwa [hdl] at this) _ _ _ { w with drawn := w.drawn + 1 } ⟨⟨w.drawn + 1, #[]⟩, by rw [grow_empty]; rfl⟩ H
  rw [htl, show l.toArray.size - n + n = l.toArray.size by omega] at fin
  exact fin
end Go.Proofs.Ythjfeanmgaidcaa
/- Regions that draw their order and store into the fields of one block. Nothing of the program is named here. -/
namespace Go.Proofs.Ythjfeanmgaidcaa
open Go.RowKit Go.Sort
set_option linter.unusedVariables false

theorem wpQuiet_ld {P : Program} {ops : Array Oper} {C : World → Prop} {Q : Act → Prop} {o : Oper} {rest : List Oper} {a : Act} (hgd : Region.wanted o (yielded ops a.tmps) = true) (ty : TypeId) (p : Operand) (ho : o.op = .load ty p)
    (g f : Nat) (hp : a.eval p = .pointer (some ⟨g, f, none⟩)) (l : List Value) (hl : ∀ w, C w → Row w g f l) (d : TypeDesc) (hu : P.underlying ty = some d) (hd : aggB d = true) (hi : (P.info? ty).map (·.size) = some l.length)
    (h : wpQuiet P ops C Q rest (a.put o.dst (.agg l.toArray))) : wpQuiet P ops C Q (o :: rest) a := by
  unfold wpQuiet
  rw [if_pos hgd]
  refine ⟨_, fun w hw => ?_, h⟩
  unfold Oper.quietAt execOp
  simp only [ho, hp, Instr.loadAt, Instr.sureAddr, Sem.run_bind, Sem.run_pure, Result.andThen_ok, run_loadRow (hl w hw) hu hd hi]
  exact ⟨rfl, rfl⟩
theorem row_grown {V w : World} {g f : Nat} {l : List Value} (h : Row V g f l) (hw : ∃ p : Regrown, w = grow (redrawn V p.d) p.os) : Row w g f l := by
  obtain ⟨p, rfl⟩ := hw
  exact h.kept (kept_grown V p) (fun hf => hf)
/-- A block that is stored into, step by step. -/
def stI (g : Nat) (T : TypeId) (cs : Nat → List Value) (D : Nat → Prop) (s : List Value) (u : World) : Prop := Blo u g T (cs s.length).toArray ∧ ∀ k, D k → k ≠ g
theorem stI_keeps (g : Nat) (T : TypeId) (cs : Nat → List Value) : Keeps (stI g T cs) where
  quiet := fun D s u u' h k => ⟨h.1.kept k (fun hf => hf), h.2⟩
  make := fun D s u o h => ⟨h.1.alloc o, fun k hk => by
    rcases hk with hk | rfl
    · exact h.2 k hk
    · exact fun e => Nat.lt_irrefl _ (e ▸ h.1.lt)⟩
theorem tLex_st {P : Program} {ops : Array Oper} {F : Nat → Prop} {W : World} {acts : List Nat} {Z : Nat → List Value → Array Value × TypeId} {vs : Nat → Value} {Pv : Nat → Value → Prop} {Tf : Act → Mad → List Value → Prop} {o : Oper} {rest : List Oper} {k : Nat} {a : Act} {L : Mad} {s : List Value}
    {g : Nat} {T : TypeId} {cs : Nat → List Value} (hF : F g) (f : Nat) (ty : TypeId) (p x : Operand) (ho : o.op = .store ty p x) (hg : Region.wanted o (yielded ops a.tmps) = true) (hk : acts.contains k = true) (hv : Pv k undef) (n : Nat) (hn : s.length = n)
    (hp : a.eval p = .pointer (some ⟨g, f, none⟩)) (l : List Value) (v : Value) (hx : a.eval x = v) (hvc : v.cells = l.toArray) (hi : (P.info? ty).map (·.size) = some l.length) (hf : f + l.length ≤ (cs n).length) (h1 : ∀ u ∈ l, u.oneCell' = true)
    (hcs : cs (n + 1) = (cs n).take f ++ l ++ (cs n).drop (f + l.length)) (hpv : ∀ v, Pv k v → v = undef)
    (h : tLex P ops F W acts Z vs (stI g T cs) Pv Tf rest (k + 1) (a.put o.dst undef) L (s ++ [undef])) : tLex P ops F W acts Z vs (stI g T cs) Pv Tf (o :: rest) k a L s := by
  have hkd : kdOf ops acts k o a = .act := by
    unfold kdOf
    rw [if_pos hg, if_pos hk]
  show tO P ops F W acts Z vs (stI g T cs) Pv k o _ a L s
  unfold tO
  simp only [hkd]
  refine ⟨fun D u hu hI hd => ?_, ⟨undef, hv⟩, fun v hv => by rw [hpv v hv]; exact h⟩
  have hb := hI.1
  rw [hn] at hb
  have hs := run_storeRow (P := P) g f T l 0 (cs n).toArray u hb (by simpa using hf) h1
  have hsv : (storeVar ty ⟨g, f, none⟩ v).run P u = .ok () (u.setRow g ((cs n).take f ++ l ++ (cs n).drop (f + l.length)).toArray) := by
    cases hq : P.info? ty with
    | none => simp [hq] at hi
    | some i =>
      have hz : i.size = l.length := by simpa [hq] using hi
      simp only [Nat.add_zero] at hs
      simp [storeVar, sizeOf, typeInfo, hq, hvc, hz, hs]
  unfold execOp
  simp only [ho, hp, hx, Instr.storeAt, Instr.sureAddr, Sem.run_bind, Sem.run_pure, Result.andThen_ok, hsv, actUpon]
  have hk2 := kept_setRow u g ((cs n).take f ++ l ++ (cs n).drop (f + l.length)).toArray
  refine ⟨hv, hu.trans hk2 (fun i _ hi => by cases hi; exact hF), ⟨?_, hI.2⟩, by simp [World.setRow], fun k hDk hku => hk2.block k hku (fun hf => hI.2 k hDk hf)⟩
  have := setRow_heap u g _ ((cs n).take f ++ l ++ (cs n).drop (f + l.length)).toArray T _ hb
  unfold Blo
  rw [List.length_append, hn, List.length_singleton, hcs]
  exact this
theorem exec_app {P : Program} {o : Oper} {a : Act} {u w' : World} (s x : Operand) (t : TypeId) (ho : o.op = .call { callee := .builtin .append, args := #[s, x], argTypes := #[t, t] }) {v vx v' : Value} (hs : a.eval s = v) (hx : a.eval x = vx)
    (hr : (Builtin.append_ #[t, t] o.type #[v, vx]).run P u = .ok v' w') : (execOp a.eval o).run P u = .ok (.value v') w' := by
  unfold execOp
  simp only [ho, resolve, invoke, builtin, Sem.run_bind, Sem.run_pure, Result.andThen_ok, List.map_toArray, List.map_cons, List.map_nil, hs, hx, hr]
theorem exec_ld1 {P : Program} {o : Oper} {a : Act} {u : World} (ty e : TypeId) (p : Operand) (ho : o.op = .load ty p) {g f : Nat} {v : Value} (hp : a.eval p = .pointer (some ⟨g, f, none⟩)) (hc : u.cell? ⟨g, f, none⟩ = some v) (hu : P.underlying ty = some (.slice e)) :
    (execOp a.eval o).run P u = .ok (.value v) u := by
  have hl : (loadVar ty ⟨g, f, none⟩).run P u = .ok v u := by simp [loadVar, isAgg, run_underlying hu, hc, go_sem]
  unfold execOp
  simp only [ho, hp, Instr.loadAt, Instr.sureAddr, Sem.run_bind, Sem.run_pure, Result.andThen_ok, hl]
theorem exec_st {P : Program} {o : Oper} {a : Act} {u : World} (ty : TypeId) (p x : Operand) (ho : o.op = .store ty p x) {g f : Nat} (hp : a.eval p = .pointer (some ⟨g, f, none⟩)) (l : List Value) {v : Value} (hx : a.eval x = v) (hvc : v.cells = l.toArray) (hi : (P.info? ty).map (·.size) = some l.length) {T : TypeId} {cs : List Value} (hb : Blo u g T cs.toArray) (hf : f + l.length ≤ cs.length) (h1 : ∀ u ∈ l, u.oneCell' = true) :
    ∃ w', (execOp a.eval o).run P u = .ok .skip w' ∧ Blo w' g T (cs.take f ++ l ++ cs.drop (f + l.length)).toArray ∧ Kept (One g) u w' ∧ w'.heap.size = u.heap.size := by
  have hs := run_storeRow (P := P) g f T l 0 cs.toArray u hb (by simpa using hf) h1
  have hsv : (storeVar ty ⟨g, f, none⟩ v).run P u = .ok () (u.setRow g (cs.take f ++ l ++ cs.drop (f + l.length)).toArray) := by
    cases hq : P.info? ty with
    | none => simp [hq] at hi
    | some i =>
      have hz : i.size = l.length := by simpa [hq] using hi
      simp only [Nat.add_zero] at hs
      simp [storeVar, sizeOf, typeInfo, hq, hvc, hz, hs]
  refine ⟨_, ?_, setRow_heap u g _ _ T _ hb, kept_setRow u g _, by simp [World.setRow]⟩
  unfold execOp
  simp only [ho, hp, hx, Instr.storeAt, Instr.sureAddr, Sem.run_bind, Sem.run_pure, Result.andThen_ok, hsv]
/-- Any act, by what it does. -/
theorem tLex_raw {P : Program} {ops : Array Oper} {F : Nat → Prop} {W : World} {acts : List Nat} {Z : Nat → List Value → Array Value × TypeId} {vs : Nat → Value} {I : (Nat → Prop) → List Value → World → Prop} {Pv : Nat → Value → Prop} {Tf : Act → Mad → List Value → Prop} {o : Oper} {rest : List Oper} {k : Nat} {a : Act} {L : Mad} {s : List Value}
    (hg : Region.wanted o (yielded ops a.tmps) = true) (hk : acts.contains k = true) (hv : ∃ v, Pv k v)
    (hA : ∀ D u, Kept F W u → I D s u → (∀ g x, Dep (opVals o a) g → L g = some x → D g ∧ Blo u g x.2 x.1) →
      actUpon P (fun v w' => Pv k v ∧ Kept F W w' ∧ I D (s ++ [v]) w' ∧ u.heap.size ≤ w'.heap.size ∧ ∀ k, D k → k < u.heap.size → w'.heap[k]? = u.heap[k]?) ((execOp a.eval o).run P u))
    (h : ∀ v, Pv k v → tLex P ops F W acts Z vs I Pv Tf rest (k + 1) (a.put o.dst v) L (s ++ [v])) : tLex P ops F W acts Z vs I Pv Tf (o :: rest) k a L s := by
  have hkd : kdOf ops acts k o a = .act := by
    unfold kdOf
    rw [if_pos hg, if_pos hk]
  show tO P ops F W acts Z vs I Pv k o _ a L s
  unfold tO
  simp only [hkd]
  exact ⟨hA, hv, h⟩
end Go.Proofs.Ythjfeanmgaidcaa
