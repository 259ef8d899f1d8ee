/- Texts that belong together, one behind the other: RegT, Mem3. Conditions: those of each. -/
import Derived.Test.YtiehmpiaddjhiaaDoorMg5
import Derived.StillTail
import Derived.Test.YtiehmpiaddjhiaaDoorMg3
/- Regions that draw their order, walked once, in the order of the text: operations that only read or whose callees make memory alone ('quiet'); allocations and literal slices ('makes'); and calls that write blocks of a known footprint ('acts'), which wait for one another. Nothing of the program is named here. -/
namespace Go.Proofs.YtiehmpiaddjhiaaDoor
open Go.RowKit Go.Sort
set_option linter.unusedVariables false

/-- The blocks that the region itself has made, and what each holds. -/
def Mad := Nat → Option (Array Value × TypeId)
def mput (L : Mad) (g : Nat) (x : Array Value × TypeId) : Mad := fun k => if k = g then some x else L k
theorem mput_same (L : Mad) (g : Nat) (x) : mput L g x g = some x := by simp [mput]
theorem mput_ne (L : Mad) {g h : Nat} (x) (hn : h ≠ g) : mput L g x h = L h := by simp [mput, hn]
theorem mput_comm (L : Mad) {g h : Nat} (x y) (hn : g ≠ h) : mput (mput L g x) h y = mput (mput L h y) g x := by
  funext k
  unfold mput
  by_cases h1 : k = h <;> by_cases h2 : k = g <;> simp [h1, h2] <;> omega
def Sparse (L : Mad) : Prop := ∃ N, ∀ g, N ≤ g → L g = none
theorem Sparse.put {L : Mad} (h : Sparse L) (g : Nat) (x) : Sparse (mput L g x) := by
  obtain ⟨N, hN⟩ := h
  exact ⟨max N (g + 1), fun k hk => by rw [mput_ne _ _ (by omega)]; exact hN k (by omega)⟩
def blkO : Value → Option Nat
  | .pointer (some a) => some a.block
  | .slice (some a) _ _ => some a.block
  | _ => none
/-- A block that an operation is handed. -/
def Dep (vs : List Value) (g : Nat) : Prop := ∃ v ∈ vs, blkO v = some g
theorem dep_bound (vs : List Value) : ∃ N, ∀ g, N ≤ g → ¬ Dep vs g := by
  induction vs with
  | nil => exact ⟨0, fun g _ ⟨v, h, _⟩ => by cases h⟩
  | cons v vs ih =>
    obtain ⟨N, hN⟩ := ih
    refine ⟨max N ((blkO v).getD 0 + 1), fun g hg => ?_⟩
    rintro ⟨u, hu, hb⟩
    rcases List.mem_cons.1 hu with rfl | hu
    · rw [hb] at hg; simp at hg; omega
    · exact hN g (by omega) ⟨u, hu, hb⟩
/-- Makes: what they answer, where the new block is g. -/
def isMk : Op → Bool
  | .alloc _ => true
  | .buildSlice .. => true
  | _ => false
def mkVal : Op → Nat → Value
  | .alloc _, g => .pointer (some ⟨g, 0, none⟩)
  | .buildSlice _ n _, g => .slice (some ⟨g, 0, none⟩) n n
  | _, _ => undef
inductive Kd | quiet | make | act
  deriving DecidableEq
def kdOf (ops : Array Oper) (acts : List Nat) (i : Nat) (o : Oper) (a : Act) : Kd :=
  if Region.wanted o (yielded ops a.tmps) then (if acts.contains i then .act else if isMk o.op then .make else .quiet) else .quiet

def opVals (o : Oper) (a : Act) : List Value := o.op.operands.toList.map a.eval
/-- What the acts keep up: a word on the made blocks, on what the acts have answered, on the world. -/
structure Keeps (I : (Nat → Prop) → List Value → World → Prop) : Prop where
  quiet : ∀ D s u u', I D s u → Kept Nil u u' → I D s u'
  make : ∀ D s u o, I D s u → I (fun k => D k ∨ k = u.heap.size) s (u.alloc o)

section
variable {P : Program} {ops : Array Oper} {md : Region.Mode} {F : Nat → Prop} {W : World} {acts : List Nat} {Z : Nat → List Value → Array Value × TypeId} {vs : Nat → Value} {I : (Nat → Prop) → List Value → World → Prop} {Pv : Nat → Value → Prop}

def QAs (P : Program) (ops : Array Oper) (F : Nat → Prop) (W : World) (o : Oper) (a : Act) (v : Value) : Prop :=
  Region.wanted o (yielded ops a.tmps) = true → ∀ V, Kept F W V → ∃ u, o.quietAt P a (fun w' => Kept Nil V w') V u ∧ (u = v ∨ o.dst = none)
/-- An operation that enters no function tells its value by itself. -/
def Tells (P : Program) (W : World) (o : Oper) (a : Act) : Prop := ∀ f args w', (execOp a.eval o).run P W ≠ .ok (.enter f args) w'
def tellB : Op → Bool
  | .move _ | .assign _ | .pick .. | .build .. | .load .. | .binOp .. | .unOp .. | .convert .. | .slice .. | .fieldAddr .. | .field .. | .indexAddr .. | .index .. | .extract .. => true
  | _ => false
theorem no_enter {P : Program} {W : World} {α : Type} (m : Sem α) (g : α → Value) (f : FuncId) (args : Array Value) (w' : World) : (do let x ← m; pure (Next.value (g x)) : Sem Next).run P W ≠ .ok (.enter f args) w' := by
  simp only [Sem.run_bind]
  cases m.run P W with
  | ok x w => simp [Result.andThen]
  | halt x w => simp [Result.andThen]
theorem tells_of {o : Oper} (h : tellB o.op = true) (a : Act) (W : World) : Tells P W o a := by
  intro f args w'
  unfold execOp
  cases ho : o.op <;> simp only [ho, tellB, Bool.false_eq_true] at h <;> simp only
  case move x => simp
  case assign x => simp
  case pick c x y => exact no_enter _ (fun b => if b = true then a.eval x else a.eval y) _ _ _
  all_goals exact no_enter _ (fun v => v) _ _ _
def MAs (P : Program) (o : Oper) (a : Act) (x : Array Value × TypeId) : Prop :=
  ∀ u : World, (execOp a.eval o).run P u = .ok (.value (mkVal o.op u.heap.size)) (u.alloc (.cells x.1 x.2))
def actUpon (P : Program) (R : Value → World → Prop) : Result Next → Prop
  | .ok (.value x) w' => R x w'
  | .ok .skip w' => R undef w'
  | .ok (.enter f args) w' => Calls P f args w' (fun e w'' => ∃ v, e = .returned v ∧ R v w'')
  | _ => False
def AAs (P : Program) (F : Nat → Prop) (W : World) (I : (Nat → Prop) → List Value → World → Prop) (o : Oper) (a : Act) (L : Mad) (s : List Value) (pv : Value → Prop) : Prop :=
  ∀ D u, Kept F W u → I D s u → (∀ g x, Dep (opVals o a) g → L g = some x → D g ∧ Blo u g x.2 x.1) →
    actUpon P (fun v w' => pv v ∧ Kept F W w' ∧ I D (s ++ [v]) w' ∧ u.heap.size ≤ w'.heap.size ∧ ∀ k, D k → k < u.heap.size → w'.heap[k]? = u.heap[k]?) ((execOp a.eval o).run P u)

def vOf (ops : Array Oper) (o : Oper) (a : Act) (v : Value) : Value := if Region.wanted o (yielded ops a.tmps) then v else undef
def tO (P : Program) (ops : Array Oper) (F : Nat → Prop) (W : World) (acts : List Nat) (Z : Nat → List Value → Array Value × TypeId) (vs : Nat → Value) (I : (Nat → Prop) → List Value → World → Prop) (Pv : Nat → Value → Prop) (i : Nat) (o : Oper) (K : Act → Mad → List Value → Prop) (a : Act) (L : Mad) (s : List Value) : Prop :=
  match kdOf ops acts i o a with
  | .quiet => ∃ v, (Tells P W o a ∨ v = vs i) ∧ QAs P ops F W o a v ∧ K (a.put o.dst (vOf ops o a v)) L s
  | .make => MAs P o a (Z i (opVals o a)) ∧ ∀ g, W.heap.size ≤ g → L g = none → K (a.put o.dst (mkVal o.op g)) (mput L g (Z i (opVals o a))) s
  | .act => AAs P F W I o a L s (Pv i) ∧ (∃ v, Pv i v) ∧ ∀ v, Pv i v → K (a.put o.dst v) L (s ++ [v])
def tOp (P : Program) (ops : Array Oper) (F : Nat → Prop) (W : World) (acts : List Nat) (Z : Nat → List Value → Array Value × TypeId) (vs : Nat → Value) (I : (Nat → Prop) → List Value → World → Prop) (Pv : Nat → Value → Prop) (i : Nat) (K : Act → Mad → List Value → Prop) (a : Act) (L : Mad) (s : List Value) : Prop :=
  match ops[i]? with
  | none => K a L s
  | some o => tO P ops F W acts Z vs I Pv i o K a L s

theorem tO_mono {i : Nat} {o : Oper} {K K' : Act → Mad → List Value → Prop} {a : Act} {L : Mad} {s : List Value} (hF : Sparse L) (h : ∀ a L s, Sparse L → K a L s → K' a L s) (hh : tO P ops F W acts Z vs I Pv i o K a L s) : tO P ops F W acts Z vs I Pv i o K' a L s := by
  unfold tO at *
  split at hh
  · obtain ⟨v, h1, h2, h3⟩ := hh
    exact ⟨v, h1, h2, h _ _ _ hF h3⟩
  · exact ⟨hh.1, fun g h1 h2 => h _ _ _ (hF.put _ _) (hh.2 g h1 h2)⟩
  · exact ⟨hh.1, hh.2.1, fun v hv => h _ _ _ hF (hh.2.2 v hv)⟩
theorem tOp_mono {i : Nat} {K K' : Act → Mad → List Value → Prop} {a : Act} {L : Mad} {s : List Value} (hF : Sparse L) (h : ∀ a L s, Sparse L → K a L s → K' a L s) (hh : tOp P ops F W acts Z vs I Pv i K a L s) : tOp P ops F W acts Z vs I Pv i K' a L s := by
  unfold tOp at *
  split at hh
  · exact h _ _ _ hF hh
  · exact tO_mono hF h hh
theorem Sparse.fresh {L : Mad} (h : Sparse L) (B : Nat) (vl : List Value) : ∃ N, ∀ g, N ≤ g → B ≤ g ∧ L g = none ∧ ¬ Dep vl g := by
  obtain ⟨N, hN⟩ := h
  obtain ⟨M, hM⟩ := dep_bound vl
  exact ⟨max (max N B) M, fun g hg => ⟨by omega, hN g (by omega), hM g (by omega)⟩⟩
theorem tO_some {i : Nat} {o : Oper} {K : Act → Mad → List Value → Prop} {a : Act} {L : Mad} {s : List Value} (hF : Sparse L) (hh : tO P ops F W acts Z vs I Pv i o K a L s) : ∃ a L s, K a L s := by
  unfold tO at hh
  split at hh
  · obtain ⟨v, _, _, h3⟩ := hh; exact ⟨_, _, _, h3⟩
  · obtain ⟨N, hN⟩ := hF.fresh W.heap.size []
    obtain ⟨h1, h2, _⟩ := hN N (Nat.le_refl _)
    exact ⟨_, _, _, hh.2 N h1 h2⟩
  · obtain ⟨_, ⟨v, hv⟩, h3⟩ := hh
    exact ⟨_, _, _, h3 v hv⟩

/-- What tells its value, tells one value. -/
theorem qas_same {o : Oper} {a : Act} {v v' : Value} (hc : Tells P W o a) (hw : Region.wanted o (yielded ops a.tmps) = true) (h : QAs P ops F W o a v) (h' : QAs P ops F W o a v') : v = v' ∨ o.dst = none := by
  obtain ⟨u, h1, h2⟩ := h hw W (Kept.refl _ _)
  obtain ⟨u', h1', h2'⟩ := h' hw W (Kept.refl _ _)
  rcases h2 with rfl | h2
  · rcases h2' with rfl | h2'
    · left
      unfold Oper.quietAt at h1 h1'
      unfold Tells at hc
      generalize (execOp a.eval o).run P W = r at *
      cases r with
      | ok n w' =>
        cases n <;> simp only [Oper.quietUpon] at h1 h1'
        case value => exact h1.2.symm.trans h1'.2
        case skip => exact h1.2.trans h1'.2.symm
        case enter f args => exact absurd rfl (hc f args w')
      | halt x w' => simp only [Oper.quietUpon] at h1
    · exact .inr h2'
  · exact .inr h2
theorem qas_put {i : Nat} {o : Oper} {a : Act} {v v' : Value} (hc : Tells P W o a ∨ v = vs i) (hc' : Tells P W o a ∨ v' = vs i) (h : QAs P ops F W o a v) (h' : QAs P ops F W o a v') : a.put o.dst (vOf ops o a v) = a.put o.dst (vOf ops o a v') := by
  unfold vOf
  by_cases hw : Region.wanted o (yielded ops a.tmps) = true
  · rw [if_pos hw, if_pos hw]
    have key : v = v' ∨ o.dst = none := by
      rcases hc with hc | rfl
      · exact qas_same hc hw h h'
      · rcases hc' with hc | rfl
        · exact qas_same hc hw h h'
        · exact .inl rfl
    rcases key with rfl | hd
    · rfl
    · rw [hd]; rfl
  · rw [if_neg hw, if_neg hw]

/-- Two operations that are apart, not both of them acts: either may be first. -/
theorem tO_swap {i j : Nat} {oi oj : Oper} (hap : oi.apart ops oj = true) (hsi : ∀ cs b, oi.op ≠ .select cs b) (hsj : ∀ cs b, oj.op ≠ .select cs b) (hact : acts.contains i = true → acts.contains j = true → False) {K : Act → Mad → List Value → Prop} {a : Act} {L : Mad} {s : List Value} (hF : Sparse L)
    (h : tO P ops F W acts Z vs I Pv i oi (tO P ops F W acts Z vs I Pv j oj K) a L s) : tO P ops F W acts Z vs I Pv j oj (tO P ops F W acts Z vs I Pv i oi K) a L s := by
  obtain ⟨h1, h2, h3⟩ := Oper.apart_spec hap
  have kj : ∀ u, kdOf ops acts j oj (a.put oi.dst u) = kdOf ops acts j oj a := fun u => by unfold kdOf; rw [wanted_put oj a oi.dst u h1]
  have ki : ∀ u, kdOf ops acts i oi (a.put oj.dst u) = kdOf ops acts i oi a := fun u => by unfold kdOf; rw [wanted_put oi a oj.dst u h3]
  have vj : ∀ u v, vOf ops oj (a.put oi.dst u) v = vOf ops oj a v := fun u v => by unfold vOf; rw [wanted_put oj a oi.dst u h1]
  have vi : ∀ u v, vOf ops oi (a.put oj.dst u) v = vOf ops oi a v := fun u v => by unfold vOf; rw [wanted_put oi a oj.dst u h3]
  have xj : ∀ u, execOp (a.put oi.dst u).eval oj = execOp a.eval oj := fun u => execOp_put oj hsj a oi.dst u h1
  have xi : ∀ u, execOp (a.put oj.dst u).eval oi = execOp a.eval oi := fun u => execOp_put oi hsi a oj.dst u h3
  have oj' : ∀ u, opVals oj (a.put oi.dst u) = opVals oj a := fun u => by
    unfold opVals
    refine List.map_congr_left fun x hx => Act.eval_put fun d hd hxd => h1 d hd (by
      subst hxd; exact List.mem_append_left _ (List.mem_filterMap.2 ⟨.tmp d, by simpa using hx, rfl⟩))
  have oi' : ∀ u, opVals oi (a.put oj.dst u) = opVals oi a := fun u => by
    unfold opVals
    refine List.map_congr_left fun x hx => Act.eval_put fun d hd hxd => h3 d hd (by
      subst hxd; exact List.mem_append_left _ (List.mem_filterMap.2 ⟨.tmp d, by simpa using hx, rfl⟩))
  have tj : ∀ u, Tells P W oj (a.put oi.dst u) ↔ Tells P W oj a := fun u => by unfold Tells; rw [xj]
  have ti : ∀ u, Tells P W oi (a.put oj.dst u) ↔ Tells P W oi a := fun u => by unfold Tells; rw [xi]
  have qj : ∀ u v, QAs P ops F W oj (a.put oi.dst u) v ↔ QAs P ops F W oj a v := fun u v => by
    unfold QAs Oper.quietAt; rw [wanted_put oj a oi.dst u h1, xj]
  have qi : ∀ u v, QAs P ops F W oi (a.put oj.dst u) v ↔ QAs P ops F W oi a v := fun u v => by
    unfold QAs Oper.quietAt; rw [wanted_put oi a oj.dst u h3, xi]
  have mj : ∀ u x, MAs P oj (a.put oi.dst u) x ↔ MAs P oj a x := fun u x => by unfold MAs; rw [xj]
  have mi : ∀ u x, MAs P oi (a.put oj.dst u) x ↔ MAs P oi a x := fun u x => by unfold MAs; rw [xi]
  have aj : ∀ u L s (v : Value → Prop), AAs P F W I oj (a.put oi.dst u) L s v ↔ AAs P F W I oj a L s v := fun u L s v => by unfold AAs; rw [xj, oj']
  have ai : ∀ u L s (v : Value → Prop), AAs P F W I oi (a.put oj.dst u) L s v ↔ AAs P F W I oi a L s v := fun u L s v => by unfold AAs; rw [xi, oi']
  have pc : ∀ v u, (a.put oj.dst u).put oi.dst v = (a.put oi.dst v).put oj.dst u := fun v u => (Act.put_comm a v u h2).symm
  unfold tO at h ⊢
  simp only [kj, ki, vj, vi, tj, ti, qj, qi, mj, mi, aj, ai, oj', oi'] at h ⊢
  rcases hi : kdOf ops acts i oi a <;> rcases hj : kdOf ops acts j oj a <;> simp only [hi, hj] at h ⊢
  · obtain ⟨v, g1, g2, v', g3, g4, g5⟩ := h
    exact ⟨v', g3, g4, v, g1, g2, by rw [pc]; exact g5⟩
  · obtain ⟨v, g1, g2, g3, g4⟩ := h
    exact ⟨g3, fun g hg hL => ⟨v, g1, g2, by rw [pc]; exact g4 g hg hL⟩⟩
  · obtain ⟨v, g1, g2, g3, g4, g5⟩ := h
    exact ⟨g3, g4, fun x hx => ⟨v, g1, g2, by rw [pc]; exact g5 x hx⟩⟩
  · obtain ⟨g1, g2⟩ := h
    obtain ⟨N, hN⟩ := hF.fresh W.heap.size []
    obtain ⟨v0, e1, e2, e3⟩ := g2 N (hN N (Nat.le_refl _)).1 (hN N (Nat.le_refl _)).2.1
    refine ⟨v0, e1, e2, g1, fun g hg hL => ?_⟩
    obtain ⟨v, f1, f2, f3⟩ := g2 g hg hL
    have hp := qas_put (i := j) e1 f1 e2 f2
    rw [← pc] at f3
    rw [hp]
    exact f3
  · obtain ⟨g1, g2⟩ := h
    obtain ⟨N, hN⟩ := hF.fresh W.heap.size []
    refine ⟨(g2 N (hN N (Nat.le_refl _)).1 (hN N (Nat.le_refl _)).2.1).1, fun g hg hL => ⟨g1, fun k hk hLk => ?_⟩⟩
    have hne : k ≠ g := fun e => by rw [e, mput_same] at hLk; cases hLk
    rw [mput_ne _ _ hne] at hLk
    rw [pc, mput_comm _ _ _ (Ne.symm hne)]
    exact (g2 k hk hLk).2 g hg (by rw [mput_ne _ _ (Ne.symm hne)]; exact hL)
  · obtain ⟨g1, g2⟩ := h
    obtain ⟨N, hN⟩ := hF.fresh W.heap.size (opVals oj a)
    obtain ⟨n1, n2, n3⟩ := hN N (Nat.le_refl _)
    refine ⟨fun D u hu hI hd => (g2 N n1 n2).1 D u hu hI fun g x hg hLx => ?_, (g2 N n1 n2).2.1, fun x hx => ⟨g1, fun g hg hL => by rw [pc]; exact (g2 g hg hL).2.2 x hx⟩⟩
    have hne : g ≠ N := fun e => n3 (by rw [← e]; exact hg)
    rw [mput_ne _ _ hne] at hLx
    exact hd g x hg hLx
  · obtain ⟨g1, ⟨x0, hx0⟩, g2⟩ := h
    obtain ⟨v0, e1, e2, e3⟩ := g2 x0 hx0
    refine ⟨v0, e1, e2, g1, ⟨x0, hx0⟩, fun x hx => ?_⟩
    obtain ⟨v, f1, f2, f3⟩ := g2 x hx
    have hp := qas_put (i := j) e1 f1 e2 f2
    rw [← pc] at f3
    rw [hp]
    exact f3
  · obtain ⟨g1, ⟨x0, hx0⟩, g2⟩ := h
    refine ⟨(g2 x0 hx0).1, fun g hg hL => ⟨fun D u hu hI hd => g1 D u hu hI fun g' x hg' hLx => ?_, ⟨x0, hx0⟩, fun x hx => by rw [pc]; exact (g2 x hx).2 g hg hL⟩⟩
    have hne : g' ≠ g := fun e => by rw [e, hL] at hLx; cases hLx
    exact hd g' x hg' (by rw [mput_ne _ _ hne]; exact hLx)
  · exfalso
    unfold kdOf at hi hj
    split at hi
    · split at hi
      · rename_i hci
        split at hj
        · split at hj
          · rename_i hcj; exact hact hci hcj
          · split at hj <;> cases hj
        · cases hj
      · split at hi <;> cases hi
    · cases hi

/-- The head's operations in whatever order; behind them T. -/
def hdT (P : Program) (md : Region.Mode) (ops : Array Oper) (F : Nat → Prop) (W : World) (acts : List Nat) (Z : Nat → List Value → Array Value × TypeId) (vs : Nat → Value) (I : (Nat → Prop) → List Value → World → Prop) (Pv : Nat → Value → Prop) (n : Nat) (T : Array Bool → Act → Mad → List Value → Prop) : Nat → Array Bool → Act → Mad → List Value → Prop
  | 0, listed, a, L, s => T listed a L s
  | f + 1, listed, a, L, s => Region.ready md ops listed ≠ [] ∧ ∀ i, i ∈ Region.ready md ops listed → i < n ∧ tOp P ops F W acts Z vs I Pv i (hdT P md ops F W acts Z vs I Pv n T f (listed.setIfInBounds i true)) a L s

/-- Whether j waits for i, by way of others. -/
def reachB (md : Region.Mode) (ops : Array Oper) : Nat → Nat → Nat → Bool
  | 0, _, _ => false
  | f + 1, j, i => match ops[j]? with
    | some o => o.after.any fun e => Region.binds md e && (e.on == i || reachB md ops f e.on i)
    | none => false
structure Inv (md : Region.Mode) (ops : Array Oper) (listed : Array Bool) : Prop where
  size : listed.size = ops.size
  closed : ∀ j oj, ops[j]? = some oj → listed.getD j false = true → ∀ e ∈ oj.after, Region.binds md e = true → listed.getD e.on false = true
theorem Inv.set {i : Nat} {listed : Array Bool} (inv : Inv md ops listed) (hi : i ∈ Region.ready md ops listed) : Inv md ops (listed.setIfInBounds i true) := by
  obtain ⟨_, oi, hoi, hall⟩ := mem_ready.1 hi
  refine ⟨by simp [inv.size], fun j oj hj hl e he hb => ?_⟩
  by_cases hij : i = j
  · subst hij
    obtain rfl : oj = oi := Option.some.inj (hj.symm.trans hoi)
    exact getD_set_true (hall e he hb)
  · rw [getD_set_ne false hij] at hl
    exact getD_set_true (inv.closed j oj hj hl e he hb)
theorem reach_in {i : Nat} {listed : Array Bool} (inv : Inv md ops listed) (hun : listed.getD i false = false) : ∀ (f j : Nat), reachB md ops f j i = true → listed.getD j false = false := by
  intro f
  induction f with
  | zero => intro j h; simp [reachB] at h
  | succ f ih =>
    intro j h
    unfold reachB at h
    split at h
    · rename_i o ho
      obtain ⟨e, he, hb⟩ := Array.any_eq_true'.1 h
      simp only [Bool.and_eq_true, Bool.or_eq_true, beq_iff_eq] at hb
      have hon : listed.getD e.on false = false := by
        rcases hb.2 with h1 | h1
        · rw [h1]; exact hun
        · exact ih _ h1
      cases hl : listed.getD j false with
      | false => rfl
      | true =>
        have := inv.closed j o ho hl e he hb.1
        rw [hon] at this
        cases this
    · cases h
theorem reach_ready {i j : Nat} {listed : Array Bool} (inv : Inv md ops listed) (hun : listed.getD i false = false) {f : Nat} (h : reachB md ops f j i = true) : j ∉ Region.ready md ops listed := by
  intro hr
  obtain ⟨_, o, ho, hall⟩ := mem_ready.1 hr
  cases f with
  | zero => simp [reachB] at h
  | succ f =>
    unfold reachB at h
    simp only [ho] at h
    obtain ⟨e, he, hb⟩ := Array.any_eq_true'.1 h
    simp only [Bool.and_eq_true, Bool.or_eq_true, beq_iff_eq] at hb
    have hon : listed.getD e.on false = false := by
      rcases hb.2 with h1 | h1
      · rw [h1]; exact hun
      · exact reach_in inv hun f _ h1
    have := hall e he hb.1
    rw [hon] at this
    cases this
/-- The acts wait for one another; what stands from n on waits for all ahead of n. -/
def actsB (md : Region.Mode) (ops : Array Oper) (acts : List Nat) : Bool := acts.all fun i => acts.all fun j => decide (j ≤ i) || reachB md ops ops.size j i
def sinkT (md : Region.Mode) (ops : Array Oper) (n : Nat) : Bool := (List.range ops.size).all fun j => decide (j < n) || (List.range n).all fun i => reachB md ops ops.size j i
theorem acts_apart {i j : Nat} {listed : Array Bool} (inv : Inv md ops listed) (hA : actsB md ops acts = true) (hi : i ∈ Region.ready md ops listed) (hj : j ∈ Region.ready md ops listed) (hij : j ≠ i) : acts.contains i = true → acts.contains j = true → False := by
  intro h1 h2
  have hi1 : i ∈ acts := by simpa using h1
  have hj1 : j ∈ acts := by simpa using h2
  have ui := getD_both (mem_ready.1 hi).1
  have uj := getD_both (mem_ready.1 hj).1
  rcases Nat.lt_or_gt_of_ne hij with h | h
  · have := List.all_eq_true.1 (List.all_eq_true.1 hA j hj1) i hi1
    simp only [Bool.or_eq_true, decide_eq_true_eq] at this
    rcases this with h' | h'
    · omega
    · exact reach_ready inv uj h' hi
  · have := List.all_eq_true.1 (List.all_eq_true.1 hA i hi1) j hj1
    simp only [Bool.or_eq_true, decide_eq_true_eq] at this
    rcases this with h' | h'
    · omega
    · exact reach_ready inv ui h' hj
theorem low_of {n i : Nat} {listed : Array Bool} (inv : Inv md ops listed) (hS : sinkT md ops n = true) (hin : i < n) (hi : i ∈ Region.ready md ops listed) : ∀ j, j ∈ Region.ready md ops listed → j < n := by
  intro j hj
  rcases Nat.lt_or_ge j n with h | h
  · exact h
  · obtain ⟨_, oj, hoj, _⟩ := mem_ready.1 hj
    have h1 := List.all_eq_true.1 hS j (List.mem_range.2 (Array.getElem?_eq_some_iff.1 hoj).1)
    simp only [Bool.or_eq_true, decide_eq_true_eq] at h1
    rcases h1 with h1 | h1
    · omega
    · exact absurd hj (reach_ready inv (getD_both (mem_ready.1 hi).1) (List.all_eq_true.1 h1 i (List.mem_range.2 hin)))

theorem hdT_first {n i : Nat} {oi : Oper} {T : Array Bool → Act → Mad → List Value → Prop} (hi : ops[i]? = some oi) (hsel : ∀ (j : Nat) (o : Oper) cs b, ops[j]? = some o → o.op ≠ .select cs b)
    (hA : actsB md ops acts = true) (hS : sinkT md ops n = true) (hin : i < n) (hdone : ∀ listed a L s, T listed a L s → ∀ j, j ∈ Region.ready md ops listed → n ≤ j) (f : Nat) :
    ∀ (listed : Array Bool) (a : Act) (L : Mad) (s : List Value), Sparse L → Inv md ops listed →
      (∀ j oj, ops[j]? = some oj → j ≠ i → listed.getD j true = false → (∀ e ∈ oj.after, Region.binds md e = true → e.on ≠ i) → oi.apart ops oj = true) →
      i ∈ Region.ready md ops listed → tO P ops F W acts Z vs I Pv i oi (hdT P md ops F W acts Z vs I Pv n T f (listed.setIfInBounds i true)) a L s → hdT P md ops F W acts Z vs I Pv n T (f + 1) listed a L s := by
  induction f with
  | zero =>
    intro listed a L s hF inv _ hr H
    refine ⟨fun h => (by rw [h] at hr; cases hr), fun j hj => ⟨low_of inv hS hin hr j hj, ?_⟩⟩
    by_cases e : j = i
    · subst e; unfold tOp; simp only [hi]; exact H
    · obtain ⟨a', L', s', hT⟩ := tO_some hF H
      exact absurd (low_of inv hS hin hr j hj) (Nat.not_lt.2 (hdone _ _ _ _ hT j (ready_mono hj e)))
  | succ f ih =>
    intro listed a L s hF inv hfree hr H
    have hun := getD_both (mem_ready.1 hr).1
    refine ⟨fun h => (by rw [h] at hr; cases hr), fun j hj => ⟨low_of inv hS hin hr j hj, ?_⟩⟩
    by_cases e : j = i
    · subst e; unfold tOp; simp only [hi]; exact H
    · obtain ⟨hjun, oj, hoj, hall⟩ := mem_ready.1 hj
      have hnot : ∀ e ∈ oj.after, Region.binds md e = true → e.on ≠ i := fun x hx hb he => by
        have := hall x hx hb
        rw [he, hun] at this
        cases this
      have H' : tO P ops F W acts Z vs I Pv i oi (tO P ops F W acts Z vs I Pv j oj (hdT P md ops F W acts Z vs I Pv n T f ((listed.setIfInBounds i true).setIfInBounds j true))) a L s :=
        tO_mono hF (fun a' L' s' _ h => by
          have := (h.2 j (ready_mono hj e)).2
          unfold tOp at this
          simp only [hoj] at this
          exact this) H
      have H2 := tO_swap (hfree j oj hoj e hjun hnot) (fun cs b => hsel i oi cs b hi) (fun cs b => hsel j oj cs b hoj) (acts_apart inv hA hr hj e) hF H'
      unfold tOp
      simp only [hoj]
      refine tO_mono hF (fun a' L' s' hF' h => ih (listed.setIfInBounds j true) a' L' s' hF' (inv.set hj) (fun k ok hk hki hkun hno => hfree k ok hk hki ?_ hno) (ready_mono hr (Ne.symm e)) ?_) H2
      · by_cases hjk : j = k
        · subst hjk; exact hjun
        · rw [getD_set_ne true hjk] at hkun; exact hkun
      · rw [Array.setIfInBounds_comm _ _ e]
        exact h

/-- The walk in the order of the text. -/
def tLex (P : Program) (ops : Array Oper) (F : Nat → Prop) (W : World) (acts : List Nat) (Z : Nat → List Value → Array Value × TypeId) (vs : Nat → Value) (I : (Nat → Prop) → List Value → World → Prop) (Pv : Nat → Value → Prop) (T : Act → Mad → List Value → Prop) : List Oper → Nat → Act → Mad → List Value → Prop
  | [], _, a, L, s => T a L s
  | o :: rest, k, a, L, s => tO P ops F W acts Z vs I Pv k o (tLex P ops F W acts Z vs I Pv T rest (k + 1)) a L s

theorem hdT_lex {n g : Nat} {T : Act → Mad → List Value → Prop} (hsel : Region.noSelect ops = true) (hA : actsB md ops acts = true) (hS : sinkT md ops n = true) (l : List Oper) :
    ∀ (k : Nat) (listed : Array Bool) (a : Act) (L : Mad) (s : List Value), Sparse L → (∀ j, j < l.length → l[j]? = ops[k + j]?) → k + l.length = n → Inv md ops listed → Region.lexHead md ops g l.length k listed = true → tLex P ops F W acts Z vs I Pv T l k a L s →
      hdT P md ops F W acts Z vs I Pv n (fun listed' a' L' s' => Region.seqB md ops g n listed' = true ∧ T a' L' s') l.length listed a L s := by
  induction l with
  | nil =>
    intro k listed a L s _ _ hk _ hB h
    obtain rfl : k = n := by simpa using hk
    exact ⟨by simpa [Region.lexHead] using hB, h⟩
  | cons o l ih =>
    intro k listed a L s hF hl hk inv hB h
    have h0 : ops[k]? = some o := by simpa using (hl 0 (by simp)).symm
    simp only [List.length_cons, Region.lexHead, Bool.and_eq_true] at hB
    obtain ⟨⟨hr, hf⟩, hB'⟩ := hB
    have hkn : k < n := by simp only [List.length_cons] at hk; omega
    have hr' : k ∈ Region.ready md ops listed := by simpa using hr
    refine hdT_first h0 (Region.noSelect_spec hsel) hA hS hkn (fun _ _ _ _ hL => seqB_ready hL.1) l.length listed a L s hF inv (Region.free_spec h0 hf) hr' ?_
    exact tO_mono hF (fun a' L' s' hF' h' => ih (k + 1) _ a' L' s' hF' (fun j hj => by have := hl (j + 1) (by simp; omega); simpa [Nat.add_assoc, Nat.add_comm 1 j] using this) (by simp only [List.length_cons] at hk; omega) (inv.set hr') hB' h') h

/-- What the walk knows of the world. -/
structure Stands (F : Nat → Prop) (W : World) (I : (Nat → Prop) → List Value → World → Prop) (L : Mad) (s : List Value) (u : World) : Prop where
  kept : Kept F W u
  know : I (fun k => L k ≠ none) s u
  made : ∀ g x, L g = some x → W.heap.size ≤ g ∧ Blo u g x.2 x.1
theorem Stands.sparse {L : Mad} {s : List Value} {u : World} (h : Stands F W I L s u) : Sparse L := ⟨u.heap.size, fun g hg => by
  rcases hL : L g with _ | x
  · rfl
  · have := (h.made g x hL).2.lt
    omega⟩
theorem tO_sound {i : Nat} {o : Oper} (hI : Keeps I) {Q : Exit → Act → World → Prop} {K : Act → Mad → List Value → Prop} {K' : Act → World → Prop} {a : Act} {L : Mad} {s : List Value} {u : World} (hu : Stands F W I L s u) (h : ∀ a L s u, Stands F W I L s u → K a L s → K' a u)
    (hh : tO P ops F W acts Z vs I Pv i o K a L s) : if Region.wanted o (yielded ops a.tmps) then o.wp P a u K' Q ∨ (o.asks P a u ∧ LetsOut Q) else K' (a.put o.dst undef) u := by
  unfold tO at hh
  rcases hk : kdOf ops acts i o a <;> simp only [hk] at hh
  · obtain ⟨v, _, hq, hK⟩ := hh
    unfold vOf at hK
    split
    · rename_i hw
      rw [if_pos hw] at hK
      obtain ⟨v', h3, hv⟩ := hq hw u hu.kept
      refine .inl ?_
      have hput : a.put o.dst v' = a.put o.dst v := by
        rcases hv with rfl | hd
        · rfl
        · rw [hd]; rfl
      rw [← hput] at hK
      have later : ∀ w'', Kept Nil u w'' → Stands F W I L s w'' := fun w'' hw'' => ⟨hu.kept.then hw'', hI.quiet _ _ _ _ hu.know hw'', fun g x hL => ⟨(hu.made g x hL).1, (hu.made g x hL).2.kept hw'' (fun hf => hf)⟩⟩
      unfold Oper.quietAt at h3
      unfold Oper.wp
      generalize (execOp a.eval o).run P u = r at *
      cases r with
      | ok n w' =>
        cases n <;> simp only [Oper.quietUpon] at h3 <;> simp only [Oper.upon]
        case value u' =>
          obtain ⟨e1, e2⟩ := h3
          rw [e1, e2]
          exact h _ _ _ _ hu hK
        case skip =>
          obtain ⟨e1, e2⟩ := h3
          rw [e1, ← e2]
          exact h _ _ _ _ hu hK
        case enter f args =>
          obtain ⟨e1, hc⟩ := h3
          rw [e1]
          exact hc.mono fun e w'' ⟨he, hw''⟩ => by subst he; exact h _ _ _ _ (later w'' hw'') hK
      | halt x w' => simp only [Oper.quietUpon] at h3
    · rename_i hw
      rw [if_neg hw] at hK
      exact h _ _ _ _ hu hK
  · obtain ⟨hM, hK⟩ := hh
    have hw : Region.wanted o (yielded ops a.tmps) = true := by
      unfold kdOf at hk
      split at hk
      · assumption
      · cases hk
    rw [if_pos hw]
    refine .inl ?_
    unfold Oper.wp
    rw [hM u]
    simp only [Oper.upon]
    have hfr : L u.heap.size = none := by
      rcases hL : L u.heap.size with _ | x
      · rfl
      · have := (hu.made _ _ hL).2.lt
        omega
    refine h _ _ _ _ ⟨hu.kept.alloc _, ?_, fun g x hL => ?_⟩ (hK _ hu.kept.size hfr)
    · have := hI.make _ _ _ (.cells (Z i (opVals o a)).1 (Z i (opVals o a)).2) hu.know
      have e : (fun k => mput L u.heap.size (Z i (opVals o a)) k ≠ none) = (fun k => L k ≠ none ∨ k = u.heap.size) := by
        funext k
        refine propext ?_
        unfold mput
        by_cases h1 : k = u.heap.size <;> simp [h1]
      rw [e]
      exact this
    · by_cases hg : g = u.heap.size
      · subst hg
        rw [mput_same] at hL
        cases hL
        exact ⟨hu.kept.size, Blo.new u _ _⟩
      · rw [mput_ne _ _ hg] at hL
        exact ⟨(hu.made g x hL).1, (hu.made g x hL).2.alloc _⟩
  · obtain ⟨hA, _, hK⟩ := hh
    have hw : Region.wanted o (yielded ops a.tmps) = true := by
      unfold kdOf at hk
      split at hk
      · assumption
      · cases hk
    rw [if_pos hw]
    refine .inl ?_
    have hA := hA (fun k => L k ≠ none) u hu.kept hu.know (fun g x _ hL => ⟨by rw [hL]; simp, (hu.made g x hL).2⟩)
    have later : ∀ v w'', (Pv i v ∧ Kept F W w'' ∧ I (fun k => L k ≠ none) (s ++ [v]) w'' ∧ u.heap.size ≤ w''.heap.size ∧ ∀ k, L k ≠ none → k < u.heap.size → w''.heap[k]? = u.heap[k]?) → Stands F W I L (s ++ [v]) w'' := fun v w'' ⟨_, g1, g2, g3, g4⟩ =>
      ⟨g1, g2, fun g x hL => ⟨(hu.made g x hL).1, (g4 g (by rw [hL]; simp) (hu.made g x hL).2.lt).trans (hu.made g x hL).2⟩⟩
    unfold Oper.wp
    generalize (execOp a.eval o).run P u = r at *
    cases r with
    | ok n w' =>
      cases n <;> simp only [actUpon] at hA <;> simp only [Oper.upon]
      case value u' => exact h _ _ _ _ (later _ _ hA) (hK _ hA.1)
      case skip => exact h _ _ _ _ (later _ _ hA) (hK _ hA.1)
      case enter f args =>
        exact hA.mono fun e w'' ⟨v, he, hw''⟩ => by subst he; exact h _ _ _ _ (later v w'' hw'') (hK _ hw''.1)
    | halt x w' => simp only [actUpon] at hA

theorem hdT_sound (hI : Keeps I) {n g : Nat} {T : Array Bool → Act → Mad → List Value → Prop} {Q : Exit → Act → World → Prop} (hT : ∀ listed a L s u, Stands F W I L s u → T listed a L s → wpAny P md ops Q g listed a u) (f : Nat) :
    ∀ (listed : Array Bool) (a : Act) (L : Mad) (s : List Value) (u : World), Stands F W I L s u → hdT P md ops F W acts Z vs I Pv n T f listed a L s → wpAny P md ops Q (g + f) listed a u := by
  induction f with
  | zero => intro listed a L s u hu h; exact hT _ _ _ _ _ hu h
  | succ f ih =>
    intro listed a L s u hu h
    refine ⟨fun h0 => absurd h0 h.1, fun i hi => ?_⟩
    have h2 := (h.2 i hi).2
    unfold tOp at h2
    unfold wpOp
    split
    · rename_i ho
      simp only [ho] at h2
      exact ih _ _ _ _ _ hu h2
    · rename_i o ho
      simp only [ho] at h2
      exact tO_sound hI hu (fun a' L' s' u' hu' hK => ih _ a' L' s' u' hu' hK) h2
end

def noneM : Mad := fun _ => none
/-- **The region.** n: how many operations may stand in any order; those behind wait for all of these, and for one another. -/
theorem wp_region_acts {P : Program} {id : Nat} {Q : Exit → Act → World → Prop} {a : Act} {w : World} {l : List Oper} (F : Nat → Prop) (acts : List Nat) (Z : Nat → List Value → Array Value × TypeId) (vs : Nat → Value) (I : (Nat → Prop) → List Value → World → Prop) (Pv : Nat → Value → Prop) (n : Nat)
    (hm : P.follows .mixedOrders = true) (hB : (Region.noSelect l.toArray && (actsB .any l.toArray acts && (sinkT .any l.toArray n && (decide (n ≤ l.toArray.size) && Region.lexHead .any l.toArray (l.toArray.size - n) n 0 (Array.replicate l.toArray.size false))))) = true)
    (hI : Keeps I) (h0 : I (fun _ => False) [] w)
    (h : tLex P l.toArray F w acts Z vs I Pv (fun a' L s => ∀ w', Stands F w I L s w' → wpList P l.toArray Q (l.drop n) a' w') (l.take n) 0 a noneM []) : (Code.region id l.toArray true).wp P Q a w := by
  simp only [Bool.and_eq_true, decide_eq_true_eq] at hB
  obtain ⟨hsel, hA, hS, hn, hlex⟩ := hB
  have hn' : n ≤ l.length := by simpa using hn
  have htl : (l.take n).length = n := by simp; omega
  have hdl : (l.drop n).length = l.toArray.size - n := by simp
  have inv0 : Inv .any l.toArray (Array.replicate l.toArray.size false) := ⟨by simp, fun j oj _ hl => (by rw [getD_replicate_false] at hl; cases hl)⟩
  have H := hdT_lex (md := .any) (g := l.toArray.size - n) hsel hA hS (l.take n) 0 _ a noneM [] ⟨0, fun _ _ => rfl⟩ (fun j hj => by
    have hj' : j < n := by rw [htl] at hj; exact hj
    simp [hj']) (by simpa using htl) inv0 (by rw [htl]; exact hlex) h
  refine wp_region_any hm ?_
  have fin := hdT_sound hI (Q := Q) (g := l.toArray.size - n) (fun listed a' L s w' hw' hL => by
    have := wpAny_of_seq (md := .any) (Q' := Q) (l.drop n) n listed a' w' (fun j => by simp [List.getElem?_drop]) (by rw [hdl]; exact hL.1) (hL.2 w' hw')
    rwa [hdl] at this) _ _ _ noneM [] { w with drawn := w.drawn + 1 } ⟨(Kept.refl F w).drew, by
      have e : (fun k => noneM k ≠ none) = fun _ => False := by funext k; simp [noneM]
      rw [e]
      exact hI.quiet _ _ _ _ h0 (Kept.refl Nil w).drew, fun g x hL => by cases hL⟩ H
  rw [htl, show l.toArray.size - n + n = l.toArray.size by omega] at fin
  exact fin

/-! The walk's steps. -/
section
variable {P : Program} {ops : Array Oper} {F : Nat → Prop} {W : World} {acts : List Nat} {Z : Nat → List Value → Array Value × TypeId} {vs : Nat → Value} {I : (Nat → Prop) → List Value → World → Prop} {Pv : Nat → Value → Prop} {T : Act → Mad → List Value → Prop}
/-- The calls' values are those that were told ahead. -/
def VsOk (b : Act) (vs : Nat → Value) : Nat → List Oper → Prop
  | _, [] => True
  | k, o :: l => (match tellB o.op, o.dst with | false, some d => b.tmps.getD d undef = vs k | _, _ => True) ∧ VsOk b vs (k + 1) l
/-- Each operation writes a slot of its own, and none is a make or an act. -/
def chunkB (acts : List Nat) (n : Nat) : Nat → List Oper → Bool
  | _, [] => true
  | k, o :: l => !acts.contains k && !isMk o.op && (match o.dst with | some d => decide (d < n) && l.all (fun o' => o'.dst != some d) | none => tellB o.op) && chunkB acts n (k + 1) l
theorem tLex_chunk {b : Act} (n : Nat) (rest : List Oper) (L : Mad) (s : List Value) : ∀ (l : List Oper) (k : Nat) (a : Act), a.tmps.size = n → chunkB acts n k l = true → VsOk b vs k l →
    (∀ V, Kept F W V → wpQuiet P ops (fun w' => ∃ p : Regrown, w' = grow (redrawn V p.d) p.os) (fun a' => a' = b) l a) →
    tLex P ops F W acts Z vs I Pv T rest (k + l.length) b L s → tLex P ops F W acts Z vs I Pv T (l ++ rest) k a L s := by
  have hC : ∀ V : World, (fun w' : World => ∃ p : Regrown, w' = grow (redrawn V p.d) p.os) = fun w' => Kept Nil V w' := fun V => by
    funext w'
    refine propext ⟨fun ⟨p, h⟩ => by rw [h]; exact kept_grown V p, fun h => regrown_of_below ⟨h.os, h.tape, h.output, h.size, fun k hk => h.block k hk (fun hf => hf)⟩⟩
  simp only [hC]
  intro l
  induction l with
  | nil =>
    intro k a _ _ _ hq ht
    obtain rfl : a = b := hq W (Kept.refl _ _)
    exact ht
  | cons o l ih =>
    intro k a hsz hp hv hq ht
    simp only [chunkB, Bool.and_eq_true, Bool.not_eq_true'] at hp
    obtain ⟨⟨⟨hna, hnm⟩, hdst⟩, hp'⟩ := hp
    have hkd : kdOf ops acts k o a = .quiet := by
      unfold kdOf
      split
      · rw [if_neg (by rw [hna]; simp), if_neg (by rw [hnm]; simp)]
      · rfl
    show tO P ops F W acts Z vs I Pv k o _ a L s
    unfold tO
    simp only [hkd]
    have slot : ∀ d, o.dst = some d → ∀ V, ∀ v, wpQuiet P ops (fun w' => Kept Nil V w') (fun a' => a' = b) l (a.put o.dst v) → b.tmps.getD d undef = v := fun d hd' V v h => by
      rw [hd'] at hdst
      simp only [Bool.and_eq_true, decide_eq_true_eq, List.all_eq_true, bne_iff_ne] at hdst
      have := quiet_slot d l _ (fun o' ho' => hdst.2 o' ho') h
      rw [hd'] at this
      simp only [Act.put, Array.getElem?_setIfInBounds_self] at this
      rw [if_pos (by rw [hsz]; exact hdst.1)] at this
      simp [Array.getD_eq_getD_getElem?, this]
    have go : ∀ v, (∀ V, Kept F W V → wpQuiet P ops (fun w' => Kept Nil V w') (fun a' => a' = b) l (a.put o.dst v)) → tLex P ops F W acts Z vs I Pv T (l ++ rest) (k + 1) (a.put o.dst v) L s := fun v h =>
      ih (k + 1) _ (by rw [put_size]; exact hsz) hp' hv.2 h (by rw [show k + 1 + l.length = k + (o :: l).length by simp; omega]; exact ht)
    unfold wpQuiet at hq
    by_cases hw : Region.wanted o (yielded ops a.tmps) = true
    · simp only [hw, if_true] at hq
      cases hdd : o.dst with
      | none =>
        rw [hdd] at hdst
        obtain ⟨v0, _, _⟩ := hq W (Kept.refl _ _)
        refine ⟨v0, .inl (tells_of hdst a W), fun _ V hV => ?_, ?_⟩
        · obtain ⟨v, h1, h2⟩ := hq V hV
          exact ⟨v, h1 V (Kept.refl _ _), .inr hdd⟩
        · have := go v0 fun V hV => by
            obtain ⟨v, h1, h2⟩ := hq V hV
            rw [hdd] at h2 ⊢
            exact h2
          rw [hdd] at this
          exact this
      | some d =>
        have hval : ∀ V, Kept F W V → ∀ v, wpQuiet P ops (fun w' => Kept Nil V w') (fun a' => a' = b) l (a.put o.dst v) → v = b.tmps.getD d undef := fun V _ v h => (slot d hdd V v h).symm
        refine ⟨b.tmps.getD d undef, ?_, fun _ V hV => ?_, ?_⟩
        · have := hv.1
          cases hte : tellB o.op with
          | true => exact .inl (tells_of hte a W)
          | false =>
            rw [hte, hdd] at this
            exact .inr this
        · obtain ⟨v, h1, h2⟩ := hq V hV
          exact ⟨v, h1 V (Kept.refl _ _), .inl (hval V hV v h2)⟩
        · unfold vOf
          rw [if_pos hw, ← hdd]
          refine go _ fun V hV => ?_
          obtain ⟨v, h1, h2⟩ := hq V hV
          rw [← hval V hV v h2]
          exact h2
    · simp only [hw, Bool.false_eq_true, if_false] at hq
      refine ⟨vs k, .inr rfl, fun h => absurd h hw, ?_⟩
      unfold vOf
      rw [if_neg hw]
      exact go _ hq
theorem tLex_quiets (m : Nat) {L : Mad} {s : List Value} {l : List Oper} {k : Nat} {a : Act} (hm : (l.take m).length = m) (hp : chunkB acts a.tmps.size k (l.take m) = true)
    (h : ∃ b, (∀ V, Kept F W V → wpQuiet P ops (fun w' => ∃ p : Regrown, w' = grow (redrawn V p.d) p.os) (fun a' => a' = b) (l.take m) a) ∧ VsOk b vs k (l.take m) ∧ tLex P ops F W acts Z vs I Pv T (l.drop m) (k + m) b L s) : tLex P ops F W acts Z vs I Pv T l k a L s := by
  obtain ⟨b, h1, h2, h3⟩ := h
  have := tLex_chunk (P := P) (ops := ops) (F := F) (W := W) (Z := Z) (I := I) (T := T) a.tmps.size (l.drop m) L s (l.take m) k a rfl hp h2 h1 (by rw [hm]; exact h3)
  rwa [List.take_append_drop] at this
theorem tLex_make {o : Oper} {rest : List Oper} {k : Nat} {a : Act} {L : Mad} {s : List Value} (x : Array Value × TypeId) (hm : isMk o.op = true) (hg : Region.wanted o (yielded ops a.tmps) = true) (hk : acts.contains k = false) (hx : Z k (opVals o a) = x) (hM : MAs P o a x)
    (h : ∀ g, W.heap.size ≤ g → L g = none → tLex P ops F W acts Z vs I Pv T rest (k + 1) (a.put o.dst (mkVal o.op g)) (mput L g x) s) : tLex P ops F W acts Z vs I Pv T (o :: rest) k a L s := by
  have hkd : kdOf ops acts k o a = .make := by
    unfold kdOf
    rw [if_pos hg, if_neg (by rw [hk]; simp), if_pos hm]
  show tO P ops F W acts Z vs I Pv k o _ a L s
  unfold tO
  simp only [hkd, hx]
  exact ⟨hM, h⟩
theorem tLex_act {o : Oper} {rest : List Oper} {k : Nat} {a : Act} {L : Mad} {s : List Value} (f : FuncId) (avs : Array Value) (he : ∀ u, (execOp a.eval o).run P u = .ok (.enter f avs) u) (hg : Region.wanted o (yielded ops a.tmps) = true) (hk : acts.contains k = true) (v0 : Value) (hv : Pv k v0)
    (hc : ∀ D u, Kept F W u → I D s u → (∀ g x, Dep (opVals o a) g → L g = some x → D g ∧ Blo u g x.2 x.1) → Calls P f avs u fun e w' => ∃ v, e = .returned v ∧ Pv k v ∧ Kept F W w' ∧ I D (s ++ [v]) w' ∧ u.heap.size ≤ w'.heap.size ∧ ∀ k, D k → k < u.heap.size → w'.heap[k]? = u.heap[k]?)
    (h : ∀ v, Pv k v → tLex P ops F W acts Z vs I Pv T rest (k + 1) (a.put o.dst v) L (s ++ [v])) : tLex P ops F W acts Z vs I Pv T (o :: rest) k a L s := by
  have hkd : kdOf ops acts k o a = .act := by
    unfold kdOf
    rw [if_pos hg, if_pos hk]
  show tO P ops F W acts Z vs I Pv k o _ a L s
  unfold tO
  simp only [hkd]
  refine ⟨fun D u hu hI hd => ?_, ⟨v0, hv⟩, h⟩
  rw [he]
  exact hc D u hu hI hd
end
end Go.Proofs.YtiehmpiaddjhiaaDoor
/- Appends of bytes that came from anywhere (nil, empty or not) onto a row of the call's own. Nothing of the program is named here. -/
namespace Go.Proofs.YtiehmpiaddjhiaaDoor
open Go.RowKit
set_option linter.unusedVariables false

theorem run_app {P : Program} {w : World} {B t ty e : Nat} {i : TypeInfo} {z : Value} (ht : P.underlying t = some (.slice e)) (hi : P.info? e = some i) (hz : i.zero = some z) (hsize : i.size = 1) (hby : i.bytes = 1) (hzs : z.cells.size = 1)
    {v : Value} {n : Nat} {xs : List Value} (hown : w.ownsRow B e 1 v n xs) {A : Option Addr} {m c : Nat} {l : List UInt8} (h : Byt w A m c l) (hb : n + m ≤ 140737488355328) (hB : B ≤ w.heap.size) :
    ∃ v' w', (Builtin.append_ #[t, t] ty #[v, .slice A m c]).run P w = .ok v' w' ∧ w'.ownsRow B e 1 v' (n + m) (xs ++ bys l) ∧ w.grownBy w' v.ownBlock ∧ (v'.ownBlock = v.ownBlock ∨ v'.ownBlock = some w.heap.size) := by
  cases A with
  | some ad =>
    obtain ⟨v', w', h1, h2, h3, _, h5⟩ := run_append_own_at (P := P) w B t ty e i z 1 1 ht hi hz hsize hby hzs (by omega) v n xs hown ad m c (bys l) (by rw [bys_len, h.1, Nat.mul_one]) h.news (bys_one l) (by unfold maxLen; omega) (by omega) hB
    exact ⟨v', w', h1, h2, h3, h5⟩
  | none =>
    have hm : m = 0 := by
      rcases Nat.eq_zero_or_pos m with h0 | h0
      · exact h0
      · obtain ⟨b, o, e, _⟩ := h.2.2.2 h0; cases e
    subst hm
    have hl : l = [] := List.eq_nil_of_length_eq_zero h.1
    subst hl
    refine ⟨v, w, ?_, by simpa [bys] using hown, ⟨rfl, rfl, rfl, Nat.le_refl _, fun _ _ _ => rfl⟩, .inl rfl⟩
    rcases hown.2 with ⟨rfl, rfl⟩ | ⟨g, cap, cur, rfl, _, _, hnc, _⟩
    · simp [Builtin.append_, run_underlying ht, sizeOf, typeInfo, hi, Builtin.lenOf, Builtin.firstCells]
    · simp [Builtin.append_, run_underlying ht, sizeOf, typeInfo, hi, Builtin.lenOf, Builtin.firstCells, hnc, storeCells]

theorem step_any {P : Program} {ops : Array Oper} {o : Oper} {a : Act} {w : World} {K : Act → World → Prop} {Q : Exit → Act → World → Prop} {E : Prop} (hgd : o.guard = none) (s x : Operand) (t : TypeId)
    (ho : o.op = .call { callee := .builtin .append, args := #[s, x], argTypes := #[t, t] }) (B e : Nat) (i : TypeInfo) (z : Value) (ht : P.underlying t = some (.slice e)) (hi : P.info? e = some i) (hz : i.zero = some z) (hsize : i.size = 1) (hby : i.bytes = 1) (hzs : z.cells.size = 1)
    (v : Value) (n : Nat) (xs : List Value) (hs : a.eval s = v) (hown : w.ownsRow B e 1 v n xs) (A : Option Addr) (m c : Nat) (l : List UInt8) (hx : a.eval x = .slice A m c) (hl : Byt w A m c l) (hb : n + m ≤ 140737488355328) (hB : B ≤ w.heap.size)
    (h : ∀ v' w', w'.ownsRow B e 1 v' (n + m) (xs ++ bys l) → w.grownBy w' v.ownBlock → (v'.ownBlock = v.ownBlock ∨ v'.ownBlock = some w.heap.size) → K (a.put o.dst v') w') :
    if Region.wanted o (yielded ops a.tmps) = true then Oper.wp P o a w K Q else E := by
  have hw : Region.wanted o (yielded ops a.tmps) = true := by simp [Region.wanted, hgd]
  rw [if_pos hw]
  obtain ⟨v', w', hr, h2, h3, h5⟩ := run_app (P := P) (ty := o.type) ht hi hz hsize hby hzs hown hl hb hB
  unfold Oper.wp execOp
  simp only [ho, resolve, invoke, builtin, Sem.run_bind, Sem.run_pure, Result.andThen_ok, List.map_toArray, List.map_cons, List.map_nil, hs, hx, hr]
  exact h v' w' h2 h3 h5

theorem wpList_any {P : Program} {w : World} {ops : Array Oper} {rest : List Oper} {o : Oper} {a : Act} {Q : Exit → Act → World → Prop} (hgd : o.guard = none) (s x : Operand) (t : TypeId)
    (ho : o.op = .call { callee := .builtin .append, args := #[s, x], argTypes := #[t, t] }) (B e : Nat) (i : TypeInfo) (z : Value) (ht : P.underlying t = some (.slice e)) (hi : P.info? e = some i) (hz : i.zero = some z) (hsize : i.size = 1) (hby : i.bytes = 1) (hzs : z.cells.size = 1)
    (v : Value) (n : Nat) (xs : List Value) (hs : a.eval s = v) (hown : w.ownsRow B e 1 v n xs) (A : Option Addr) (m c : Nat) (l : List UInt8) (hx : a.eval x = .slice A m c) (hl : Byt w A m c l) (hb : n + m ≤ 140737488355328) (hB : B ≤ w.heap.size)
    (h : ∀ v' w', w'.ownsRow B e 1 v' (n + m) (xs ++ bys l) → w.grownBy w' v.ownBlock → (v'.ownBlock = v.ownBlock ∨ v'.ownBlock = some w.heap.size) → wpList P ops Q rest (a.put o.dst v') w') : wpList P ops Q (o :: rest) a w := by
  refine wpList_plain hgd fun K hK => ?_
  obtain ⟨v', w', hr, h2, h3, h5⟩ := run_app (P := P) (ty := o.type) ht hi hz hsize hby hzs hown hl hb hB
  unfold Oper.wp execOp
  simp only [ho, resolve, invoke, builtin, Sem.run_bind, Sem.run_pure, Result.andThen_ok, List.map_toArray, List.map_cons, List.map_nil, hs, hx, hr]
  exact hK _ _ (h v' w' h2 h3 h5)
end Go.Proofs.YtiehmpiaddjhiaaDoor
