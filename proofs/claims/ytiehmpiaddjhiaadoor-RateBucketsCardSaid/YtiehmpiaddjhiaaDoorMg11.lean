/- Texts that belong together, one behind the other: RegV, Posts. Conditions: those of each. -/
import Derived.Test.YtiehmpiaddjhiaaDoorMg6
import Derived.Test.YtiehmpiaddjhiaaDoorMg7
/- Regions that draw their order, by what each operation leaves behind: whatever order is drawn, what an operation waits for has left its word. Nothing of the program is named here. -/
namespace Go.Proofs.YtiehmpiaddjhiaaDoor
open Go.RowKit Go.Sort
set_option linter.unusedVariables false

def dstV (a : Act) (o : Oper) : Value := match o.dst with | some d => a.tmps.getD d undef | none => undef
/-- Each operation waits for earlier ones alone, writes a slot of its own, and is not guarded. -/
def postB (N : Nat) (ops : Array Oper) : Bool := (List.range ops.size).all fun i => match ops[i]? with
  | none => true
  | some o => (o.after.all fun e => !Region.binds .any e || decide (e.on < i)) && o.guard.isNone && (match o.dst with
    | some d => decide (d < N) && (List.range ops.size).all fun j => j == i || match ops[j]? with | some oj => oj.dst != some d | none => true
    | none => true)
section
variable {P : Program} {ops : Array Oper} {Q : Exit → Act → World → Prop}
theorem least_ready {N : Nat} (hB : postB N ops = true) {listed : Array Bool} (hsz : listed.size = ops.size) : ∀ k, k < ops.size → listed.getD k false = false → Region.ready .any ops listed ≠ [] := by
  intro k
  induction k using Nat.strongRecOn with
  | ind k ih =>
    intro hk hl hnil
    have hon : ∃ o, ops[k]? = some o := ⟨ops[k], Array.getElem?_eq_getElem hk⟩
    obtain ⟨o, ho⟩ := hon
    have hb := hB
    unfold postB at hb
    rw [List.all_eq_true] at hb
    have hbk := hb k (List.mem_range.2 hk)
    simp only [ho, Bool.and_eq_true] at hbk
    have hall : o.after.all (fun e => !Region.binds .any e || listed.getD e.on false) = true := by
      have h1 := hbk.1.1
      rw [Array.all_eq_true'] at h1 ⊢
      intro e he
      have := h1 e he
      cases hbb : Region.binds .any e with
      | false => simp
      | true =>
        simp only [hbb, Bool.not_true, Bool.false_or, decide_eq_true_eq] at this
        simp only [Bool.not_true, Bool.false_or]
        cases hle : listed.getD e.on false with
        | true => rfl
        | false => exact absurd hnil (ih e.on this (by omega) hle)
    have : k ∈ Region.ready .any ops listed := by
      unfold Region.ready
      rw [List.mem_filter]
      refine ⟨List.mem_range.2 hk, ?_⟩
      have hl' : listed.getD k true = false := by
        rw [Array.getD_eq_getD_getElem?] at hl ⊢
        rw [Array.getElem?_eq_getElem (by omega)] at hl ⊢
        exact hl
      show (!listed.getD k true && ((ops[k]?).map _).getD false) = true
      rw [ho, hl']
      exact hall
    rw [hnil] at this
    cases this
def leftN (ops : Array Oper) (listed : Array Bool) : Nat := (List.range ops.size).countP fun i => !listed.getD i false
theorem left_set {listed : Array Bool} {i : Nat} (hsz : listed.size = ops.size) (hi : i < ops.size) (hl : listed.getD i false = false) : leftN ops (listed.setIfInBounds i true) + 1 = leftN ops listed := by
  unfold leftN
  have key : ∀ m, (List.range m).countP (fun j => !(listed.setIfInBounds i true).getD j false) + (if i < m then 1 else 0) = (List.range m).countP (fun j => !listed.getD j false) := by
    intro m
    induction m with
    | zero => simp
    | succ m ih =>
      rw [List.range_succ, List.countP_append, List.countP_append, ← ih]
      simp only [List.countP_singleton]
      by_cases h : i = m
      · subst h
        have e : (listed.setIfInBounds i true).getD i false = true := by
          rw [Array.getD_eq_getD_getElem?, Array.getElem?_setIfInBounds_self]
          simp [show i < listed.size by omega]
        simp [e, hl]
      · have e : (listed.setIfInBounds i true).getD m false = listed.getD m false := by
          rw [Array.getD_eq_getD_getElem?, Array.getD_eq_getD_getElem?, Array.getElem?_setIfInBounds_ne h]
        rw [e]
        by_cases h2 : i < m
        · simp [h2, show i < m + 1 by omega]; omega
        · simp [h2, show ¬ i < m + 1 by omega]
  have := key ops.size
  rw [if_pos hi] at this
  exact this
theorem left_zero {listed : Array Bool} (h : leftN ops listed = 0) : ∀ i, i < ops.size → listed.getD i false = true := by
  intro i hi
  unfold leftN at h
  rw [List.countP_eq_zero] at h
  have := h i (List.mem_range.2 hi)
  simpa using this
/-- What has been done has left its word. -/
def Left (ops : Array Oper) (R : Nat → Value → World → Prop) (listed : Array Bool) (a : Act) (w : World) : Prop := ∀ i (o : Oper), ops[i]? = some o → listed.getD i false = true → R i (dstV a o) w
/-- What has not been done has not turned what its forerunners read. -/
def Yet (ops : Array Oper) (U : Nat → World → Prop) (i : Nat) (w : World) : Prop := U i w ∧ ∀ j (o : Oper), ops[j]? = some o → (∃ e ∈ o.after, Region.binds .any e = true ∧ e.on = i) → U j w
def Clsd (ops : Array Oper) (listed : Array Bool) : Prop := ∀ j (o : Oper), ops[j]? = some o → listed.getD j false = true → ∀ e ∈ o.after, Region.binds .any e = true → listed.getD e.on false = true
def Undone (ops : Array Oper) (U : Nat → World → Prop) (listed : Array Bool) (w : World) : Prop := ∀ j (o : Oper), ops[j]? = some o → listed.getD j false = false → U j w
theorem posts_any {N : Nat} (hB : postB N ops = true) (I : Act → World → Prop) (R : Nat → Value → World → Prop) (U : Nat → World → Prop) (hN : ∀ a w, I a w → a.tmps.size = N)
    (hstep : ∀ i (o : Oper), ops[i]? = some o → ∀ a w, I a w → (∀ e ∈ o.after, Region.binds .any e = true → ∀ oe, ops[e.on]? = some oe → R e.on (dstV a oe) w) → Yet ops U i w →
      o.wp P a w (fun a' w' => ∃ v, a' = a.put o.dst v ∧ I a' w' ∧ (R i (if o.dst.isSome then v else undef) w') ∧ (∀ j x, j ≠ i → R j x w → R j x w') ∧ ∀ j, j ≠ i → U j w → U j w') Q)
    (hend : ∀ a w, I a w → (∀ i (o : Oper), ops[i]? = some o → R i (dstV a o) w) → Q .normal a w) :
    ∀ (fuel : Nat) (listed : Array Bool) (a : Act) (w : World), listed.size = ops.size → leftN ops listed = fuel → I a w → Left ops R listed a w → Clsd ops listed → Undone ops U listed w → wpAny P .any ops Q fuel listed a w := by
  intro fuel
  induction fuel with
  | zero =>
    intro listed a w hsz hl hI hL hC hUn
    have hz := left_zero hl
    refine ⟨?_, hend a w hI fun i o ho => hL i o ho (hz i ?_)⟩
    · unfold Region.ready
      rw [List.filter_eq_nil_iff]
      intro i hi
      have hi' := List.mem_range.1 hi
      have := hz i hi'
      have e : listed.getD i true = true := by
        rw [Array.getD_eq_getD_getElem?] at this ⊢
        rw [Array.getElem?_eq_getElem (by omega)] at this ⊢
        exact this
      simp [e]
    · exact (Array.getElem?_eq_some_iff.1 ho).1
  | succ fuel ih =>
    intro listed a w hsz hl hI hL hC hUn
    refine ⟨fun hnil => ?_, fun i hi => ?_⟩
    · refine hend a w hI fun i o ho => hL i o ho ?_
      cases hle : listed.getD i false with
      | true => rfl
      | false => exact absurd hnil (least_ready hB hsz i (Array.getElem?_eq_some_iff.1 ho).1 hle)
    · unfold Region.ready at hi
      rw [List.mem_filter] at hi
      obtain ⟨hi1, hi2⟩ := hi
      have hi' := List.mem_range.1 hi1
      obtain ⟨o, ho⟩ : ∃ o, ops[i]? = some o := ⟨ops[i], Array.getElem?_eq_getElem hi'⟩
      simp only [ho, Bool.and_eq_true, Bool.not_eq_true', Option.map_some, Option.getD_some] at hi2
      obtain ⟨hun, haf⟩ := hi2
      have hun' : listed.getD i false = false := by
        rw [Array.getD_eq_getD_getElem?] at hun ⊢
        rw [Array.getElem?_eq_getElem (by omega)] at hun ⊢
        exact hun
      have hb := hB
      unfold postB at hb
      rw [List.all_eq_true] at hb
      have hbk := hb i hi1
      simp only [ho, Bool.and_eq_true] at hbk
      have hgd : Region.wanted o (yielded ops a.tmps) = true := by
        have := hbk.1.2
        unfold Region.wanted
        cases hg : o.guard with
        | none => rfl
        | some g => rw [hg] at this; cases this
      unfold wpOp
      simp only [ho, hgd, if_true]
      refine .inl ?_
      have hpre : ∀ e ∈ o.after, Region.binds .any e = true → ∀ oe, ops[e.on]? = some oe → R e.on (dstV a oe) w := by
        intro e he hbd oe hoe
        rw [Array.all_eq_true'] at haf
        have := haf e he
        simp only [hbd, Bool.not_true, Bool.false_or] at this
        exact hL _ _ hoe this
      refine Oper.wp_mono (fun a' w' h => ?_) (hstep i o ho a w hI hpre ⟨hUn i o ho hun', fun j oj hj ⟨e, he, hbe, hei⟩ => hUn j oj hj (by
        cases hlj : listed.getD j false with
        | false => rfl
        | true =>
          have := hC j oj hj hlj e he hbe
          rw [hei, hun'] at this
          cases this)⟩)
      obtain ⟨v, rfl, h1, h2, h3, h4⟩ := h
      refine ih _ _ _ (by simpa using hsz) (by have := left_set hsz hi' hun'; omega) h1 (fun j oj hj hlj => ?_) (fun j oj hj hlj e he hbe => ?_) (fun j oj hj hlj => ?_)
      by_cases hji : j = i
      · subst hji
        rw [ho] at hj
        cases hj
        have e : dstV (a.put o.dst v) o = if o.dst.isSome then v else undef := by
          unfold dstV
          cases hd : o.dst with
          | none => simp
          | some d =>
            have := hbk.2
            rw [hd] at this
            simp only [Bool.and_eq_true, decide_eq_true_eq] at this
            simp only [Act.put, Array.getD_eq_getD_getElem?, Array.getElem?_setIfInBounds_self, Option.isSome_some, if_true]
            rw [if_pos (by rw [hN a w hI]; exact this.1)]
            rfl
        rw [e]
        exact h2
      · have e : dstV (a.put o.dst v) oj = dstV a oj := by
          unfold dstV
          cases hdj : oj.dst with
          | none => rfl
          | some dj =>
            simp only
            cases hd : o.dst with
            | none => rfl
            | some d =>
              have := hbk.2
              rw [hd] at this
              simp only [Bool.and_eq_true, List.all_eq_true] at this
              have hx := this.2 j (List.mem_range.2 (Array.getElem?_eq_some_iff.1 hj).1)
              simp only [hj, Bool.or_eq_true, beq_iff_eq, hji, false_or, bne_iff_ne, hdj] at hx
              simp only [Act.put, Array.getD_eq_getD_getElem?]
              rw [Array.getElem?_setIfInBounds_ne (fun h => hx (by rw [h]))]
        rw [e]
        refine h3 _ _ hji (hL j oj hj ?_)
        rwa [Array.getD_eq_getD_getElem?, Array.getElem?_setIfInBounds_ne (Ne.symm hji), ← Array.getD_eq_getD_getElem?] at hlj
      · have hset : ∀ m, (listed.setIfInBounds i true).getD m false = true ↔ m = i ∨ listed.getD m false = true := by
          intro m
          by_cases hmi : m = i
          · subst hmi
            rw [Array.getD_eq_getD_getElem?, Array.getElem?_setIfInBounds_self]
            simp [show m < listed.size by omega]
          · rw [Array.getD_eq_getD_getElem?, Array.getElem?_setIfInBounds_ne (Ne.symm hmi), ← Array.getD_eq_getD_getElem?]
            simp [hmi]
        rw [hset]
        rcases (hset j).1 hlj with rfl | hlj
        · rw [ho] at hj
          cases hj
          rw [Array.all_eq_true'] at haf
          have := haf e he
          simp only [hbe, Bool.not_true, Bool.false_or] at this
          exact .inr this
        · exact .inr (hC j oj hj hlj e he hbe)
      · by_cases hmi : j = i
        · subst hmi
          rw [Array.getD_eq_getD_getElem?, Array.getElem?_setIfInBounds_self] at hlj
          simp [show j < listed.size by omega] at hlj
        · rw [Array.getD_eq_getD_getElem?, Array.getElem?_setIfInBounds_ne (Ne.symm hmi), ← Array.getD_eq_getD_getElem?] at hlj
          exact h4 j hmi (hUn j oj hj hlj)
/-- The steps, one an operation. -/
def stepsT (P : Program) (ops : Array Oper) (Q : Exit → Act → World → Prop) (I : Act → World → Prop) (R : Nat → Value → World → Prop) (U : Nat → World → Prop) : Nat → List Oper → Prop
  | _, [] => True
  | i, o :: l => (∀ a w, I a w → (∀ e ∈ o.after, Region.binds .any e = true → ∀ oe, ops[e.on]? = some oe → R e.on (dstV a oe) w) → Yet ops U i w →
      o.wp P a w (fun a' w' => ∃ v, a' = a.put o.dst v ∧ I a' w' ∧ (R i (if o.dst.isSome then v else undef) w') ∧ (∀ j x, j ≠ i → R j x w → R j x w') ∧ ∀ j, j ≠ i → U j w → U j w') Q) ∧ stepsT P ops Q I R U (i + 1) l
theorem steps_at (I : Act → World → Prop) (R : Nat → Value → World → Prop) (U : Nat → World → Prop) : ∀ (l : List Oper) (k : Nat), stepsT P ops Q I R U k l → ∀ j (o : Oper), l[j]? = some o → ∀ a w, I a w → (∀ e ∈ o.after, Region.binds .any e = true → ∀ oe, ops[e.on]? = some oe → R e.on (dstV a oe) w) → Yet ops U (k + j) w →
      o.wp P a w (fun a' w' => ∃ v, a' = a.put o.dst v ∧ I a' w' ∧ (R (k + j) (if o.dst.isSome then v else undef) w') ∧ (∀ j' x, j' ≠ k + j → R j' x w → R j' x w') ∧ ∀ j', j' ≠ k + j → U j' w → U j' w') Q := by
  intro l
  induction l with
  | nil => intro k _ j o h; simp at h
  | cons x l ih =>
    intro k h j o hj
    cases j with
    | zero =>
      simp only [List.getElem?_cons_zero, Option.some.injEq] at hj
      subst hj
      exact h.1
    | succ j =>
      simp only [List.getElem?_cons_succ] at hj
      have := ih (k + 1) h.2 j o hj
      rwa [show k + 1 + j = k + (j + 1) by omega] at this
end
/-- **The region.** -/
theorem wp_region_posts {P : Program} {id : Nat} {Q : Exit → Act → World → Prop} {a : Act} {w : World} {l : List Oper} (N : Nat) (I : Act → World → Prop) (R : Nat → Value → World → Prop) (U : Nat → World → Prop)
    (hm : P.follows .mixedOrders = true) (hB : postB N l.toArray = true) (hN : ∀ a w, I a w → a.tmps.size = N) (h0 : ∀ u, Kept Nil w u → I a u ∧ ∀ j, U j u) (hs : stepsT P l.toArray Q I R U 0 l)
    (hend : ∀ a w, I a w → (∀ i (o : Oper), l[i]? = some o → R i (dstV a o) w) → wpList P l.toArray Q [] a w) : (Code.region id l.toArray true).wp P Q a w := by
  refine wp_region_any hm ?_
  refine posts_any hB I R U hN (fun i o ho => ?_) (fun a w h1 h2 => hend a w h1 fun i o hi => h2 i o (by simpa using hi)) _ _ _ _ (by simp) ?_ (h0 _ (Kept.refl Nil w).drew).1 (fun i o ho hl => ?_) (fun i o ho hl => ?_) (fun j _ _ _ => (h0 _ (Kept.refl Nil w).drew).2 j)
  · have := steps_at I R U l 0 hs i o (by simpa using ho)
    simpa only [Nat.zero_add] using this
  · unfold leftN
    rw [List.countP_eq_length.2]
    · simp
    · intro i hi
      rw [getD_replicate_false]
      rfl
  · rw [getD_replicate_false] at hl
    cases hl
  · rw [getD_replicate_false] at hl
    cases hl
/-- What an operation that is waited for has left, by its slot. -/
theorem got {ops : Array Oper} {R : Nat → Value → World → Prop} {a : Act} {u : World} {af : Array Edge} (hp : ∀ e ∈ af, Region.binds .any e = true → ∀ oe, ops[e.on]? = some oe → R e.on (dstV a oe) u) (e : Edge) (he : e ∈ af) (hb : Region.binds .any e = true) (d : Nat) (hd : (ops[e.on]?).map (·.dst) = some (some d)) : R e.on (a.eval (.tmp d)) u := by
  cases ho : ops[e.on]? with
  | none => rw [ho] at hd; cases hd
  | some oe =>
    rw [ho] at hd
    have := hp e he hb oe ho
    unfold dstV at this
    simp only [Option.map_some, Option.some.injEq] at hd
    rw [hd] at this
    exact this
end Go.Proofs.YtiehmpiaddjhiaaDoor
/- Steps of a region in free order, one an operation. -/
namespace Go.Proofs.YtiehmpiaddjhiaaDoor
open Go.RowKit Go.Sort
set_option linter.unusedVariables false

section exec
variable {P : Program} {o : Oper} {a : Act} {u : World}
theorem exec_fa (s : TypeId) (p : Operand) (i : Nat) (ho : o.op = .fieldAddr s p i) {v r : Value} (hp : a.eval p = v) (h : (Instr.fieldAt s v i).run P u = .ok r u) : (execOp a.eval o).run P u = .ok (.value r) u := by
  unfold execOp
  simp only [ho, hp, Sem.run_bind, h, Result.andThen_ok, Sem.run_pure]
theorem exec_len (x : Operand) (t : TypeId) (ho : o.op = .call { callee := .builtin .len, args := #[x], argTypes := #[t] }) {A : Option Addr} {n c : Nat} (hx : a.eval x = .slice A n c) (hr : (Builtin.len_ #[t] o.type #[.slice A n c]).run P u = .ok (.int .i64 (n : Int)) u) : (execOp a.eval o).run P u = .ok (.value (.int .i64 (n : Int))) u := by
  unfold execOp
  simp only [ho, resolve, invoke, builtin, Sem.run_bind, Sem.run_pure, Result.andThen_ok, List.map_toArray, List.map_cons, List.map_nil, hx, hr]
theorem exec_min (x y : Operand) (t t' : TypeId) (ho : o.op = .call { callee := .builtin .min, args := #[x, y], argTypes := #[t, t'] }) {v v' r : Value} (hx : a.eval x = v) (hy : a.eval y = v') (hr : (Builtin.min_ #[t, t'] o.type #[v, v']).run P u = .ok r u) : (execOp a.eval o).run P u = .ok (.value r) u := by
  unfold execOp
  simp only [ho, resolve, invoke, builtin, Sem.run_bind, Sem.run_pure, Result.andThen_ok, List.map_toArray, List.map_cons, List.map_nil, hx, hy, hr]
theorem exec_cut (t : TypeId) (x h : Operand) (ho : o.op = .slice t x none (some h) none) {A : Option Addr} {n c m : Nat} {e : TypeId} (ht : P.underlying t = some (.slice e)) (hx : a.eval x = .slice A n c) (hh : a.eval h = .int .i64 (m : Int)) (hr : (Instr.slice t (.slice A n c) none (some (.int .i64 (m : Int))) none).run P u = .ok (.slice A m c) u) : (execOp a.eval o).run P u = .ok (.value (.slice A m c)) u := by
  unfold execOp
  simp only [ho, hx, hh, Option.map_none, Option.map_some, Instr.sliceAt, Sem.run_bind, run_underlying ht, Result.andThen_ok, hr, Sem.run_pure]
end exec
def pAt (g f : Nat) : Value := .pointer (some ⟨g, f, none⟩)
section
variable {u u' : World}
theorem cell_kept {F : Nat → Prop} (k : Kept F u u') {h o : Nat} (hg : ¬ F h) (hl : h < u.heap.size) : u'.cell? ⟨h, o, none⟩ = u.cell? ⟨h, o, none⟩ := by
  have := k.block h hl hg
  unfold World.cell?
  simp only [this]
end
theorem eval_put (a : Act) (d : Nat) (v : Value) (k : Nat) (h : d ≠ k) : (a.put (some d) v).eval (.tmp k) = a.eval (.tmp k) := by
  simp only [Act.put, Act.eval, Array.getD_eq_getD_getElem?]
  rw [Array.getElem?_setIfInBounds_ne h]
/-- A step that leaves the world as it is. -/
theorem step_pure {P : Program} {o : Oper} {a : Act} {u : World} {I : Act → World → Prop} {R : Nat → Value → World → Prop} {U : Nat → World → Prop} {Q : Exit → Act → World → Prop} {i : Nat} (v : Value) (h : (execOp a.eval o).run P u = .ok (.value v) u) (hd : o.dst.isSome = true) (hI : I (a.put o.dst v) u) (hR : R i v u) :
    o.wp P a u (fun a' w' => ∃ v, a' = a.put o.dst v ∧ I a' w' ∧ (R i (if o.dst.isSome then v else undef) w') ∧ (∀ j x, j ≠ i → R j x u → R j x w') ∧ ∀ j, j ≠ i → U j u → U j w') Q := by
  unfold Oper.wp
  rw [h]
  exact ⟨v, rfl, hI, by rw [hd]; exact hR, fun _ _ _ h => h, fun _ _ h => h⟩
/-- A step that stores. -/
theorem step_st {P : Program} {o : Oper} {a : Act} {u : World} {I : Act → World → Prop} {R : Nat → Value → World → Prop} {U : Nat → World → Prop} {Q : Exit → Act → World → Prop} {i : Nat} (ty : TypeId) (p x : Operand) (ho : o.op = .store ty p x) (hd : o.dst = none) {g f : Nat} (hp : a.eval p = .pointer (some ⟨g, f, none⟩)) (l : List Value) {v : Value} (hx : a.eval x = v) (hvc : v.cells = l.toArray) (hi : (P.info? ty).map (·.size) = some l.length) {T : TypeId} {cs : List Value} (hb : Blo u g T cs.toArray) (hf : f + l.length ≤ cs.length) (h1 : ∀ u ∈ l, u.oneCell' = true)
    (h : ∀ u', Blo u' g T (cs.take f ++ l ++ cs.drop (f + l.length)).toArray → Kept (One g) u u' → u'.heap.size = u.heap.size → I a u' ∧ R i undef u' ∧ (∀ j x, j ≠ i → R j x u → R j x u') ∧ ∀ j, j ≠ i → U j u → U j u') :
    o.wp P a u (fun a' w' => ∃ v, a' = a.put o.dst v ∧ I a' w' ∧ (R i (if o.dst.isSome then v else undef) w') ∧ (∀ j x, j ≠ i → R j x u → R j x w') ∧ ∀ j, j ≠ i → U j u → U j w') Q := by
  obtain ⟨u', hr, hbl, hk, hz⟩ := exec_st (P := P) ty p x ho hp l hx hvc hi hb hf h1
  obtain ⟨h1, h2, h3, h4⟩ := h u' hbl hk hz
  unfold Oper.wp
  rw [hr]
  exact ⟨undef, rfl, by rw [hd]; exact h1, by rw [hd]; exact h2, h3, h4⟩
end Go.Proofs.YtiehmpiaddjhiaaDoor
