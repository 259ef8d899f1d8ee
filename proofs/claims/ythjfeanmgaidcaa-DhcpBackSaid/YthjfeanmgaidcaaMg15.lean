/- Texts that belong together, one behind the other: Posts, RegW. Conditions: those of each. -/
import Derived.Test.YthjfeanmgaidcaaMg13
import Derived.Test.YthjfeanmgaidcaaMg14
/- Steps of a region in free order, one an operation. -/
namespace Go.Proofs.Ythjfeanmgaidcaa
open Go.RowKit Go.Sort
set_option linter.unusedVariables false

section exec
variable {P : Program} {o : Oper} {a : Act} {u : World}
theorem exec_fa (s : TypeId) (p : Operand) (i : Nat) (ho : o.op = .fieldAddr s p i) {v r : Value} (hp : a.eval p = v) (h : (Instr.fieldAt s v i).run P u = .ok r u) : (execOp a.eval o).run P u = .ok (.value r) u := by
  unfold execOp
  simp only [ho, hp, Sem.run_bind, h, Result.andThen_ok, Sem.run_pure]
theorem exec_len (x : Operand) (t : TypeId) (ho : o.op = .call { callee := .builtin .len, args := #[x], argTypes := #[t] }) {A : Option Addr} {n c : Nat} (hx : a.eval x = .slice A n c) (hr : (Builtin.len_ #[t] o.type #[.slice A n c]).run P u = .ok (.int .i64 (n : Int)) u) : (execOp a.eval o).run P u = .ok (.value (.int .i64 (n : Int))) u := by
  unfold execOp
  simp only [ho, resolve, invoke, builtin, Sem.run_bind, Sem.run_pure, Result.andThen_ok, List.map_toArray, List.map_cons, List.map_nil, hx, hr]
theorem exec_min (x y : Operand) (t t' : TypeId) (ho : o.op = .call { callee := .builtin .min, args := #[x, y], argTypes := #[t, t'] }) {v v' r : Value} (hx : a.eval x = v) (hy : a.eval y = v') (hr : (Builtin.min_ #[t, t'] o.type #[v, v']).run P u = .ok r u) : (execOp a.eval o).run P u = .ok (.value r) u := by
  unfold execOp
  simp only [ho, resolve, invoke, builtin, Sem.run_bind, Sem.run_pure, Result.andThen_ok, List.map_toArray, List.map_cons, List.map_nil, hx, hy, hr]
theorem exec_cut (t : TypeId) (x h : Operand) (ho : o.op = .slice t x none (some h) none) {A : Option Addr} {n c m : Nat} {e : TypeId} (ht : P.underlying t = some (.slice e)) (hx : a.eval x = .slice A n c) (hh : a.eval h = .int .i64 (m : Int)) (hr : (Instr.slice t (.slice A n c) none (some (.int .i64 (m : Int))) none).run P u = .ok (.slice A m c) u) : (execOp a.eval o).run P u = .ok (.value (.slice A m c)) u := by
  unfold execOp
  simp only [ho, hx, hh, Option.map_none, Option.map_some, Instr.sliceAt, Sem.run_bind, run_underlying ht, Result.andThen_ok, hr, Sem.run_pure]
end exec
def pAt (g f : Nat) : Value := .pointer (some ⟨g, f, none⟩)
section
variable {u u' : World}
theorem cell_kept {F : Nat → Prop} (k : Kept F u u') {h o : Nat} (hg : ¬ F h) (hl : h < u.heap.size) : u'.cell? ⟨h, o, none⟩ = u.cell? ⟨h, o, none⟩ := by
  have := k.block h hl hg
  unfold World.cell?
  simp only [this]
end
theorem eval_put (a : Act) (d : Nat) (v : Value) (k : Nat) (h : d ≠ k) : (a.put (some d) v).eval (.tmp k) = a.eval (.tmp k) := by
  simp only [Act.put, Act.eval, Array.getD_eq_getD_getElem?]
  rw [Array.getElem?_setIfInBounds_ne h]
/-- A step that leaves the world as it is. -/
theorem step_pure {P : Program} {o : Oper} {a : Act} {u : World} {I : Act → World → Prop} {R : Nat → Value → World → Prop} {U : Nat → World → Prop} {Q : Exit → Act → World → Prop} {i : Nat} (v : Value) (h : (execOp a.eval o).run P u = .ok (.value v) u) (hd : o.dst.isSome = true) (hI : I (a.put o.dst v) u) (hR : R i v u) :
    o.wp P a u (fun a' w' => ∃ v, a' = a.put o.dst v ∧ I a' w' ∧ (R i (if o.dst.isSome then v else undef) w') ∧ (∀ j x, j ≠ i → R j x u → R j x w') ∧ ∀ j, j ≠ i → U j u → U j w') Q := by
  unfold Oper.wp
  rw [h]
  exact ⟨v, rfl, hI, by rw [hd]; exact hR, fun _ _ _ h => h, fun _ _ h => h⟩
/-- A step that stores. -/
theorem step_st {P : Program} {o : Oper} {a : Act} {u : World} {I : Act → World → Prop} {R : Nat → Value → World → Prop} {U : Nat → World → Prop} {Q : Exit → Act → World → Prop} {i : Nat} (ty : TypeId) (p x : Operand) (ho : o.op = .store ty p x) (hd : o.dst = none) {g f : Nat} (hp : a.eval p = .pointer (some ⟨g, f, none⟩)) (l : List Value) {v : Value} (hx : a.eval x = v) (hvc : v.cells = l.toArray) (hi : (P.info? ty).map (·.size) = some l.length) {T : TypeId} {cs : List Value} (hb : Blo u g T cs.toArray) (hf : f + l.length ≤ cs.length) (h1 : ∀ u ∈ l, u.oneCell' = true)
    (h : ∀ u', Blo u' g T (cs.take f ++ l ++ cs.drop (f + l.length)).toArray → Kept (One g) u u' → u'.heap.size = u.heap.size → I a u' ∧ R i undef u' ∧ (∀ j x, j ≠ i → R j x u → R j x u') ∧ ∀ j, j ≠ i → U j u → U j u') :
    o.wp P a u (fun a' w' => ∃ v, a' = a.put o.dst v ∧ I a' w' ∧ (R i (if o.dst.isSome then v else undef) w') ∧ (∀ j x, j ≠ i → R j x u → R j x w') ∧ ∀ j, j ≠ i → U j u → U j w') Q := by
  obtain ⟨u', hr, hbl, hk, hz⟩ := exec_st (P := P) ty p x ho hp l hx hvc hi hb hf h1
  obtain ⟨h1, h2, h3, h4⟩ := h u' hbl hk hz
  unfold Oper.wp
  rw [hr]
  exact ⟨undef, rfl, by rw [hd]; exact h1, by rw [hd]; exact h2, h3, h4⟩
end Go.Proofs.Ythjfeanmgaidcaa
/- Regions that draw their order, by what each operation leaves behind: a word may speak of the slots of those operations that it waits for. Nothing of the program is named here. -/
namespace Go.Proofs.Ythjfeanmgaidcaa
open Go.RowKit Go.Sort
set_option linter.unusedVariables false

/-- The slots that an operation's word may speak of. -/
def slotsOf (ops : Array Oper) (o : Oper) : List Nat := o.dst.toList ++ o.after.toList.filterMap fun e => if Region.binds .any e then (ops[e.on]?).bind (·.dst) else none
section
variable {P : Program} {ops : Array Oper} {Q : Exit → Act → World → Prop}
def LeftA (ops : Array Oper) (R : Nat → Act → World → Prop) (listed : Array Bool) (a : Act) (w : World) : Prop := ∀ i (o : Oper), ops[i]? = some o → listed.getD i false = true → R i a w
theorem postsA_any {N : Nat} (hB : postB N ops = true) (I : Act → World → Prop) (R : Nat → Act → World → Prop) (U : Nat → World → Prop) (hN : ∀ a w, I a w → a.tmps.size = N)
    (hloc : ∀ j (o : Oper), ops[j]? = some o → ∀ a a' w, (∀ d ∈ slotsOf ops o, a.tmps.getD d undef = a'.tmps.getD d undef) → R j a w → R j a' w)
    (hstep : ∀ i (o : Oper), ops[i]? = some o → ∀ a w, I a w → (∀ e ∈ o.after, Region.binds .any e = true → R e.on a w) → Yet ops U i w →
      o.wp P a w (fun a' w' => ∃ v, a' = a.put o.dst v ∧ I a' w' ∧ R i a' w' ∧ (∀ j, j ≠ i → R j a w → R j a w') ∧ ∀ j, j ≠ i → U j w → U j w') Q)
    (hend : ∀ a w, I a w → (∀ i (o : Oper), ops[i]? = some o → R i a w) → Q .normal a w) :
    ∀ (fuel : Nat) (listed : Array Bool) (a : Act) (w : World), listed.size = ops.size → leftN ops listed = fuel → I a w → LeftA ops R listed a w → Clsd ops listed → Undone ops U listed w → wpAny P .any ops Q fuel listed a w := by
  intro fuel
  induction fuel with
  | zero =>
    intro listed a w hsz hl hI hL hC hUn
    have hz := left_zero hl
    refine ⟨?_, hend a w hI fun i o ho => hL i o ho (hz i ?_)⟩
    · unfold Region.ready
      rw [List.filter_eq_nil_iff]
      intro i hi
      have hi' := List.mem_range.1 hi
      have := hz i hi'
      have e : listed.getD i true = true := by
        rw [Array.getD_eq_getD_getElem?] at this ⊢
        rw [Array.getElem?_eq_getElem (by omega)] at this ⊢
        exact this
      simp [e]
    · exact (Array.getElem?_eq_some_iff.1 ho).1
  | succ fuel ih =>
    intro listed a w hsz hl hI hL hC hUn
    refine ⟨fun hnil => ?_, fun i hi => ?_⟩
    · refine hend a w hI fun i o ho => hL i o ho ?_
      cases hle : listed.getD i false with
      | true => rfl
      | false => exact absurd hnil (least_ready hB hsz i (Array.getElem?_eq_some_iff.1 ho).1 hle)
    · unfold Region.ready at hi
      rw [List.mem_filter] at hi
      obtain ⟨hi1, hi2⟩ := hi
      have hi' := List.mem_range.1 hi1
      obtain ⟨o, ho⟩ : ∃ o, ops[i]? = some o := ⟨ops[i], Array.getElem?_eq_getElem hi'⟩
      simp only [ho, Bool.and_eq_true, Bool.not_eq_true', Option.map_some, Option.getD_some] at hi2
      obtain ⟨hun, haf⟩ := hi2
      have hun' : listed.getD i false = false := by
        rw [Array.getD_eq_getD_getElem?] at hun ⊢
        rw [Array.getElem?_eq_getElem (by omega)] at hun ⊢
        exact hun
      have hb := hB
      unfold postB at hb
      rw [List.all_eq_true] at hb
      have hbk := hb i hi1
      simp only [ho, Bool.and_eq_true] at hbk
      have hgd : Region.wanted o (yielded ops a.tmps) = true := by
        have := hbk.1.2
        unfold Region.wanted
        cases hg : o.guard with
        | none => rfl
        | some g => rw [hg] at this; cases this
      unfold wpOp
      simp only [ho, hgd, if_true]
      refine .inl ?_
      have hpre : ∀ e ∈ o.after, Region.binds .any e = true → R e.on a w := by
        intro e he hbd
        rw [Array.all_eq_true'] at haf
        have := haf e he
        simp only [hbd, Bool.not_true, Bool.false_or] at this
        have hlt : e.on < ops.size := by
          have h1 := hbk.1.1
          rw [Array.all_eq_true'] at h1
          have h2 := h1 e he
          simp only [hbd, Bool.not_true, Bool.false_or, decide_eq_true_eq] at h2
          omega
        exact hL _ _ (Array.getElem?_eq_getElem hlt) this
      refine Oper.wp_mono (fun a' w' h => ?_) (hstep i o ho a w hI hpre ⟨hUn i o ho hun', fun j oj hj ⟨e, he, hbe, hei⟩ => hUn j oj hj (by
        cases hlj : listed.getD j false with
        | false => rfl
        | true =>
          have := hC j oj hj hlj e he hbe
          rw [hei, hun'] at this
          cases this)⟩)
      obtain ⟨v, rfl, h1, h2, h3, h4⟩ := h
      refine ih _ _ _ (by simpa using hsz) (by have := left_set hsz hi' hun'; omega) h1 (fun j oj hj hlj => ?_) (fun j oj hj hlj e he hbe => ?_) (fun j oj hj hlj => ?_)
      · by_cases hji : j = i
        · subst hji
          exact h2
        · have hlj' : listed.getD j false = true := by
            rwa [Array.getD_eq_getD_getElem?, Array.getElem?_setIfInBounds_ne (Ne.symm hji), ← Array.getD_eq_getD_getElem?] at hlj
          refine hloc j oj hj a _ w' (fun d hd => ?_) (h3 j hji (hL j oj hj hlj'))
          have hne : ∀ m (om : Oper), ops[m]? = some om → listed.getD m false = true → om.dst = some d → o.dst ≠ some d := by
            intro m om hm hlm hdm hod
            have hmi : m ≠ i := by
              intro h
              subst h
              rw [hun'] at hlm
              cases hlm
            have := hbk.2
            rw [hod] at this
            simp only [Bool.and_eq_true, List.all_eq_true] at this
            have hx := this.2 m (List.mem_range.2 (Array.getElem?_eq_some_iff.1 hm).1)
            simp only [hm, Bool.or_eq_true, beq_iff_eq, hmi, false_or, bne_iff_ne] at hx
            exact hx hdm
          have hod : o.dst ≠ some d := by
            unfold slotsOf at hd
            rcases List.mem_append.1 hd with hd | hd
            · exact hne j oj hj hlj' (by simpa using hd)
            · obtain ⟨e, he, hde⟩ := List.mem_filterMap.1 hd
              split at hde
              · rename_i hbe
                have he' : e ∈ oj.after := by simpa using he
                have hle := hC j oj hj hlj' e he' hbe
                cases hom : ops[e.on]? with
                | none => rw [hom] at hde; cases hde
                | some om =>
                  rw [hom] at hde
                  exact hne e.on om hom hle hde
              · cases hde
          cases hdo : o.dst with
          | none => rfl
          | some d' =>
            simp only [Act.put, Array.getD_eq_getD_getElem?]
            rw [Array.getElem?_setIfInBounds_ne (fun h => hod (by rw [hdo, h]))]
      · have hset : ∀ m, (listed.setIfInBounds i true).getD m false = true ↔ m = i ∨ listed.getD m false = true := by
          intro m
          by_cases hmi : m = i
          · subst hmi
            rw [Array.getD_eq_getD_getElem?, Array.getElem?_setIfInBounds_self]
            simp [show m < listed.size by omega]
          · rw [Array.getD_eq_getD_getElem?, Array.getElem?_setIfInBounds_ne (Ne.symm hmi), ← Array.getD_eq_getD_getElem?]
            simp [hmi]
        rw [hset]
        rcases (hset j).1 hlj with rfl | hlj
        · rw [ho] at hj
          cases hj
          rw [Array.all_eq_true'] at haf
          have := haf e he
          simp only [hbe, Bool.not_true, Bool.false_or] at this
          exact .inr this
        · exact .inr (hC j oj hj hlj e he hbe)
      · by_cases hmi : j = i
        · subst hmi
          rw [Array.getD_eq_getD_getElem?, Array.getElem?_setIfInBounds_self] at hlj
          simp [show j < listed.size by omega] at hlj
        · rw [Array.getD_eq_getD_getElem?, Array.getElem?_setIfInBounds_ne (Ne.symm hmi), ← Array.getD_eq_getD_getElem?] at hlj
          exact h4 j hmi (hUn j oj hj hlj)
/-- The steps, one an operation. -/
def stepsA (P : Program) (ops : Array Oper) (Q : Exit → Act → World → Prop) (I : Act → World → Prop) (R : Nat → Act → World → Prop) (U : Nat → World → Prop) : Nat → List Oper → Prop
  | _, [] => True
  | i, o :: l => (∀ a w, I a w → (∀ e ∈ o.after, Region.binds .any e = true → R e.on a w) → Yet ops U i w →
      o.wp P a w (fun a' w' => ∃ v, a' = a.put o.dst v ∧ I a' w' ∧ R i a' w' ∧ (∀ j, j ≠ i → R j a w → R j a w') ∧ ∀ j, j ≠ i → U j w → U j w') Q) ∧ stepsA P ops Q I R U (i + 1) l
theorem stepsA_at (I : Act → World → Prop) (R : Nat → Act → World → Prop) (U : Nat → World → Prop) : ∀ (l : List Oper) (k : Nat), stepsA P ops Q I R U k l → ∀ j (o : Oper), l[j]? = some o → ∀ a w, I a w → (∀ e ∈ o.after, Region.binds .any e = true → R e.on a w) → Yet ops U (k + j) w →
      o.wp P a w (fun a' w' => ∃ v, a' = a.put o.dst v ∧ I a' w' ∧ R (k + j) a' w' ∧ (∀ j', j' ≠ k + j → R j' a w → R j' a w') ∧ ∀ j', j' ≠ k + j → U j' w → U j' w') Q := by
  intro l
  induction l with
  | nil => intro k _ j o h; simp at h
  | cons x l ih =>
    intro k h j o hj
    cases j with
    | zero =>
      simp only [List.getElem?_cons_zero, Option.some.injEq] at hj
      subst hj
      exact h.1
    | succ j =>
      simp only [List.getElem?_cons_succ] at hj
      have := ih (k + 1) h.2 j o hj
      rwa [show k + 1 + j = k + (j + 1) by omega] at this
/-- A word speaks of its own slots alone, one an operation. -/
def locsA (ops : Array Oper) (R : Nat → Act → World → Prop) : Nat → List Oper → Prop
  | _, [] => True
  | i, o :: l => (∀ a a' w, (∀ d ∈ slotsOf ops o, a.tmps.getD d undef = a'.tmps.getD d undef) → R i a w → R i a' w) ∧ locsA ops R (i + 1) l
theorem locsA_at (R : Nat → Act → World → Prop) : ∀ (l : List Oper) (k : Nat), locsA ops R k l → ∀ j (o : Oper), l[j]? = some o → ∀ a a' w, (∀ d ∈ slotsOf ops o, a.tmps.getD d undef = a'.tmps.getD d undef) → R (k + j) a w → R (k + j) a' w := by
  intro l
  induction l with
  | nil => intro k _ j o h; simp at h
  | cons x l ih =>
    intro k h j o hj
    cases j with
    | zero =>
      simp only [List.getElem?_cons_zero, Option.some.injEq] at hj
      subst hj
      exact h.1
    | succ j =>
      simp only [List.getElem?_cons_succ] at hj
      have := ih (k + 1) h.2 j o hj
      rwa [show k + 1 + j = k + (j + 1) by omega] at this
end
/-- **The region.** -/
theorem wp_region_postsA {P : Program} {id : Nat} {Q : Exit → Act → World → Prop} {a : Act} {w : World} {l : List Oper} (N : Nat) (I : Act → World → Prop) (R : Nat → Act → World → Prop) (U : Nat → World → Prop)
    (hm : P.follows .mixedOrders = true) (hB : postB N l.toArray = true) (hN : ∀ a w, I a w → a.tmps.size = N) (hloc : locsA l.toArray R 0 l) (h0 : ∀ u, Kept Nil w u → I a u ∧ ∀ j, U j u) (hs : stepsA P l.toArray Q I R U 0 l)
    (hend : ∀ a w, I a w → (∀ i (o : Oper), l[i]? = some o → R i a w) → wpList P l.toArray Q [] a w) : (Code.region id l.toArray true).wp P Q a w := by
  refine wp_region_any hm ?_
  refine postsA_any hB I R U hN (fun j o ho => ?_) (fun i o ho => ?_) (fun a w h1 h2 => hend a w h1 fun i o hi => h2 i o (by simpa using hi)) _ _ _ _ (by simp) ?_ (h0 _ (Kept.refl Nil w).drew).1 (fun i o ho hl => ?_) (fun i o ho hl => ?_) (fun j _ _ _ => (h0 _ (Kept.refl Nil w).drew).2 j)
  · have := locsA_at R l 0 hloc j o (by simpa using ho)
    simpa only [Nat.zero_add] using this
  · have := stepsA_at I R U l 0 hs i o (by simpa using ho)
    simpa only [Nat.zero_add] using this
  · unfold leftN
    rw [List.countP_eq_length.2]
    · simp
    · intro i hi
      rw [getD_replicate_false]
      rfl
  · rw [getD_replicate_false] at hl
    cases hl
  · rw [getD_replicate_false] at hl
    cases hl
theorem wp_region_postsB {P : Program} {id : Nat} {Q : Exit → Act → World → Prop} {a : Act} {w : World} {l : List Oper} (N : Nat) (I : Act → Act → World → Prop) (R : Nat → Act → World → Prop) (U : Nat → World → Prop)
    (hm : P.follows .mixedOrders = true) (hB : postB N l.toArray = true) (hN : ∀ x w, I a x w → x.tmps.size = N) (hloc : locsA l.toArray R 0 l) (h0 : ∀ u, Kept Nil w u → I a a u ∧ ∀ j, U j u) (hs : stepsA P l.toArray Q (I a) R U 0 l)
    (hend : ∀ x w, I a x w → (∀ i (o : Oper), l[i]? = some o → R i x w) → wpList P l.toArray Q [] x w) : (Code.region id l.toArray true).wp P Q a w := wp_region_postsA N (I a) R U hm hB hN hloc h0 hs hend
/-- An act, by the slots that have turned. -/
theorem puts_get : ∀ (D : List (Nat × Value)) (a : Act), (D.map Prod.fst).Nodup → (∀ p ∈ D, p.1 < a.tmps.size) →
    (∀ p ∈ D, (D.foldl (fun b p => b.put (some p.1) p.2) a).tmps.getD p.1 undef = p.2) ∧ (∀ d, d ∉ D.map Prod.fst → (D.foldl (fun b p => b.put (some p.1) p.2) a).tmps.getD d undef = a.tmps.getD d undef) ∧
    (D.foldl (fun b p => b.put (some p.1) p.2) a).tmps.size = a.tmps.size ∧ (D.foldl (fun b p => b.put (some p.1) p.2) a).defers = a.defers := by
  intro D
  induction D with
  | nil => intro a _ _; exact ⟨fun p hp => (by cases hp), fun d _ => rfl, rfl, rfl⟩
  | cons x D ih =>
    intro a hnd hlt
    obtain ⟨hx, hnd'⟩ := List.nodup_cons.1 hnd
    have hsz : (a.put (some x.1) x.2).tmps.size = a.tmps.size := put_size _ _ _
    obtain ⟨h1, h2, h3, h4⟩ := ih (a.put (some x.1) x.2) hnd' (fun p hp => by rw [hsz]; exact hlt p (List.mem_cons_of_mem _ hp))
    refine ⟨fun p hp => ?_, fun d hd => ?_, h3.trans hsz, h4⟩
    · rcases List.mem_cons.1 hp with rfl | hp
      · show (D.foldl _ (a.put (some p.1) p.2)).tmps.getD p.1 undef = p.2
        rw [h2 p.1 hx]
        simp only [Act.put, Array.getD_eq_getD_getElem?, Array.getElem?_setIfInBounds_self]
        rw [if_pos (hlt p (List.mem_cons_self ..))]
        rfl
      · exact h1 p hp
    · have hd' : d ≠ x.1 ∧ d ∉ D.map Prod.fst := by simpa using hd
      show (D.foldl _ (a.put (some x.1) x.2)).tmps.getD d undef = _
      rw [h2 d hd'.2]
      simp only [Act.put, Array.getD_eq_getD_getElem?]
      rw [Array.getElem?_setIfInBounds_ne (Ne.symm hd'.1)]
theorem act_eq (a' a : Act) (D : List (Nat × Value)) (hsz : a'.tmps.size = a.tmps.size) (hdf : a'.defers = a.defers) (hnd : (D.map Prod.fst).Nodup) (hlt : ∀ p ∈ D, p.1 < a.tmps.size)
    (hin : ∀ p ∈ D, a'.tmps.getD p.1 undef = p.2) (hout : ∀ d, d ∉ D.map Prod.fst → a'.tmps.getD d undef = a.tmps.getD d undef) : a' = D.foldl (fun b p => b.put (some p.1) p.2) a := by
  obtain ⟨h1, h2, h3, h4⟩ := puts_get D a hnd hlt
  have ht : a'.tmps = (D.foldl (fun b p => b.put (some p.1) p.2) a).tmps := by
    apply Array.ext (hsz.trans h3.symm)
    intro i hi1 hi2
    have key : a'.tmps.getD i undef = (D.foldl (fun b p => b.put (some p.1) p.2) a).tmps.getD i undef := by
      by_cases hm : i ∈ D.map Prod.fst
      · obtain ⟨p, hp, rfl⟩ := List.mem_map.1 hm
        rw [hin p hp, h1 p hp]
      · rw [hout i hm, h2 i hm]
    rw [Array.getD_eq_getD_getElem?, Array.getD_eq_getD_getElem?, Array.getElem?_eq_getElem hi1, Array.getElem?_eq_getElem hi2] at key
    exact key
  cases a'
  generalize D.foldl (fun b p => b.put (some p.1) p.2) a = b at *
  cases b
  simp only at ht h4 hdf
  subst ht
  rw [hdf, h4]
end Go.Proofs.Ythjfeanmgaidcaa
