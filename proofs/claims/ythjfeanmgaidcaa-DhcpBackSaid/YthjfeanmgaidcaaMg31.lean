/- Texts that belong together, one behind the other: RegY, ApSt. Conditions: those of each. -/
import Derived.Test.YthjfeanmgaidcaaMg15
import Derived.Test.YthjfeanmgaidcaaMg30
import Derived.Test.YthjfeanmgaidcaaRegA
/- Regions that draw their order, by what each operation leaves behind: what an operation finds may speak of the slots that are not yet written. Nothing of the program is named here. -/
namespace Go.Proofs.Ythjfeanmgaidcaa
open Go.RowKit Go.Sort
set_option linter.unusedVariables false

section
variable {P : Program} {ops : Array Oper} {Q : Exit → Act → World → Prop}
/-- What has not been done has not turned what its forerunners read. -/
def YetY (ops : Array Oper) (U : Nat → Act → World → Prop) (i : Nat) (a : Act) (w : World) : Prop := U i a w ∧ ∀ j (o : Oper), ops[j]? = some o → (∃ e ∈ o.after, Region.binds .any e = true ∧ e.on = i) → U j a w
def UndoneY (ops : Array Oper) (U : Nat → Act → World → Prop) (listed : Array Bool) (a : Act) (w : World) : Prop := ∀ j (o : Oper), ops[j]? = some o → listed.getD j false = false → U j a w
theorem postsY_any {N : Nat} (hB : postB N ops = true) (I : Act → World → Prop) (R : Nat → Act → World → Prop) (U : Nat → Act → World → Prop) (hN : ∀ a w, I a w → a.tmps.size = N)
    (hloc : ∀ j (o : Oper), ops[j]? = some o → ∀ a a' w, (∀ d ∈ slotsOf ops o, a.tmps.getD d undef = a'.tmps.getD d undef) → R j a w → R j a' w)
    (hstep : ∀ i (o : Oper), ops[i]? = some o → ∀ a w, I a w → (∀ e ∈ o.after, Region.binds .any e = true → R e.on a w) → YetY ops U i a w →
      o.wp P a w (fun a' w' => ∃ v, a' = a.put o.dst v ∧ I a' w' ∧ R i a' w' ∧ (∀ j, j ≠ i → R j a w → R j a w') ∧ ∀ j, j ≠ i → U j a w → U j a' w') Q)
    (hend : ∀ a w, I a w → (∀ i (o : Oper), ops[i]? = some o → R i a w) → Q .normal a w) :
    ∀ (fuel : Nat) (listed : Array Bool) (a : Act) (w : World), listed.size = ops.size → leftN ops listed = fuel → I a w → LeftA ops R listed a w → Clsd ops listed → UndoneY ops U listed a w → wpAny P .any ops Q fuel listed a w := by
  intro fuel
  induction fuel with
  | zero =>
    intro listed a w hsz hl hI hL hC hUn
    have hz := left_zero hl
    refine ⟨?_, hend a w hI fun i o ho => hL i o ho (hz i ?_)⟩
    · unfold Region.ready
      rw [List.filter_eq_nil_iff]
      intro i hi
      have hi' := List.mem_range.1 hi
      have := hz i hi'
      have e : listed.getD i true = true := by
        rw [Array.getD_eq_getD_getElem?] at this ⊢
        rw [Array.getElem?_eq_getElem (by omega)] at this ⊢
        exact this
      simp [e]
    · exact (Array.getElem?_eq_some_iff.1 ho).1
  | succ fuel ih =>
    intro listed a w hsz hl hI hL hC hUn
    refine ⟨fun hnil => ?_, fun i hi => ?_⟩
    · refine hend a w hI fun i o ho => hL i o ho ?_
      cases hle : listed.getD i false with
      | true => rfl
      | false => exact absurd hnil (least_ready hB hsz i (Array.getElem?_eq_some_iff.1 ho).1 hle)
    · unfold Region.ready at hi
      rw [List.mem_filter] at hi
      obtain ⟨hi1, hi2⟩ := hi
      have hi' := List.mem_range.1 hi1
      obtain ⟨o, ho⟩ : ∃ o, ops[i]? = some o := ⟨ops[i], Array.getElem?_eq_getElem hi'⟩
      simp only [ho, Bool.and_eq_true, Bool.not_eq_true', Option.map_some, Option.getD_some] at hi2
      obtain ⟨hun, haf⟩ := hi2
      have hun' : listed.getD i false = false := by
        rw [Array.getD_eq_getD_getElem?] at hun ⊢
        rw [Array.getElem?_eq_getElem (by omega)] at hun ⊢
        exact hun
      have hb := hB
      unfold postB at hb
      rw [List.all_eq_true] at hb
      have hbk := hb i hi1
      simp only [ho, Bool.and_eq_true] at hbk
      have hgd : Region.wanted o (yielded ops a.tmps) = true := by
        have := hbk.1.2
        unfold Region.wanted
        cases hg : o.guard with
        | none => rfl
        | some g => rw [hg] at this; cases this
      unfold wpOp
      simp only [ho, hgd, if_true]
      refine .inl ?_
      have hpre : ∀ e ∈ o.after, Region.binds .any e = true → R e.on a w := by
        intro e he hbd
        rw [Array.all_eq_true'] at haf
        have := haf e he
        simp only [hbd, Bool.not_true, Bool.false_or] at this
        have hlt : e.on < ops.size := by
          have h1 := hbk.1.1
          rw [Array.all_eq_true'] at h1
          have h2 := h1 e he
          simp only [hbd, Bool.not_true, Bool.false_or, decide_eq_true_eq] at h2
          omega
        exact hL _ _ (Array.getElem?_eq_getElem hlt) this
      refine Oper.wp_mono (fun a' w' h => ?_) (hstep i o ho a w hI hpre ⟨hUn i o ho hun', fun j oj hj ⟨e, he, hbe, hei⟩ => hUn j oj hj (by
        cases hlj : listed.getD j false with
        | false => rfl
        | true =>
          have := hC j oj hj hlj e he hbe
          rw [hei, hun'] at this
          cases this)⟩)
      obtain ⟨v, rfl, h1, h2, h3, h4⟩ := h
      refine ih _ _ _ (by simpa using hsz) (by have := left_set hsz hi' hun'; omega) h1 (fun j oj hj hlj => ?_) (fun j oj hj hlj e he hbe => ?_) (fun j oj hj hlj => ?_)
      · by_cases hji : j = i
        · subst hji
          exact h2
        · have hlj' : listed.getD j false = true := by
            rwa [Array.getD_eq_getD_getElem?, Array.getElem?_setIfInBounds_ne (Ne.symm hji), ← Array.getD_eq_getD_getElem?] at hlj
          refine hloc j oj hj a _ w' (fun d hd => ?_) (h3 j hji (hL j oj hj hlj'))
          have hne : ∀ m (om : Oper), ops[m]? = some om → listed.getD m false = true → om.dst = some d → o.dst ≠ some d := by
            intro m om hm hlm hdm hod
            have hmi : m ≠ i := by
              intro h
              subst h
              rw [hun'] at hlm
              cases hlm
            have := hbk.2
            rw [hod] at this
            simp only [Bool.and_eq_true, List.all_eq_true] at this
            have hx := this.2 m (List.mem_range.2 (Array.getElem?_eq_some_iff.1 hm).1)
            simp only [hm, Bool.or_eq_true, beq_iff_eq, hmi, false_or, bne_iff_ne] at hx
            exact hx hdm
          have hod : o.dst ≠ some d := by
            unfold slotsOf at hd
            rcases List.mem_append.1 hd with hd | hd
            · exact hne j oj hj hlj' (by simpa using hd)
            · obtain ⟨e, he, hde⟩ := List.mem_filterMap.1 hd
              split at hde
              · rename_i hbe
                have he' : e ∈ oj.after := by simpa using he
                have hle := hC j oj hj hlj' e he' hbe
                cases hom : ops[e.on]? with
                | none => rw [hom] at hde; cases hde
                | some om =>
                  rw [hom] at hde
                  exact hne e.on om hom hle hde
              · cases hde
          cases hdo : o.dst with
          | none => rfl
          | some d' =>
            simp only [Act.put, Array.getD_eq_getD_getElem?]
            rw [Array.getElem?_setIfInBounds_ne (fun h => hod (by rw [hdo, h]))]
      · have hset : ∀ m, (listed.setIfInBounds i true).getD m false = true ↔ m = i ∨ listed.getD m false = true := by
          intro m
          by_cases hmi : m = i
          · subst hmi
            rw [Array.getD_eq_getD_getElem?, Array.getElem?_setIfInBounds_self]
            simp [show m < listed.size by omega]
          · rw [Array.getD_eq_getD_getElem?, Array.getElem?_setIfInBounds_ne (Ne.symm hmi), ← Array.getD_eq_getD_getElem?]
            simp [hmi]
        rw [hset]
        rcases (hset j).1 hlj with rfl | hlj
        · rw [ho] at hj
          cases hj
          rw [Array.all_eq_true'] at haf
          have := haf e he
          simp only [hbe, Bool.not_true, Bool.false_or] at this
          exact .inr this
        · exact .inr (hC j oj hj hlj e he hbe)
      · by_cases hmi : j = i
        · subst hmi
          rw [Array.getD_eq_getD_getElem?, Array.getElem?_setIfInBounds_self] at hlj
          simp [show j < listed.size by omega] at hlj
        · rw [Array.getD_eq_getD_getElem?, Array.getElem?_setIfInBounds_ne (Ne.symm hmi), ← Array.getD_eq_getD_getElem?] at hlj
          exact h4 j hmi (hUn j oj hj hlj)
/-- The steps, one an operation. -/
def stepsY (P : Program) (ops : Array Oper) (Q : Exit → Act → World → Prop) (I : Act → World → Prop) (R : Nat → Act → World → Prop) (U : Nat → Act → World → Prop) : Nat → List Oper → Prop
  | _, [] => True
  | i, o :: l => (∀ a w, I a w → (∀ e ∈ o.after, Region.binds .any e = true → R e.on a w) → YetY ops U i a w →
      o.wp P a w (fun a' w' => ∃ v, a' = a.put o.dst v ∧ I a' w' ∧ R i a' w' ∧ (∀ j, j ≠ i → R j a w → R j a w') ∧ ∀ j, j ≠ i → U j a w → U j a' w') Q) ∧ stepsY P ops Q I R U (i + 1) l
theorem stepsY_at (I : Act → World → Prop) (R : Nat → Act → World → Prop) (U : Nat → Act → World → Prop) : ∀ (l : List Oper) (k : Nat), stepsY P ops Q I R U k l → ∀ j (o : Oper), l[j]? = some o → ∀ a w, I a w → (∀ e ∈ o.after, Region.binds .any e = true → R e.on a w) → YetY ops U (k + j) a w →
      o.wp P a w (fun a' w' => ∃ v, a' = a.put o.dst v ∧ I a' w' ∧ R (k + j) a' w' ∧ (∀ j', j' ≠ k + j → R j' a w → R j' a w') ∧ ∀ j', j' ≠ k + j → U j' a w → U j' a' w') Q := by
  intro l
  induction l with
  | nil => intro k _ j o h; simp at h
  | cons x l ih =>
    intro k h j o hj
    cases j with
    | zero =>
      simp only [List.getElem?_cons_zero, Option.some.injEq] at hj
      subst hj
      exact h.1
    | succ j =>
      simp only [List.getElem?_cons_succ] at hj
      have := ih (k + 1) h.2 j o hj
      rwa [show k + 1 + j = k + (j + 1) by omega] at this
end
/-- **The region.** -/
theorem wp_region_postsY {P : Program} {id : Nat} {Q : Exit → Act → World → Prop} {a : Act} {w : World} {l : List Oper} (N : Nat) (I : Act → World → Prop) (R : Nat → Act → World → Prop) (U : Nat → Act → World → Prop)
    (hm : P.follows .mixedOrders = true) (hB : postB N l.toArray = true) (hN : ∀ a w, I a w → a.tmps.size = N) (hloc : locsA l.toArray R 0 l) (h0 : ∀ u, Kept Nil w u → I a u ∧ ∀ j, U j a u) (hs : stepsY P l.toArray Q I R U 0 l)
    (hend : ∀ a w, I a w → (∀ i (o : Oper), l[i]? = some o → R i a w) → wpList P l.toArray Q [] a w) : (Code.region id l.toArray true).wp P Q a w := by
  refine wp_region_any hm ?_
  refine postsY_any hB I R U hN (fun j o ho => ?_) (fun i o ho => ?_) (fun a w h1 h2 => hend a w h1 fun i o hi => h2 i o (by simpa using hi)) _ _ _ _ (by simp) ?_ (h0 _ (Kept.refl Nil w).drew).1 (fun i o ho hl => ?_) (fun i o ho hl => ?_) (fun j _ _ _ => (h0 _ (Kept.refl Nil w).drew).2 j)
  · have := locsA_at R l 0 hloc j o (by simpa using ho)
    simpa only [Nat.zero_add] using this
  · have := stepsY_at I R U l 0 hs i o (by simpa using ho)
    simpa only [Nat.zero_add] using this
  · unfold leftN
    rw [List.countP_eq_length.2]
    · simp
    · intro i hi
      rw [getD_replicate_false]
      rfl
  · rw [getD_replicate_false] at hl
    cases hl
  · rw [getD_replicate_false] at hl
    cases hl
theorem wp_region_postsYB {P : Program} {id : Nat} {Q : Exit → Act → World → Prop} {a : Act} {w : World} {l : List Oper} (N : Nat) (I : Act → Act → World → Prop) (R : Nat → Act → World → Prop) (U : Nat → Act → World → Prop)
    (hm : P.follows .mixedOrders = true) (hB : postB N l.toArray = true) (hN : ∀ x w, I a x w → x.tmps.size = N) (hloc : locsA l.toArray R 0 l) (h0 : ∀ u, Kept Nil w u → I a a u ∧ ∀ j, U j a u) (hs : stepsY P l.toArray Q (I a) R U 0 l)
    (hend : ∀ x w, I a x w → (∀ i (o : Oper), l[i]? = some o → R i x w) → wpList P l.toArray Q [] x w) : (Code.region id l.toArray true).wp P Q a w := wp_region_postsY N (I a) R U hm hB hN hloc h0 hs hend
end Go.Proofs.Ythjfeanmgaidcaa
/- A region in free order that appends onto a row of its own, calls, makes one block and stores into it: one step an operation. -/
namespace Go.Proofs.Ythjfeanmgaidcaa
open Go.RowKit Go.Sort
set_option linter.unusedVariables false

def stepsS (P : Program) (ops : Array Oper) (Q : Exit → Act → World → Prop) (a0 : Act) (I : Act → World → Prop) (R : Nat → Act → World → Prop) : Nat → List Oper → Prop
  | _, [] => True
  | i, o :: l => (∀ a w, I a w → (∀ e ∈ o.after, Region.binds .any e = true → R e.on a w) → (∀ d, o.dst = some d → a.eval (.tmp d) = a0.eval (.tmp d)) →
      o.wp P a w (fun a' w' => ∃ v, a' = a.put o.dst v ∧ I a' w' ∧ R i a' w' ∧ ∀ j, j ≠ i → R j a w → R j a w') Q) ∧ stepsS P ops Q a0 I R (i + 1) l
def unwr (ops : Array Oper) (a0 : Act) (j : Nat) (a : Act) (_ : World) : Prop := ∀ (o : Oper) (d : Nat), ops[j]? = some o → o.dst = some d → a.eval (.tmp d) = a0.eval (.tmp d)
theorem dst_apart {N : Nat} {ops : Array Oper} (hB : postB N ops = true) {i j : Nat} {oi oj : Oper} (hi : ops[i]? = some oi) (hj : ops[j]? = some oj) (hne : j ≠ i) {d : Nat} (hd : oi.dst = some d) : oj.dst ≠ some d := by
  unfold postB at hB
  rw [List.all_eq_true] at hB
  have hb := hB i (List.mem_range.2 (Array.getElem?_eq_some_iff.1 hi).1)
  simp only [hi, Bool.and_eq_true] at hb
  have := hb.2
  rw [hd] at this
  simp only [Bool.and_eq_true, List.all_eq_true] at this
  have hx := this.2 j (List.mem_range.2 (Array.getElem?_eq_some_iff.1 hj).1)
  simpa only [hj, Bool.or_eq_true, beq_iff_eq, hne, false_or, bne_iff_ne] using hx
theorem stepsS_Y {P : Program} {ops : Array Oper} {Q : Exit → Act → World → Prop} {a0 : Act} {I : Act → World → Prop} {R : Nat → Act → World → Prop} {N : Nat} (hB : postB N ops = true) : ∀ (l : List Oper) (k : Nat), (∀ j, l[j]? = ops[k + j]?) → stepsS P ops Q a0 I R k l → stepsY P ops Q I R (unwr ops a0) k l := by
  intro l
  induction l with
  | nil => intro _ _ _; trivial
  | cons o l ih =>
    intro k hk h
    refine ⟨fun a w hI hp hU => ?_, ih (k + 1) (fun j => by have := hk (j + 1); rw [List.getElem?_cons_succ] at this; rw [this, show k + (j + 1) = k + 1 + j by omega]) h.2⟩
    have hok : ops[k]? = some o := by have := hk 0; simpa using this.symm
    refine Oper.wp_mono (fun a' w' hh => ?_) (h.1 a w hI hp (fun d hd => hU.1 o d hok hd))
    obtain ⟨v, rfl, h1, h2, h3⟩ := hh
    refine ⟨v, rfl, h1, h2, h3, fun j hj hu oj d ho hd => ?_⟩
    have hne := dst_apart hB ho hok (Ne.symm hj) hd
    cases hdo : o.dst with
    | none => exact hu oj d ho hd
    | some d' => rw [eval_put _ _ _ _ (fun e => hne (by rw [hdo, e]))]; exact hu oj d ho hd
/-- **The region, a step an operation; each step finds its own slot as it was.** -/
theorem wp_region_slots {P : Program} {id : Nat} {Q : Exit → Act → World → Prop} {a : Act} {w : World} {l : List Oper} (N : Nat) (I : Act → Act → World → Prop) (R : Nat → Act → World → Prop)
    (hm : P.follows .mixedOrders = true) (hB : postB N l.toArray = true) (hN : ∀ x w, I a x w → x.tmps.size = N) (hloc : locsA l.toArray R 0 l) (h0 : ∀ u, Kept Nil w u → I a a u) (hs : stepsS P l.toArray Q a (I a) R 0 l)
    (hend : ∀ x w, I a x w → (∀ i (o : Oper), l[i]? = some o → R i x w) → wpList P l.toArray Q [] x w) : (Code.region id l.toArray true).wp P Q a w :=
  wp_region_postsY N (I a) R (unwr l.toArray a) hm hB hN hloc (fun u hu => ⟨h0 u hu, fun _ _ _ _ _ => rfl⟩) (stepsS_Y hB l 0 (fun j => by simp) hs) hend
theorem stepS_pure {P : Program} {o : Oper} {a : Act} {u : World} {I : Act → World → Prop} {R : Nat → Act → World → Prop} {Q : Exit → Act → World → Prop} {i : Nat} (v : Value) (h : (execOp a.eval o).run P u = .ok (.value v) u) (hI : I (a.put o.dst v) u) (hR : R i (a.put o.dst v) u) :
    o.wp P a u (fun a' w' => ∃ v, a' = a.put o.dst v ∧ I a' w' ∧ R i a' w' ∧ ∀ j, j ≠ i → R j a u → R j a w') Q := by
  unfold Oper.wp
  rw [h]
  exact ⟨v, rfl, hI, hR, fun _ _ h => h⟩
theorem stepS_val {P : Program} {o : Oper} {a : Act} {u : World} {I : Act → World → Prop} {R : Nat → Act → World → Prop} {Q : Exit → Act → World → Prop} {i : Nat} (v : Value) (u' : World) (h : (execOp a.eval o).run P u = .ok (.value v) u') (hI : I (a.put o.dst v) u') (hR : R i (a.put o.dst v) u') (hj : ∀ j, j ≠ i → R j a u → R j a u') :
    o.wp P a u (fun a' w' => ∃ v, a' = a.put o.dst v ∧ I a' w' ∧ R i a' w' ∧ ∀ j, j ≠ i → R j a u → R j a w') Q := by
  unfold Oper.wp
  rw [h]
  exact ⟨v, rfl, hI, hR, hj⟩
theorem stepS_call {P : Program} {o : Oper} {a : Act} {u : World} {I : Act → World → Prop} {R : Nat → Act → World → Prop} {Q : Exit → Act → World → Prop} {i : Nat} (f : FuncId) (avs : Array Value) (h : (execOp a.eval o).run P u = .ok (.enter f avs) u)
    (hc : Calls P f avs u fun e w' => ∃ v, e = .returned v ∧ I (a.put o.dst v) w' ∧ R i (a.put o.dst v) w' ∧ ∀ j, j ≠ i → R j a u → R j a w') :
    o.wp P a u (fun a' w' => ∃ v, a' = a.put o.dst v ∧ I a' w' ∧ R i a' w' ∧ ∀ j, j ≠ i → R j a u → R j a w') Q := by
  unfold Oper.wp
  rw [h]
  refine hc.mono ?_
  rintro e w' ⟨v, rfl, h1, h2, h3⟩
  exact ⟨v, rfl, h1, h2, h3⟩
theorem stepS_st {P : Program} {o : Oper} {a : Act} {u : World} {I : Act → World → Prop} {R : Nat → Act → World → Prop} {Q : Exit → Act → World → Prop} {i : Nat} (ty : TypeId) (p x : Operand) (ho : o.op = .store ty p x) (hd : o.dst = none) {g f : Nat} (hp : a.eval p = .pointer (some ⟨g, f, none⟩)) (l : List Value) {v : Value} (hx : a.eval x = v) (hvc : v.cells = l.toArray) (hi : (P.info? ty).map (·.size) = some l.length) {T : TypeId} {cs : List Value} (hb : Blo u g T cs.toArray) (hf : f + l.length ≤ cs.length) (h1 : ∀ u ∈ l, u.oneCell' = true)
    (h : ∀ u', Blo u' g T (cs.take f ++ l ++ cs.drop (f + l.length)).toArray → Kept (One g) u u' → u'.heap.size = u.heap.size → I a u' ∧ R i a u' ∧ ∀ j, j ≠ i → R j a u → R j a u') :
    o.wp P a u (fun a' w' => ∃ v, a' = a.put o.dst v ∧ I a' w' ∧ R i a' w' ∧ ∀ j, j ≠ i → R j a u → R j a w') Q := by
  obtain ⟨u', hr, hbl, hk, hz⟩ := exec_st (P := P) ty p x ho hp l hx hvc hi hb hf h1
  obtain ⟨h1, h2, h3⟩ := h u' hbl hk hz
  unfold Oper.wp
  rw [hr]
  exact ⟨undef, rfl, by rw [hd]; exact h1, by rw [hd]; exact h2, h3⟩

/-- What such a region keeps up: ch: the slots of its appends, and what the row reads then; sl: the new block's slot. -/
structure asI (w0 : World) (D : List Nat) (ch : List (Nat × List UInt8)) (sl : Nat) (T : TypeId) (len : Nat) (a0 a : Act) (u : World) : Prop where
  size : a.tmps.size = a0.tmps.size
  defs : a.defers = a0.defers
  fr : ∀ d, d ∉ D → a.eval (.tmp d) = a0.eval (.tmp d)
  kept : Kept Nil w0 u
  al : ∀ g f', a.eval (.tmp sl) = .pointer (some ⟨g, f', none⟩) → w0.heap.size ≤ g ∧ g < u.heap.size ∧ ∃ cs : List Value, cs.length = len ∧ Blo u g T cs.toArray
  row : ∀ (k s : Nat) (l : List UInt8), ch[k]? = some (s, l) → a.eval (.tmp s) ≠ undef → (∀ (k' s' : Nat) (l' : List UInt8), k < k' → ch[k']? = some (s', l') → a.eval (.tmp s') = undef) →
    u.ownsRow w0.heap.size 5 1 (a.eval (.tmp s)) l.length (bys l) ∧ ∀ g f', a.eval (.tmp sl) = .pointer (some ⟨g, f', none⟩) → (a.eval (.tmp s)).ownBlock ≠ some g
  ord : ∀ (k k' s s' : Nat) (l l' : List UInt8), k < k' → ch[k]? = some (s, l) → ch[k']? = some (s', l') → a.eval (.tmp s') ≠ undef → a.eval (.tmp s) ≠ undef
section
variable {w0 : World} {D : List Nat} {ch : List (Nat × List UInt8)} {sl : Nat} {T : TypeId} {len : Nat} {a0 a : Act} {u u' : World}
theorem asI.start (h1 : ∀ (k s : Nat) (l : List UInt8), ch[k]? = some (s, l) → a0.eval (.tmp s) = undef) (h2 : a0.eval (.tmp sl) = undef) (hk : Kept Nil w0 u) : asI w0 D ch sl T len a0 a0 u where
  size := rfl
  defs := rfl
  fr := fun _ _ => rfl
  kept := hk
  al := fun g f' e => by rw [h2] at e; cases e
  row := fun k s l hs hn _ => absurd (h1 k s l hs) hn
  ord := fun k k' s s' l l' _ hs hs' hn => absurd (h1 k' s' l' hs') hn
theorem asI.put (h : asI w0 D ch sl T len a0 a u) (d : Nat) (v : Value) (hd : d ∈ D) (hs : d ≠ sl) (hc : d ∉ ch.map Prod.fst) : asI w0 D ch sl T len a0 (a.put (some d) v) u := by
  have hn : ∀ {k s : Nat} {l : List UInt8}, ch[k]? = some (s, l) → d ≠ s := fun {k s l} hk e => hc (List.mem_map.2 ⟨(s, l), List.mem_of_getElem? hk, e.symm⟩)
  refine ⟨(put_size _ _ _).trans h.size, h.defs, fun k hk => ?_, h.kept, fun g f' e => ?_, fun k s l hk hu hl => ?_, fun k k' s s' l l' hlt hk hk' hu => ?_⟩
  · have hne : d ≠ k := fun e => hk (e ▸ hd)
    rw [eval_put _ _ _ _ hne]
    exact h.fr k hk
  · rw [eval_put _ _ _ _ hs] at e
    exact h.al g f' e
  · rw [eval_put _ _ _ _ (hn hk)] at hu ⊢
    rw [eval_put _ _ _ _ hs]
    exact h.row k s l hk hu (fun k' s' l' hlt hk' => by have := hl k' s' l' hlt hk'; rwa [eval_put _ _ _ _ (hn hk')] at this)
  · rw [eval_put _ _ _ _ (hn hk')] at hu
    rw [eval_put _ _ _ _ (hn hk)]
    exact h.ord k k' s s' l l' hlt hk hk' hu
theorem asI.next (h : asI w0 D ch sl T len a0 a u) (k : Kept Nil u u') : asI w0 D ch sl T len a0 a u' where
  size := h.size
  defs := h.defs
  fr := h.fr
  kept := h.kept.then k
  al := fun g f' e => by
    obtain ⟨h1, h2, cs, h3, h4⟩ := h.al g f' e
    exact ⟨h1, Nat.lt_of_lt_of_le h2 k.size, cs, h3, h4.kept k (fun hf => hf)⟩
  row := fun k' s l hk hu hl => by
    obtain ⟨h1, h2⟩ := h.row k' s l hk hu hl
    exact ⟨own_kept h1 k (fun _ _ hf => hf), h2⟩
  ord := h.ord
theorem own_low {w : World} {B e size n : Nat} {v : Value} {xs : List Value} (h : w.ownsRow B e size v n xs) : ∀ i, v.ownBlock = some i → B ≤ i := by
  intro i hi
  rcases h.2 with ⟨rfl, _⟩ | ⟨g, cap, cur, rfl, hb, _⟩
  · cases hi
  · injection hi with e
    exact e ▸ hb
/-- An append: onto nothing, or onto what the one ahead has answered. -/
theorem asI.app (h : asI w0 D ch sl T len a0 a u) (hnd : (ch.map Prod.fst).Nodup) (k s : Nat) (l : List UInt8) (hk : ch[k]? = some (s, l)) (hsl : s ≠ sl) (hD : s ∈ D) (hsz : s < a.tmps.size) (hun : a.eval (.tmp s) = undef)
    {v : Value} {l0 m : List UInt8} (hl : l = l0 ++ m) (hv : u.ownsRow w0.heap.size 5 1 v l0.length (bys l0)) (hg : ∀ g f', a.eval (.tmp sl) = .pointer (some ⟨g, f', none⟩) → v.ownBlock ≠ some g) (hpv : ∀ (k' s' : Nat) (l' : List UInt8), k' < k → ch[k']? = some (s', l') → a.eval (.tmp s') ≠ undef)
    {A : Option Addr} {n c : Nat} (hy : Byt u A n c m) (hb : l0.length + n ≤ 140737488355328) {ty : TypeId} :
    ∃ v' u', (Builtin.append_ #[31, 31] ty #[v, .slice A n c]).run Try.prog u = .ok v' u' ∧ asI w0 D ch sl T len a0 (a.put (some s) v') u' ∧ (∃ A c, v' = .slice A l.length c) ∧ Kept (fun i => v.ownBlock = some i) u u' := by
  obtain ⟨i0, hi, hz0, hz1, hz2⟩ := info_parts Try.infb
  obtain ⟨v', u', hr, hn, hgr, hor⟩ := run_app (P := Try.prog) (ty := ty) Try.underlying31 hi hz0 hz1 hz2 rfl hv hy hb h.kept.size
  have e1 : l0.length + n = l.length := by rw [hl, List.length_append, hy.1]
  rw [e1, ← bys_app, ← hl] at hn
  have hkk : Kept (fun i => v.ownBlock = some i) u u' := (Kept.refl _ u).grown hgr (fun k hk _ => hk)
  have hap : ∀ {k' s' : Nat} {l' : List UInt8}, ch[k']? = some (s', l') → k' ≠ k → s ≠ s' := by
    intro k' s' l' hk' hne e
    have h1 : (ch.map Prod.fst)[k']? = some s' := by rw [List.getElem?_map, hk']; rfl
    have h2 : (ch.map Prod.fst)[k]? = some s' := by rw [List.getElem?_map, hk, ← e]; rfl
    exact hne ((List.getElem?_inj (by have := (List.getElem?_eq_some_iff.1 h1).1; exact this) hnd).1 (h1.trans h2.symm))
  have hlater : ∀ (k' s' : Nat) (l' : List UInt8), k < k' → ch[k']? = some (s', l') → a.eval (.tmp s') = undef := by
    intro k' s' l' hlt hk'
    apply Classical.byContradiction
    intro hc
    exact h.ord k k' s s' l l' hlt hk hk' hc hun
  have hne' : v' ≠ undef := by
    obtain ⟨A', c', rfl, _⟩ := Byt.of_own hn
    exact fun e => by cases e
  refine ⟨v', u', hr, ⟨(put_size _ _ _).trans h.size, h.defs, fun d hd => ?_, h.kept.fresh hkk (fun i hi => own_low hv i hi), fun g f' e => ?_, fun k' s' l' hk' hu hl' => ?_, fun k1 k2 s1 s2 l1 l2 hlt h1 h2 hu => ?_⟩, ?_, hkk⟩
  · have hne : _ ≠ d := fun e => hd (e ▸ hD)
    rw [eval_put _ _ _ _ hne]
    exact h.fr d hd
  · rw [eval_put _ _ _ _ hsl] at e
    obtain ⟨h1, h2, cs, h3, h4⟩ := h.al g f' e
    exact ⟨h1, Nat.lt_of_lt_of_le h2 hkk.size, cs, h3, h4.kept hkk (hg g f' e)⟩
  · rcases Nat.lt_trichotomy k' k with hlt | rfl | hlt
    · have := hl' k s l hlt hk
      rw [eval_same _ _ _ hsz] at this
      exact absurd this hne'
    · rw [hk] at hk'
      cases hk'
      rw [eval_same _ _ _ hsz, eval_put _ _ _ _ hsl]
      refine ⟨hn, fun g f' e => ?_⟩
      rcases hor with h' | h'
      · rw [h']; exact hg g f' e
      · rw [h']
        intro e'
        injection e' with e'
        have := (h.al g f' e).2.1
        omega
    · rw [eval_put _ _ _ _ (hap hk' (by omega))] at hu
      exact absurd (hlater k' s' l' hlt hk') hu
  · by_cases e1 : k2 = k
    · subst e1
      rw [eval_put _ _ _ _ (hap h1 (by omega))]
      exact hpv k1 s1 l1 hlt h1
    · rw [eval_put _ _ _ _ (hap h2 e1)] at hu
      by_cases e2 : k1 = k
      · subst e2
        exact absurd (hlater k2 s2 l2 hlt h2) hu
      · rw [eval_put _ _ _ _ (hap h1 e2)]
        exact h.ord k1 k2 s1 s2 l1 l2 hlt h1 h2 hu
  · obtain ⟨A', c', rfl, _⟩ := Byt.of_own hn
    exact ⟨A', c', rfl⟩
/-- The new block. -/
theorem asI.alloc (h : asI w0 D ch sl T len a0 a u) (hc : sl ∉ ch.map Prod.fst) (hD : sl ∈ D) (hsz : sl < a.tmps.size) (cs : List Value) (hl : cs.length = len) : asI w0 D ch sl T len a0 (a.put (some sl) (pAt u.heap.size 0)) (u.alloc (.cells cs.toArray T)) := by
  have k := (Kept.refl Nil u).alloc (.cells cs.toArray T)
  have hn : ∀ {k s : Nat} {l : List UInt8}, ch[k]? = some (s, l) → sl ≠ s := fun {k s l} hk e => hc (List.mem_map.2 ⟨(s, l), List.mem_of_getElem? hk, e.symm⟩)
  refine ⟨(put_size _ _ _).trans h.size, h.defs, fun d hd => ?_, h.kept.then k, fun g f' e => ?_, fun k' s l hk hu hl' => ?_, fun k' k'' s s' l l' hlt hk hk' hu => ?_⟩
  · have hne : _ ≠ d := fun e => hd (e ▸ hD)
    rw [eval_put _ _ _ _ hne]
    exact h.fr d hd
  · rw [eval_same _ _ _ hsz] at e
    unfold pAt at e
    cases e
    exact ⟨h.kept.size, by simp, cs, hl, Blo.new _ _ _⟩
  · rw [eval_put _ _ _ _ (hn hk)] at hu ⊢
    obtain ⟨h1, h2⟩ := h.row k' s l hk hu (fun k' s' l' hlt hk' => by have := hl' k' s' l' hlt hk'; rwa [eval_put _ _ _ _ (hn hk')] at this)
    refine ⟨own_kept h1 k (fun _ _ hf => hf), fun g f' e eg => ?_⟩
    rw [eval_same _ _ _ hsz] at e
    unfold pAt at e
    cases e
    exact absurd (own_blt h1 _ eg) (Nat.lt_irrefl _)
  · rw [eval_put _ _ _ _ (hn hk')] at hu
    rw [eval_put _ _ _ _ (hn hk)]
    exact h.ord k' k'' s s' l l' hlt hk hk' hu
/-- The store into it. -/
theorem asI.store (h : asI w0 D ch sl T len a0 a u) {g : Nat} (k : Kept (One g) u u') (hz : u'.heap.size = u.heap.size) (e : a.eval (.tmp sl) = pAt g 0) (cs : List Value) (hl : cs.length = len) (hb : Blo u' g T cs.toArray) : asI w0 D ch sl T len a0 a u' := by
  obtain ⟨hg1, hg2, _⟩ := h.al g 0 e
  refine ⟨h.size, h.defs, h.fr, h.kept.fresh k (fun i hi => by cases hi; exact hg1), fun g' f' e' => ?_, fun k' s l hk hu hl' => ?_, h.ord⟩
  · rw [e] at e'
    unfold pAt at e'
    cases e'
    exact ⟨hg1, by rw [hz]; exact hg2, cs, hl, hb⟩
  · obtain ⟨h1, h2⟩ := h.row k' s l hk hu hl'
    refine ⟨own_kept h1 k (fun i hi hf => ?_), h2⟩
    cases hf
    exact h2 _ 0 e hi
end
theorem ln_s (A : Option Addr) (n c : Nat) (ty : TypeId) (u : World) : (Builtin.len_ #[31] ty #[.slice A n c]).run Try.prog u = .ok (.int .i64 (n : Int)) u := by
  simp [Builtin.len_, Builtin.lenOf, run_underlying Try.underlying31, goInt]
theorem mn_s (n b m : Nat) (ty : TypeId) (u : World) (h : (if (b : Int) < (n : Int) then (b : Int) else (n : Int)) = (m : Int)) : (Builtin.min_ #[3, 3] ty #[.int .i64 (n : Int), .int .i64 (b : Int)]).run Try.prog u = .ok (.int .i64 (m : Int)) u := by
  rw [← h]
  simp [Builtin.min_, Builtin.min2]
theorem exS_0 (a b : Value) (u : World) : (Instr.extract (.tuple #[a, b]) 0).run Try.prog u = .ok a u := by kernel_rfl
theorem exS_1 (a b : Value) (u : World) : (Instr.extract (.tuple #[a, b]) 1).run Try.prog u = .ok b u := by kernel_rfl
end Go.Proofs.Ythjfeanmgaidcaa
