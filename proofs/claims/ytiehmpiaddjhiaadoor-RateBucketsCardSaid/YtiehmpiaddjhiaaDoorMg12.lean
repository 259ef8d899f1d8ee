/- Texts that belong together, one behind the other: RegW, Cst. Conditions: those of each. -/
import Derived.Test.YtiehmpiaddjhiaaDoorMg11
/- Regions that draw their order, by what each operation leaves behind: a word may speak of the slots of those operations that it waits for. Nothing of the program is named here. -/
namespace Go.Proofs.YtiehmpiaddjhiaaDoor
open Go.RowKit Go.Sort
set_option linter.unusedVariables false

/-- The slots that an operation's word may speak of. -/
def slotsOf (ops : Array Oper) (o : Oper) : List Nat := o.dst.toList ++ o.after.toList.filterMap fun e => if Region.binds .any e then (ops[e.on]?).bind (·.dst) else none
section
variable {P : Program} {ops : Array Oper} {Q : Exit → Act → World → Prop}
def LeftA (ops : Array Oper) (R : Nat → Act → World → Prop) (listed : Array Bool) (a : Act) (w : World) : Prop := ∀ i (o : Oper), ops[i]? = some o → listed.getD i false = true → R i a w
theorem postsA_any {N : Nat} (hB : postB N ops = true) (I : Act → World → Prop) (R : Nat → Act → World → Prop) (U : Nat → World → Prop) (hN : ∀ a w, I a w → a.tmps.size = N)
    (hloc : ∀ j (o : Oper), ops[j]? = some o → ∀ a a' w, (∀ d ∈ slotsOf ops o, a.tmps.getD d undef = a'.tmps.getD d undef) → R j a w → R j a' w)
    (hstep : ∀ i (o : Oper), ops[i]? = some o → ∀ a w, I a w → (∀ e ∈ o.after, Region.binds .any e = true → R e.on a w) → Yet ops U i w →
      o.wp P a w (fun a' w' => ∃ v, a' = a.put o.dst v ∧ I a' w' ∧ R i a' w' ∧ (∀ j, j ≠ i → R j a w → R j a w') ∧ ∀ j, j ≠ i → U j w → U j w') Q)
    (hend : ∀ a w, I a w → (∀ i (o : Oper), ops[i]? = some o → R i a w) → Q .normal a w) :
    ∀ (fuel : Nat) (listed : Array Bool) (a : Act) (w : World), listed.size = ops.size → leftN ops listed = fuel → I a w → LeftA ops R listed a w → Clsd ops listed → Undone ops U listed w → wpAny P .any ops Q fuel listed a w := by
  intro fuel
  induction fuel with
  | zero =>
    intro listed a w hsz hl hI hL hC hUn
    have hz := left_zero hl
    refine ⟨?_, hend a w hI fun i o ho => hL i o ho (hz i ?_)⟩
    · unfold Region.ready
      rw [List.filter_eq_nil_iff]
      intro i hi
      have hi' := List.mem_range.1 hi
      have := hz i hi'
      have e : listed.getD i true = true := by
        rw [Array.getD_eq_getD_getElem?] at this ⊢
        rw [Array.getElem?_eq_getElem (by omega)] at this ⊢
        exact this
      simp [e]
    · exact (Array.getElem?_eq_some_iff.1 ho).1
  | succ fuel ih =>
    intro listed a w hsz hl hI hL hC hUn
    refine ⟨fun hnil => ?_, fun i hi => ?_⟩
    · refine hend a w hI fun i o ho => hL i o ho ?_
      cases hle : listed.getD i false with
      | true => rfl
      | false => exact absurd hnil (least_ready hB hsz i (Array.getElem?_eq_some_iff.1 ho).1 hle)
    · unfold Region.ready at hi
      rw [List.mem_filter] at hi
      obtain ⟨hi1, hi2⟩ := hi
      have hi' := List.mem_range.1 hi1
      obtain ⟨o, ho⟩ : ∃ o, ops[i]? = some o := ⟨ops[i], Array.getElem?_eq_getElem hi'⟩
      simp only [ho, Bool.and_eq_true, Bool.not_eq_true', Option.map_some, Option.getD_some] at hi2
      obtain ⟨hun, haf⟩ := hi2
      have hun' : listed.getD i false = false := by
        rw [Array.getD_eq_getD_getElem?] at hun ⊢
        rw [Array.getElem?_eq_getElem (by omega)] at hun ⊢
        exact hun
      have hb := hB
      unfold postB at hb
      rw [List.all_eq_true] at hb
      have hbk := hb i hi1
      simp only [ho, Bool.and_eq_true] at hbk
      have hgd : Region.wanted o (yielded ops a.tmps) = true := by
        have := hbk.1.2
        unfold Region.wanted
        cases hg : o.guard with
        | none => rfl
        | some g => rw [hg] at this; cases this
      unfold wpOp
      simp only [ho, hgd, if_true]
      refine .inl ?_
      have hpre : ∀ e ∈ o.after, Region.binds .any e = true → R e.on a w := by
        intro e he hbd
        rw [Array.all_eq_true'] at haf
        have := haf e he
        simp only [hbd, Bool.not_true, Bool.false_or] at this
        have hlt : e.on < ops.size := by
          have h1 := hbk.1.1
          rw [Array.all_eq_true'] at h1
          have h2 := h1 e he
          simp only [hbd, Bool.not_true, Bool.false_or, decide_eq_true_eq] at h2
          omega
        exact hL _ _ (Array.getElem?_eq_getElem hlt) this
      refine Oper.wp_mono (fun a' w' h => ?_) (hstep i o ho a w hI hpre ⟨hUn i o ho hun', fun j oj hj ⟨e, he, hbe, hei⟩ => hUn j oj hj (by
        cases hlj : listed.getD j false with
        | false => rfl
        | true =>
          have := hC j oj hj hlj e he hbe
          rw [hei, hun'] at this
          cases this)⟩)
      obtain ⟨v, rfl, h1, h2, h3, h4⟩ := h
      refine ih _ _ _ (by simpa using hsz) (by have := left_set hsz hi' hun'; omega) h1 (fun j oj hj hlj => ?_) (fun j oj hj hlj e he hbe => ?_) (fun j oj hj hlj => ?_)
      · by_cases hji : j = i
        · subst hji
          exact h2
        · have hlj' : listed.getD j false = true := by
            rwa [Array.getD_eq_getD_getElem?, Array.getElem?_setIfInBounds_ne (Ne.symm hji), ← Array.getD_eq_getD_getElem?] at hlj
          refine hloc j oj hj a _ w' (fun d hd => ?_) (h3 j hji (hL j oj hj hlj'))
          have hne : ∀ m (om : Oper), ops[m]? = some om → listed.getD m false = true → om.dst = some d → o.dst ≠ some d := by
            intro m om hm hlm hdm hod
            have hmi : m ≠ i := by
              intro h
              subst h
              rw [hun'] at hlm
              cases hlm
            have := hbk.2
            rw [hod] at this
            simp only [Bool.and_eq_true, List.all_eq_true] at this
            have hx := this.2 m (List.mem_range.2 (Array.getElem?_eq_some_iff.1 hm).1)
            simp only [hm, Bool.or_eq_true, beq_iff_eq, hmi, false_or, bne_iff_ne] at hx
            exact hx hdm
          have hod : o.dst ≠ some d := by
            unfold slotsOf at hd
            rcases List.mem_append.1 hd with hd | hd
            · exact hne j oj hj hlj' (by simpa using hd)
            · obtain ⟨e, he, hde⟩ := List.mem_filterMap.1 hd
              split at hde
              · rename_i hbe
                have he' : e ∈ oj.after := by simpa using he
                have hle := hC j oj hj hlj' e he' hbe
                cases hom : ops[e.on]? with
                | none => rw [hom] at hde; cases hde
                | some om =>
                  rw [hom] at hde
                  exact hne e.on om hom hle hde
              · cases hde
          cases hdo : o.dst with
          | none => rfl
          | some d' =>
            simp only [Act.put, Array.getD_eq_getD_getElem?]
            rw [Array.getElem?_setIfInBounds_ne (fun h => hod (by rw [hdo, h]))]
      · have hset : ∀ m, (listed.setIfInBounds i true).getD m false = true ↔ m = i ∨ listed.getD m false = true := by
          intro m
          by_cases hmi : m = i
          · subst hmi
            rw [Array.getD_eq_getD_getElem?, Array.getElem?_setIfInBounds_self]
            simp [show m < listed.size by omega]
          · rw [Array.getD_eq_getD_getElem?, Array.getElem?_setIfInBounds_ne (Ne.symm hmi), ← Array.getD_eq_getD_getElem?]
            simp [hmi]
        rw [hset]
        rcases (hset j).1 hlj with rfl | hlj
        · rw [ho] at hj
          cases hj
          rw [Array.all_eq_true'] at haf
          have := haf e he
          simp only [hbe, Bool.not_true, Bool.false_or] at this
          exact .inr this
        · exact .inr (hC j oj hj hlj e he hbe)
      · by_cases hmi : j = i
        · subst hmi
          rw [Array.getD_eq_getD_getElem?, Array.getElem?_setIfInBounds_self] at hlj
          simp [show j < listed.size by omega] at hlj
        · rw [Array.getD_eq_getD_getElem?, Array.getElem?_setIfInBounds_ne (Ne.symm hmi), ← Array.getD_eq_getD_getElem?] at hlj
          exact h4 j hmi (hUn j oj hj hlj)
/-- The steps, one an operation. -/
def stepsA (P : Program) (ops : Array Oper) (Q : Exit → Act → World → Prop) (I : Act → World → Prop) (R : Nat → Act → World → Prop) (U : Nat → World → Prop) : Nat → List Oper → Prop
  | _, [] => True
  | i, o :: l => (∀ a w, I a w → (∀ e ∈ o.after, Region.binds .any e = true → R e.on a w) → Yet ops U i w →
      o.wp P a w (fun a' w' => ∃ v, a' = a.put o.dst v ∧ I a' w' ∧ R i a' w' ∧ (∀ j, j ≠ i → R j a w → R j a w') ∧ ∀ j, j ≠ i → U j w → U j w') Q) ∧ stepsA P ops Q I R U (i + 1) l
theorem stepsA_at (I : Act → World → Prop) (R : Nat → Act → World → Prop) (U : Nat → World → Prop) : ∀ (l : List Oper) (k : Nat), stepsA P ops Q I R U k l → ∀ j (o : Oper), l[j]? = some o → ∀ a w, I a w → (∀ e ∈ o.after, Region.binds .any e = true → R e.on a w) → Yet ops U (k + j) w →
      o.wp P a w (fun a' w' => ∃ v, a' = a.put o.dst v ∧ I a' w' ∧ R (k + j) a' w' ∧ (∀ j', j' ≠ k + j → R j' a w → R j' a w') ∧ ∀ j', j' ≠ k + j → U j' w → U j' w') Q := by
  intro l
  induction l with
  | nil => intro k _ j o h; simp at h
  | cons x l ih =>
    intro k h j o hj
    cases j with
    | zero =>
      simp only [List.getElem?_cons_zero, Option.some.injEq] at hj
      subst hj
      exact h.1
    | succ j =>
      simp only [List.getElem?_cons_succ] at hj
      have := ih (k + 1) h.2 j o hj
      rwa [show k + 1 + j = k + (j + 1) by omega] at this
/-- A word speaks of its own slots alone, one an operation. -/
def locsA (ops : Array Oper) (R : Nat → Act → World → Prop) : Nat → List Oper → Prop
  | _, [] => True
  | i, o :: l => (∀ a a' w, (∀ d ∈ slotsOf ops o, a.tmps.getD d undef = a'.tmps.getD d undef) → R i a w → R i a' w) ∧ locsA ops R (i + 1) l
theorem locsA_at (R : Nat → Act → World → Prop) : ∀ (l : List Oper) (k : Nat), locsA ops R k l → ∀ j (o : Oper), l[j]? = some o → ∀ a a' w, (∀ d ∈ slotsOf ops o, a.tmps.getD d undef = a'.tmps.getD d undef) → R (k + j) a w → R (k + j) a' w := by
  intro l
  induction l with
  | nil => intro k _ j o h; simp at h
  | cons x l ih =>
    intro k h j o hj
    cases j with
    | zero =>
      simp only [List.getElem?_cons_zero, Option.some.injEq] at hj
      subst hj
      exact h.1
    | succ j =>
      simp only [List.getElem?_cons_succ] at hj
      have := ih (k + 1) h.2 j o hj
      rwa [show k + 1 + j = k + (j + 1) by omega] at this
end
/-- **The region.** -/
theorem wp_region_postsA {P : Program} {id : Nat} {Q : Exit → Act → World → Prop} {a : Act} {w : World} {l : List Oper} (N : Nat) (I : Act → World → Prop) (R : Nat → Act → World → Prop) (U : Nat → World → Prop)
    (hm : P.follows .mixedOrders = true) (hB : postB N l.toArray = true) (hN : ∀ a w, I a w → a.tmps.size = N) (hloc : locsA l.toArray R 0 l) (h0 : ∀ u, Kept Nil w u → I a u ∧ ∀ j, U j u) (hs : stepsA P l.toArray Q I R U 0 l)
    (hend : ∀ a w, I a w → (∀ i (o : Oper), l[i]? = some o → R i a w) → wpList P l.toArray Q [] a w) : (Code.region id l.toArray true).wp P Q a w := by
  refine wp_region_any hm ?_
  refine postsA_any hB I R U hN (fun j o ho => ?_) (fun i o ho => ?_) (fun a w h1 h2 => hend a w h1 fun i o hi => h2 i o (by simpa using hi)) _ _ _ _ (by simp) ?_ (h0 _ (Kept.refl Nil w).drew).1 (fun i o ho hl => ?_) (fun i o ho hl => ?_) (fun j _ _ _ => (h0 _ (Kept.refl Nil w).drew).2 j)
  · have := locsA_at R l 0 hloc j o (by simpa using ho)
    simpa only [Nat.zero_add] using this
  · have := stepsA_at I R U l 0 hs i o (by simpa using ho)
    simpa only [Nat.zero_add] using this
  · unfold leftN
    rw [List.countP_eq_length.2]
    · simp
    · intro i hi
      rw [getD_replicate_false]
      rfl
  · rw [getD_replicate_false] at hl
    cases hl
  · rw [getD_replicate_false] at hl
    cases hl
theorem wp_region_postsB {P : Program} {id : Nat} {Q : Exit → Act → World → Prop} {a : Act} {w : World} {l : List Oper} (N : Nat) (I : Act → Act → World → Prop) (R : Nat → Act → World → Prop) (U : Nat → World → Prop)
    (hm : P.follows .mixedOrders = true) (hB : postB N l.toArray = true) (hN : ∀ x w, I a x w → x.tmps.size = N) (hloc : locsA l.toArray R 0 l) (h0 : ∀ u, Kept Nil w u → I a a u ∧ ∀ j, U j u) (hs : stepsA P l.toArray Q (I a) R U 0 l)
    (hend : ∀ x w, I a x w → (∀ i (o : Oper), l[i]? = some o → R i x w) → wpList P l.toArray Q [] x w) : (Code.region id l.toArray true).wp P Q a w := wp_region_postsA N (I a) R U hm hB hN hloc h0 hs hend
/-- An act, by the slots that have turned. -/
theorem puts_get : ∀ (D : List (Nat × Value)) (a : Act), (D.map Prod.fst).Nodup → (∀ p ∈ D, p.1 < a.tmps.size) →
    (∀ p ∈ D, (D.foldl (fun b p => b.put (some p.1) p.2) a).tmps.getD p.1 undef = p.2) ∧ (∀ d, d ∉ D.map Prod.fst → (D.foldl (fun b p => b.put (some p.1) p.2) a).tmps.getD d undef = a.tmps.getD d undef) ∧
    (D.foldl (fun b p => b.put (some p.1) p.2) a).tmps.size = a.tmps.size ∧ (D.foldl (fun b p => b.put (some p.1) p.2) a).defers = a.defers := by
  intro D
  induction D with
  | nil => intro a _ _; exact ⟨fun p hp => (by cases hp), fun d _ => rfl, rfl, rfl⟩
  | cons x D ih =>
    intro a hnd hlt
    obtain ⟨hx, hnd'⟩ := List.nodup_cons.1 hnd
    have hsz : (a.put (some x.1) x.2).tmps.size = a.tmps.size := put_size _ _ _
    obtain ⟨h1, h2, h3, h4⟩ := ih (a.put (some x.1) x.2) hnd' (fun p hp => by rw [hsz]; exact hlt p (List.mem_cons_of_mem _ hp))
    refine ⟨fun p hp => ?_, fun d hd => ?_, h3.trans hsz, h4⟩
    · rcases List.mem_cons.1 hp with rfl | hp
      · show (D.foldl _ (a.put (some p.1) p.2)).tmps.getD p.1 undef = p.2
        rw [h2 p.1 hx]
        simp only [Act.put, Array.getD_eq_getD_getElem?, Array.getElem?_setIfInBounds_self]
        rw [if_pos (hlt p (List.mem_cons_self ..))]
        rfl
      · exact h1 p hp
    · have hd' : d ≠ x.1 ∧ d ∉ D.map Prod.fst := by simpa using hd
      show (D.foldl _ (a.put (some x.1) x.2)).tmps.getD d undef = _
      rw [h2 d hd'.2]
      simp only [Act.put, Array.getD_eq_getD_getElem?]
      rw [Array.getElem?_setIfInBounds_ne (Ne.symm hd'.1)]
theorem act_eq (a' a : Act) (D : List (Nat × Value)) (hsz : a'.tmps.size = a.tmps.size) (hdf : a'.defers = a.defers) (hnd : (D.map Prod.fst).Nodup) (hlt : ∀ p ∈ D, p.1 < a.tmps.size)
    (hin : ∀ p ∈ D, a'.tmps.getD p.1 undef = p.2) (hout : ∀ d, d ∉ D.map Prod.fst → a'.tmps.getD d undef = a.tmps.getD d undef) : a' = D.foldl (fun b p => b.put (some p.1) p.2) a := by
  obtain ⟨h1, h2, h3, h4⟩ := puts_get D a hnd hlt
  have ht : a'.tmps = (D.foldl (fun b p => b.put (some p.1) p.2) a).tmps := by
    apply Array.ext (hsz.trans h3.symm)
    intro i hi1 hi2
    have key : a'.tmps.getD i undef = (D.foldl (fun b p => b.put (some p.1) p.2) a).tmps.getD i undef := by
      by_cases hm : i ∈ D.map Prod.fst
      · obtain ⟨p, hp, rfl⟩ := List.mem_map.1 hm
        rw [hin p hp, h1 p hp]
      · rw [hout i hm, h2 i hm]
    rw [Array.getD_eq_getD_getElem?, Array.getD_eq_getD_getElem?, Array.getElem?_eq_getElem hi1, Array.getElem?_eq_getElem hi2] at key
    exact key
  cases a'
  generalize D.foldl (fun b p => b.put (some p.1) p.2) a = b at *
  cases b
  simp only at ht h4 hdf
  subst ht
  rw [hdf, h4]
end Go.Proofs.YtiehmpiaddjhiaaDoor
/- Regions in free order whose operations have known values; each load of a cell that is stored comes before its store. Nothing of the program is named here. -/
namespace Go.Proofs.YtiehmpiaddjhiaaDoor
open Go.RowKit Go.Sort
set_option linter.unusedVariables false

/-- A store of the region: which operation, block, field, what stood there, what will. -/
structure Sto where
  i : Nat
  g : Nat
  f : Nat
  x : Value
  y : Value
def cR (V : List (Value → Prop)) (S : List Sto) (i : Nat) (v : Value) (u : World) : Prop := V.getD i (fun _ => True) v ∧ ∀ e ∈ S, e.i = i → u.cell? ⟨e.g, e.f, none⟩ = some e.y
def cU (S : List Sto) (j : Nat) (u : World) : Prop := ∀ e ∈ S, e.i = j → u.cell? ⟨e.g, e.f, none⟩ = some e.x
structure cI (D : List Nat) (m : Nat) (x y : Value) (K : World → Prop) (a0 a : Act) (u : World) : Prop where
  size : a.tmps.size = a0.tmps.size
  defs : a.defers = a0.defers
  fr : ∀ k, k ∉ D → a.tmps.getD k undef = a0.tmps.getD k undef
  mv : a.eval (.tmp m) = x ∨ a.eval (.tmp m) = y
  inv : K u
section
variable {P : Program} {D : List Nat} {m : Nat} {x y : Value} {K : World → Prop} {a0 a : Act} {u : World}
theorem cI.put (h : cI D m x y K a0 a u) (k : Nat) (v : Value) (hk : k ∈ D) (hm : k ≠ m) : cI D m x y K a0 (a.put (some k) v) u where
  size := by rw [put_size]; exact h.size
  defs := h.defs
  fr := fun j hj => (eval_put a k v j (fun e => hj (e ▸ hk))).trans (h.fr j hj)
  mv := by rw [eval_put _ _ _ _ hm]; exact h.mv
  inv := h.inv
theorem cI.putm (h : cI D m x y K a0 a u) (hk : m ∈ D) (hlt : m < a0.tmps.size) : cI D m x y K a0 (a.put (some m) y) u where
  size := by rw [put_size]; exact h.size
  defs := h.defs
  fr := fun j hj => (eval_put a m y j (fun e => hj (e ▸ hk))).trans (h.fr j hj)
  mv := .inr (by
    simp only [Act.put, Act.eval, Array.getD_eq_getD_getElem?]
    rw [Array.getElem?_setIfInBounds_self_of_lt (by rw [h.size]; exact hlt)]
    rfl)
  inv := h.inv
end
section
variable {P : Program} {o : Oper} {a : Act} {u : World} {D : List Nat} {m : Nat} {x y : Value} {K : World → Prop} {a0 : Act} {V : List (Value → Prop)} {S : List Sto} {Q : Exit → Act → World → Prop} {i : Nat}
theorem c_pure (hI : cI D m x y K a0 a u) (v : Value) (h : (execOp a.eval o).run P u = .ok (.value v) u) (k : Nat) (hd : o.dst = some k) (hk : D.contains k = true) (hm : (k == m) = false) (hV : V.getD i (fun _ => True) v) (hS : (S.all fun e => e.i != i) = true) :
    o.wp P a u (fun a' w' => ∃ v, a' = a.put o.dst v ∧ cI D m x y K a0 a' w' ∧ (cR V S i (if o.dst.isSome then v else undef) w') ∧ (∀ j x, j ≠ i → cR V S j x u → cR V S j x w') ∧ ∀ j, j ≠ i → cU S j u → cU S j w') Q := by
  refine step_pure v h (by rw [hd]; rfl) (by rw [hd]; exact hI.put k v (by simpa using hk) (by simpa using hm)) ⟨hV, fun e he hi => ?_⟩
  have := List.all_eq_true.1 hS e he
  simp [hi] at this
theorem c_mv (hI : cI D m x y K a0 a u) (h : (execOp a.eval o).run P u = .ok (.value y) u) (hd : o.dst = some m) (hk : D.contains m = true) (hlt : m < a0.tmps.size) (hV : V.getD i (fun _ => True) y) (hS : (S.all fun e => e.i != i) = true) :
    o.wp P a u (fun a' w' => ∃ v, a' = a.put o.dst v ∧ cI D m x y K a0 a' w' ∧ (cR V S i (if o.dst.isSome then v else undef) w') ∧ (∀ j x, j ≠ i → cR V S j x u → cR V S j x w') ∧ ∀ j, j ≠ i → cU S j u → cU S j w') Q := by
  refine step_pure y h (by rw [hd]; rfl) (by rw [hd]; exact hI.putm (by simpa using hk) hlt) ⟨hV, fun e he hi => ?_⟩
  have := List.all_eq_true.1 hS e he
  simp [hi] at this
theorem c_cell {u u' : World} {g f g' f' : Nat} {T : TypeId} {cs : List Value} {v z : Value} (hb : Blo u g T cs.toArray) (hf : f < cs.length) (hb' : Blo u' g T (cs.take f ++ [v] ++ cs.drop (f + [v].length)).toArray) (hk : Kept (One g) u u') (hne : g' ≠ g ∨ f' ≠ f) (hc : u.cell? ⟨g', f', none⟩ = some z) : u'.cell? ⟨g', f', none⟩ = some z := by
  by_cases hg : g' = g
  · subst hg
    have hff : f' ≠ f := by rcases hne with h | h; exact absurd rfl h; exact h
    rw [hb.cell] at hc
    rw [hb'.cell]
    have e : cs.take f ++ [v] ++ cs.drop (f + [v].length) = cs.set f v := by rw [List.set_eq_take_append_cons_drop, if_pos hf]; simp
    rw [e]
    simp only [List.getElem?_toArray] at hc ⊢
    rw [List.getElem?_set_ne (Ne.symm hff)]
    exact hc
  · exact hk.cell hc (fun h => hg h)
theorem c_new {u' : World} {g f : Nat} {T : TypeId} {cs : List Value} {v : Value} (hf : f < cs.length) (hb' : Blo u' g T (cs.take f ++ [v] ++ cs.drop (f + [v].length)).toArray) : u'.cell? ⟨g, f, none⟩ = some v := by
  rw [hb'.cell]
  have e : cs.take f ++ [v] ++ cs.drop (f + [v].length) = cs.set f v := by rw [List.set_eq_take_append_cons_drop, if_pos hf]; simp
  rw [e]
  simp [hf]
theorem c_st (hI : cI D m x y K a0 a u) (ty : TypeId) (p q : Operand) (ho : o.op = .store ty p q) (hd : o.dst = none) {g f : Nat} {z : Value} (hp : a.eval p = pAt g f) (hq : a.eval q = z) (hz : z.cells = #[z]) (hz1 : z.oneCell' = true) (hi : (P.info? ty).map (·.size) = some 1) {T : TypeId} {cs : List Value} (hb : Blo u g T cs.toArray) (hf : f < cs.length)
    (hS : ∀ e ∈ S, (e.i = i ∧ e.g = g ∧ e.f = f ∧ e.y = z) ∨ (e.i ≠ i ∧ (g ≠ e.g ∨ f ≠ e.f))) (hV : V.getD i (fun _ => True) undef)
    (hK : ∀ u', Blo u' g T (cs.take f ++ [z] ++ cs.drop (f + [z].length)).toArray → Kept (One g) u u' → u'.heap.size = u.heap.size → K u') :
    o.wp P a u (fun a' w' => ∃ v, a' = a.put o.dst v ∧ cI D m x y K a0 a' w' ∧ (cR V S i (if o.dst.isSome then v else undef) w') ∧ (∀ j x, j ≠ i → cR V S j x u → cR V S j x w') ∧ ∀ j, j ≠ i → cU S j u → cU S j w') Q := by
  refine step_st ty p q ho hd hp [z] hq hz hi hb (by rw [List.length_singleton]; omega) (by intro t ht; rw [List.mem_singleton] at ht; rw [ht]; exact hz1) fun u' hbl hk hsz => ?_
  refine ⟨⟨hI.size, hI.defs, hI.fr, hI.mv, hK u' hbl hk hsz⟩, ⟨hV, fun e he hei => ?_⟩, fun j t hj hr => ⟨hr.1, fun e he hej => ?_⟩, fun j hj hu e he hej => ?_⟩
  · rcases hS e he with ⟨_, rfl, rfl, rfl⟩ | ⟨h, _⟩
    · exact c_new hf hbl
    · exact absurd hei h
  · rcases hS e he with ⟨h, _⟩ | ⟨_, h⟩
    · exact absurd (hej.symm.trans h) hj
    · exact c_cell hb hf hbl hk (by rcases h with h | h; exact .inl (Ne.symm h); exact .inr (Ne.symm h)) (hr.2 e he hej)
  · rcases hS e he with ⟨h, _⟩ | ⟨_, h⟩
    · exact absurd (hej.symm.trans h) hj
    · exact c_cell hb hf hbl hk (by rcases h with h | h; exact .inl (Ne.symm h); exact .inr (Ne.symm h)) (hu e he hej)
/-- What stood in a cell that a later store turns. -/
theorem c_old {ops : Array Oper} {k j : Nat} (hU : Yet ops (cU S) k u) (oj : Oper) (hj : ops[j]? = some oj) (he : ∃ e ∈ oj.after, Region.binds .any e = true ∧ e.on = k) (e : Sto) (hm : e ∈ S) (hi : e.i = j) : u.cell? ⟨e.g, e.f, none⟩ = some e.x := hU.2 j oj hj he e hm hi
theorem exec_mv2 (x : Operand) (ho : o.op = .move x) {v : Value} (hx : a.eval x = v) : (execOp a.eval o).run P u = .ok (.value v) u := by
  unfold execOp
  simp only [ho, hx, Sem.run_pure]
theorem exec_as2 (x : Operand) (ho : o.op = .assign x) {v : Value} (hx : a.eval x = v) : (execOp a.eval o).run P u = .ok (.value v) u := by
  unfold execOp
  simp only [ho, hx, Sem.run_pure]
theorem exec_bin2 (op : BinOp) (t t' : TypeId) (p q : Operand) (ho : o.op = .binOp op t p q t') {v v' r : Value} (hx : a.eval p = v) (hy : a.eval q = v') (hr : ((do eqGuard op t p q v v'; binOp op t v v') : Sem Value).run P u = .ok r u) : (execOp a.eval o).run P u = .ok (.value r) u := by
  unfold execOp
  simp only [ho, hx, hy]
  rw [Sem.run_bind, hr]
  rfl
theorem exec_len2 (p : Operand) (t : TypeId) (ho : o.op = .call { callee := .builtin .len, args := #[p], argTypes := #[t] }) {v r : Value} (hx : a.eval p = v) (hr : (Builtin.len_ #[t] o.type #[v]).run P u = .ok r u) : (execOp a.eval o).run P u = .ok (.value r) u := by
  unfold execOp
  simp only [ho, resolve, invoke, builtin, Sem.run_bind, Sem.run_pure, Result.andThen_ok, List.map_toArray, List.map_cons, List.map_nil, hx, hr]
theorem exec_cutS (t : TypeId) (p h : Operand) (ho : o.op = .slice t p none (some h) none) {s : ByteArray} {m : Nat} {r : Value} (ht : P.underlying t = some .string) (hx : a.eval p = .string s) (hh : a.eval h = .int .i64 (m : Int)) (hr : (Instr.slice t (.string s) none (some (.int .i64 (m : Int))) none).run P u = .ok r u) : (execOp a.eval o).run P u = .ok (.value r) u := by
  unfold execOp
  simp only [ho, hx, hh, Option.map_none, Option.map_some, Instr.sliceAt, Sem.run_bind, run_underlying ht, Result.andThen_ok, hr, Sem.run_pure]
end
theorem wp_nameC2 {P : Program} {c : Code} {Q : Exit → Act → World → Prop} {a : Act} {w : World} (h : ∀ A, A = a → Code.wp P c Q A w) : Code.wp P c Q a w := h a rfl
end Go.Proofs.YtiehmpiaddjhiaaDoor
