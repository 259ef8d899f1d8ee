/- Texts that belong together, one behind the other: RaHs, RegY. Conditions: those of each. -/
import Derived.Test.YtiehmpiaddjhiaaDoorMg14
import Derived.Test.YtiehmpiaddjhiaaDoorMg11
import Derived.Test.YtiehmpiaddjhiaaDoorMg13
/- Package rate: Has. -/
namespace Go.Proofs.YtiehmpiaddjhiaaDoor
open Go.RowKit Go.Sort
set_option linter.unusedVariables false

set_option maxRecDepth 100000 in
theorem has_yes (g : Nat) (m : Bk) (hm : m.ok) (now : Int) (hn : -9223372036854775808 ≤ now ∧ now ≤ 9223372036854775807) (w : World) (hb : KB w g m) : Calls Tryd.prog 13 #[.pointer (some ⟨g, 0, none⟩), .int .i64 now] w fun e w' => e = .returned (.float .f64 (brM m now).l) ∧ KB w' g (brM m now) ∧ Kept (One g) w w' := by
  have HM := Lib.hid hm
  have HN := Lib.hid hn
  have hbr := bring_yes g m hm now hn w hb
  obtain ⟨c, hc⟩ : ∃ c, brM m now = c := ⟨_, rfl⟩
  rw [hc] at hbr ⊢
  have HBR := Lib.hid hbr
  clear hm hn hb hbr hc
  go_enter Tryd.func13, Tryd.ntmps13
  go_wp2_with (fail)
  refine HBR.out.mono ?_
  rintro e w1 ⟨rfl, hb, hk⟩
  have HB := Lib.hid hb
  have HK := Lib.hid hk
  clear hb hk
  have c2 := HB.out.c2
  dsimp only
  go_wp2_with (fail)
  go_ret
  exact ⟨rfl, HB.out, HK.out⟩
end Go.Proofs.YtiehmpiaddjhiaaDoor
/- Regions that draw their order, by what each operation leaves behind: what an operation finds may speak of the slots that are not yet written. Nothing of the program is named here. -/
namespace Go.Proofs.YtiehmpiaddjhiaaDoor
open Go.RowKit Go.Sort
set_option linter.unusedVariables false

section
variable {P : Program} {ops : Array Oper} {Q : Exit → Act → World → Prop}
/-- What has not been done has not turned what its forerunners read. -/
def YetY (ops : Array Oper) (U : Nat → Act → World → Prop) (i : Nat) (a : Act) (w : World) : Prop := U i a w ∧ ∀ j (o : Oper), ops[j]? = some o → (∃ e ∈ o.after, Region.binds .any e = true ∧ e.on = i) → U j a w
def UndoneY (ops : Array Oper) (U : Nat → Act → World → Prop) (listed : Array Bool) (a : Act) (w : World) : Prop := ∀ j (o : Oper), ops[j]? = some o → listed.getD j false = false → U j a w
theorem postsY_any {N : Nat} (hB : postB N ops = true) (I : Act → World → Prop) (R : Nat → Act → World → Prop) (U : Nat → Act → World → Prop) (hN : ∀ a w, I a w → a.tmps.size = N)
    (hloc : ∀ j (o : Oper), ops[j]? = some o → ∀ a a' w, (∀ d ∈ slotsOf ops o, a.tmps.getD d undef = a'.tmps.getD d undef) → R j a w → R j a' w)
    (hstep : ∀ i (o : Oper), ops[i]? = some o → ∀ a w, I a w → (∀ e ∈ o.after, Region.binds .any e = true → R e.on a w) → YetY ops U i a w →
      o.wp P a w (fun a' w' => ∃ v, a' = a.put o.dst v ∧ I a' w' ∧ R i a' w' ∧ (∀ j, j ≠ i → R j a w → R j a w') ∧ ∀ j, j ≠ i → U j a w → U j a' w') Q)
    (hend : ∀ a w, I a w → (∀ i (o : Oper), ops[i]? = some o → R i a w) → Q .normal a w) :
    ∀ (fuel : Nat) (listed : Array Bool) (a : Act) (w : World), listed.size = ops.size → leftN ops listed = fuel → I a w → LeftA ops R listed a w → Clsd ops listed → UndoneY ops U listed a w → wpAny P .any ops Q fuel listed a w := by
  intro fuel
  induction fuel with
  | zero =>
    intro listed a w hsz hl hI hL hC hUn
    have hz := left_zero hl
    refine ⟨?_, hend a w hI fun i o ho => hL i o ho (hz i ?_)⟩
    · unfold Region.ready
      rw [List.filter_eq_nil_iff]
      intro i hi
      have hi' := List.mem_range.1 hi
      have := hz i hi'
      have e : listed.getD i true = true := by
        rw [Array.getD_eq_getD_getElem?] at this ⊢
        rw [Array.getElem?_eq_getElem (by omega)] at this ⊢
        exact this
      simp [e]
    · exact (Array.getElem?_eq_some_iff.1 ho).1
  | succ fuel ih =>
    intro listed a w hsz hl hI hL hC hUn
    refine ⟨fun hnil => ?_, fun i hi => ?_⟩
    · refine hend a w hI fun i o ho => hL i o ho ?_
      cases hle : listed.getD i false with
      | true => rfl
      | false => exact absurd hnil (least_ready hB hsz i (Array.getElem?_eq_some_iff.1 ho).1 hle)
    · unfold Region.ready at hi
      rw [List.mem_filter] at hi
      obtain ⟨hi1, hi2⟩ := hi
      have hi' := List.mem_range.1 hi1
      obtain ⟨o, ho⟩ : ∃ o, ops[i]? = some o := ⟨ops[i], Array.getElem?_eq_getElem hi'⟩
      simp only [ho, Bool.and_eq_true, Bool.not_eq_true', Option.map_some, Option.getD_some] at hi2
      obtain ⟨hun, haf⟩ := hi2
      have hun' : listed.getD i false = false := by
        rw [Array.getD_eq_getD_getElem?] at hun ⊢
        rw [Array.getElem?_eq_getElem (by omega)] at hun ⊢
        exact hun
      have hb := hB
      unfold postB at hb
      rw [List.all_eq_true] at hb
      have hbk := hb i hi1
      simp only [ho, Bool.and_eq_true] at hbk
      have hgd : Region.wanted o (yielded ops a.tmps) = true := by
        have := hbk.1.2
        unfold Region.wanted
        cases hg : o.guard with
        | none => rfl
        | some g => rw [hg] at this; cases this
      unfold wpOp
      simp only [ho, hgd, if_true]
      refine .inl ?_
      have hpre : ∀ e ∈ o.after, Region.binds .any e = true → R e.on a w := by
        intro e he hbd
        rw [Array.all_eq_true'] at haf
        have := haf e he
        simp only [hbd, Bool.not_true, Bool.false_or] at this
        have hlt : e.on < ops.size := by
          have h1 := hbk.1.1
          rw [Array.all_eq_true'] at h1
          have h2 := h1 e he
          simp only [hbd, Bool.not_true, Bool.false_or, decide_eq_true_eq] at h2
          omega
        exact hL _ _ (Array.getElem?_eq_getElem hlt) this
      refine Oper.wp_mono (fun a' w' h => ?_) (hstep i o ho a w hI hpre ⟨hUn i o ho hun', fun j oj hj ⟨e, he, hbe, hei⟩ => hUn j oj hj (by
        cases hlj : listed.getD j false with
        | false => rfl
        | true =>
          have := hC j oj hj hlj e he hbe
          rw [hei, hun'] at this
          cases this)⟩)
      obtain ⟨v, rfl, h1, h2, h3, h4⟩ := h
      refine ih _ _ _ (by simpa using hsz) (by have := left_set hsz hi' hun'; omega) h1 (fun j oj hj hlj => ?_) (fun j oj hj hlj e he hbe => ?_) (fun j oj hj hlj => ?_)
      · by_cases hji : j = i
        · subst hji
          exact h2
        · have hlj' : listed.getD j false = true := by
            rwa [Array.getD_eq_getD_getElem?, Array.getElem?_setIfInBounds_ne (Ne.symm hji), ← Array.getD_eq_getD_getElem?] at hlj
          refine hloc j oj hj a _ w' (fun d hd => ?_) (h3 j hji (hL j oj hj hlj'))
          have hne : ∀ m (om : Oper), ops[m]? = some om → listed.getD m false = true → om.dst = some d → o.dst ≠ some d := by
            intro m om hm hlm hdm hod
            have hmi : m ≠ i := by
              intro h
              subst h
              rw [hun'] at hlm
              cases hlm
            have := hbk.2
            rw [hod] at this
            simp only [Bool.and_eq_true, List.all_eq_true] at this
            have hx := this.2 m (List.mem_range.2 (Array.getElem?_eq_some_iff.1 hm).1)
            simp only [hm, Bool.or_eq_true, beq_iff_eq, hmi, false_or, bne_iff_ne] at hx
            exact hx hdm
          have hod : o.dst ≠ some d := by
            unfold slotsOf at hd
            rcases List.mem_append.1 hd with hd | hd
            · exact hne j oj hj hlj' (by simpa using hd)
            · obtain ⟨e, he, hde⟩ := List.mem_filterMap.1 hd
              split at hde
              · rename_i hbe
                have he' : e ∈ oj.after := by simpa using he
                have hle := hC j oj hj hlj' e he' hbe
                cases hom : ops[e.on]? with
                | none => rw [hom] at hde; cases hde
                | some om =>
                  rw [hom] at hde
                  exact hne e.on om hom hle hde
              · cases hde
          cases hdo : o.dst with
          | none => rfl
          | some d' =>
            simp only [Act.put, Array.getD_eq_getD_getElem?]
            rw [Array.getElem?_setIfInBounds_ne (fun h => hod (by rw [hdo, h]))]
      · have hset : ∀ m, (listed.setIfInBounds i true).getD m false = true ↔ m = i ∨ listed.getD m false = true := by
          intro m
          by_cases hmi : m = i
          · subst hmi
            rw [Array.getD_eq_getD_getElem?, Array.getElem?_setIfInBounds_self]
            simp [show m < listed.size by omega]
          · rw [Array.getD_eq_getD_getElem?, Array.getElem?_setIfInBounds_ne (Ne.symm hmi), ← Array.getD_eq_getD_getElem?]
            simp [hmi]
        rw [hset]
        rcases (hset j).1 hlj with rfl | hlj
        · rw [ho] at hj
          cases hj
          rw [Array.all_eq_true'] at haf
          have := haf e he
          simp only [hbe, Bool.not_true, Bool.false_or] at this
          exact .inr this
        · exact .inr (hC j oj hj hlj e he hbe)
      · by_cases hmi : j = i
        · subst hmi
          rw [Array.getD_eq_getD_getElem?, Array.getElem?_setIfInBounds_self] at hlj
          simp [show j < listed.size by omega] at hlj
        · rw [Array.getD_eq_getD_getElem?, Array.getElem?_setIfInBounds_ne (Ne.symm hmi), ← Array.getD_eq_getD_getElem?] at hlj
          exact h4 j hmi (hUn j oj hj hlj)
/-- The steps, one an operation. -/
def stepsY (P : Program) (ops : Array Oper) (Q : Exit → Act → World → Prop) (I : Act → World → Prop) (R : Nat → Act → World → Prop) (U : Nat → Act → World → Prop) : Nat → List Oper → Prop
  | _, [] => True
  | i, o :: l => (∀ a w, I a w → (∀ e ∈ o.after, Region.binds .any e = true → R e.on a w) → YetY ops U i a w →
      o.wp P a w (fun a' w' => ∃ v, a' = a.put o.dst v ∧ I a' w' ∧ R i a' w' ∧ (∀ j, j ≠ i → R j a w → R j a w') ∧ ∀ j, j ≠ i → U j a w → U j a' w') Q) ∧ stepsY P ops Q I R U (i + 1) l
theorem stepsY_at (I : Act → World → Prop) (R : Nat → Act → World → Prop) (U : Nat → Act → World → Prop) : ∀ (l : List Oper) (k : Nat), stepsY P ops Q I R U k l → ∀ j (o : Oper), l[j]? = some o → ∀ a w, I a w → (∀ e ∈ o.after, Region.binds .any e = true → R e.on a w) → YetY ops U (k + j) a w →
      o.wp P a w (fun a' w' => ∃ v, a' = a.put o.dst v ∧ I a' w' ∧ R (k + j) a' w' ∧ (∀ j', j' ≠ k + j → R j' a w → R j' a w') ∧ ∀ j', j' ≠ k + j → U j' a w → U j' a' w') Q := by
  intro l
  induction l with
  | nil => intro k _ j o h; simp at h
  | cons x l ih =>
    intro k h j o hj
    cases j with
    | zero =>
      simp only [List.getElem?_cons_zero, Option.some.injEq] at hj
      subst hj
      exact h.1
    | succ j =>
      simp only [List.getElem?_cons_succ] at hj
      have := ih (k + 1) h.2 j o hj
      rwa [show k + 1 + j = k + (j + 1) by omega] at this
end
/-- **The region.** -/
theorem wp_region_postsY {P : Program} {id : Nat} {Q : Exit → Act → World → Prop} {a : Act} {w : World} {l : List Oper} (N : Nat) (I : Act → World → Prop) (R : Nat → Act → World → Prop) (U : Nat → Act → World → Prop)
    (hm : P.follows .mixedOrders = true) (hB : postB N l.toArray = true) (hN : ∀ a w, I a w → a.tmps.size = N) (hloc : locsA l.toArray R 0 l) (h0 : ∀ u, Kept Nil w u → I a u ∧ ∀ j, U j a u) (hs : stepsY P l.toArray Q I R U 0 l)
    (hend : ∀ a w, I a w → (∀ i (o : Oper), l[i]? = some o → R i a w) → wpList P l.toArray Q [] a w) : (Code.region id l.toArray true).wp P Q a w := by
  refine wp_region_any hm ?_
  refine postsY_any hB I R U hN (fun j o ho => ?_) (fun i o ho => ?_) (fun a w h1 h2 => hend a w h1 fun i o hi => h2 i o (by simpa using hi)) _ _ _ _ (by simp) ?_ (h0 _ (Kept.refl Nil w).drew).1 (fun i o ho hl => ?_) (fun i o ho hl => ?_) (fun j _ _ _ => (h0 _ (Kept.refl Nil w).drew).2 j)
  · have := locsA_at R l 0 hloc j o (by simpa using ho)
    simpa only [Nat.zero_add] using this
  · have := stepsY_at I R U l 0 hs i o (by simpa using ho)
    simpa only [Nat.zero_add] using this
  · unfold leftN
    rw [List.countP_eq_length.2]
    · simp
    · intro i hi
      rw [getD_replicate_false]
      rfl
  · rw [getD_replicate_false] at hl
    cases hl
  · rw [getD_replicate_false] at hl
    cases hl
theorem wp_region_postsYB {P : Program} {id : Nat} {Q : Exit → Act → World → Prop} {a : Act} {w : World} {l : List Oper} (N : Nat) (I : Act → Act → World → Prop) (R : Nat → Act → World → Prop) (U : Nat → Act → World → Prop)
    (hm : P.follows .mixedOrders = true) (hB : postB N l.toArray = true) (hN : ∀ x w, I a x w → x.tmps.size = N) (hloc : locsA l.toArray R 0 l) (h0 : ∀ u, Kept Nil w u → I a a u ∧ ∀ j, U j a u) (hs : stepsY P l.toArray Q (I a) R U 0 l)
    (hend : ∀ x w, I a x w → (∀ i (o : Oper), l[i]? = some o → R i x w) → wpList P l.toArray Q [] x w) : (Code.region id l.toArray true).wp P Q a w := wp_region_postsY N (I a) R U hm hB hN hloc h0 hs hend
end Go.Proofs.YtiehmpiaddjhiaaDoor
