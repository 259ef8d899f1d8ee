/- Texts that belong together, one behind the other: RbE, RegY. Conditions: those of each. -/
import Derived.Test.YtiehmpiaddjhiaaDoorMg29
import Derived.Test.YtiehmpiaddjhiaaDoorMg19
import Derived.Test.YtiehmpiaddjhiaaDoorMg12
import Derived.Test.YtiehmpiaddjhiaaDoorMg14
/- tollref11: Wait. -/
namespace Go.Proofs.YtiehmpiaddjhiaaDoor
open Go.RowKit Go.Sort
set_option linter.unusedVariables false

set_option maxRecDepth 100000 in
set_option maxHeartbeats 4000000 in
theorem rwait_yes (m : Bk) (hm : m.ok) (n : Nat) (hn : n < 18446744073709551616) (w : World) : Calls Tryd.prog 15 #[bkv m, .float .f64 n] w fun e w' => e = .returned (waV (lsM (isSo (clB m) (clF n)) 41 0 1099511627777)) ∧ Kept Nil w w' := by
  have hP : KR (w.alloc (.cells (bkl m).toArray 29)) w.heap.size m := Blo.new w _ _
  have hk0 := (Kept.refl Nil w).alloc (.cells (bkl m).toArray 29)
  have HCL := Lib.hid (rcl_yes m hm)
  have HCN := Lib.hid (rclean_yes n hn)
  have hc := clB_cl hm
  have hnl := clF_le hn
  obtain ⟨R, hR⟩ : ∃ R, lsM (isSo (clB m) (clF n)) 41 0 1099511627777 = R := ⟨_, rfl⟩
  obtain ⟨hl1, hl2, hl3⟩ := wait_least hc (clF n) R hR
  rw [hR]
  generalize clB m = c at *
  generalize clF n = N at *
  have HAF := Lib.hid (fun t (ht : t < 18446744073709551616) => rafter_yes c hc t ht)
  have HLE := Lib.hid (show ∀ t, (FloatKind.f64.format.order (afM c t) N == some .gt || FloatKind.f64.format.order (afM c t) N == some .eq) = decide (N ≤ afM c t) from fun t => by
    have ha := Nat.le_trans (afM_le hc t) hc.b
    rw [gt_cl ha hnl, eq_cl ha hnl]
    by_cases h1 : N < afM c t
    · rw [decide_eq_true h1, decide_eq_true (Nat.le_of_lt h1)]; rfl
    · by_cases h2 : afM c t = N
      · rw [decide_eq_true h2, decide_eq_true (Nat.le_of_eq h2.symm), Bool.or_true]
      · rw [decide_eq_false h1, decide_eq_false h2, decide_eq_false (by omega)]; rfl)
  have HLT := Lib.hid (lt_cl (Nat.le_trans (afM_le hc 1099511627776) hc.b) hnl)
  have HUP := Lib.hid (show ∀ t, t ≤ 1099511627776 → N ≤ afM c t → R ≤ t from fun t ht h => by
    rcases Nat.lt_or_ge t R with h1 | h1
    · have := hl2 t h1; omega
    · exact h1)
  have HDN := Lib.hid (show ∀ t, t ≤ 1099511627776 → ¬ N ≤ afM c t → t < R from fun t ht h => by
    rcases Nat.lt_or_ge t R with h1 | h1
    · exact h1
    · have h2 := hl3 (by omega)
      have h3 := af_mono hc R t h1 (by omega)
      omega)
  clear hm hn hc hnl hR hl1 hl2 hl3
  go_enter Tryd.func15, Tryd.ntmps15
  go_upto_region 1 with (fail)
  refine wp_nameE (fun W => KR W w.heap.size m ∧ Kept Nil w W) ⟨hP, hk0⟩ ?_
  clear hP hk0
  rintro W ⟨hP, hk⟩
  obtain ⟨g1, hg1⟩ : ∃ g, w.heap.size = g := ⟨_, rfl⟩
  rw [hg1] at hP ⊢
  have HW := Lib.hid (show w.heap.size ≤ g1 by omega)
  have HP := Lib.hid hP
  have HK := Lib.hid hk
  clear hP hk hg1
  go_wp2_with (first
    | (refine wpList_ld rfl _ (.tmp 2) rfl g1 0 rfl (bkl m) HP.out.all _ Tryd.underlying29 rfl (infBr _) ?_; simp only [Act.put, List.setIfInBounds_toArray, List.set_cons_succ, List.set_cons_zero])
    | fail)
  refine (HCL.out _).mono ?_
  rintro e w1 ⟨rfl, hk⟩
  have HP := Lib.hid (HP.out.kept hk (fun hf => hf))
  have HK := Lib.hid (HK.out.then hk)
  clear hk
  dsimp only
  go_upto_region 2 with (first
    | (refine wpList_st rfl 29 (.tmp 2) _ rfl g1 0 rfl (bkl c) _ rfl rfl (infBr _) 29 _ HP.out (by show 0 + 4 ≤ 4; decide) (bkl_one _) ?_; intro w2 hb2 hk2 hz2; simp only [Act.put, List.setIfInBounds_toArray, List.set_cons_succ, List.set_cons_zero])
    | fail)
  have HP := Lib.hid (show KR w2 g1 c from hb2)
  have HK := Lib.hid (HK.out.fresh hk2 (fun i hi => by have h1 := HW.out; have h2 : i = g1 := hi; omega))
  clear hb2 hk2 hz2
  go_wp2_with (fail)
  refine (HCN.out _).mono ?_
  rintro e w3 ⟨rfl, hk⟩
  have HP := Lib.hid (HP.out.kept hk (fun hf => hf))
  have HK := Lib.hid (HK.out.then hk)
  clear hk
  dsimp only
  go_wp2_with (first
    | (refine wpList_ld rfl _ (.tmp 2) rfl g1 0 rfl (bkl c) HP.out.all _ Tryd.underlying29 rfl (infBr _) ?_; simp only [Act.put, List.setIfInBounds_toArray, List.set_cons_succ, List.set_cons_zero])
    | fail)
  refine (HAF.out 1099511627776 (by decide) _).mono ?_
  rintro e w4 ⟨rfl, hk⟩
  have HP := Lib.hid (HP.out.kept hk (fun hf => hf))
  have HK := Lib.hid (HK.out.then hk)
  clear hk
  have hlt := HLT.out
  dsimp only
  by_cases hmx : afM c 1099511627776 < N
  · rw [decide_eq_true hmx] at hlt
    have HR := Lib.hid (show 1099511627776 < R from HDN.out 1099511627776 (Nat.le_refl _) (by omega))
    clear hmx
    go_wp2_with (fail)
    go_ret2
    exact ⟨by unfold waV; rw [if_pos HR.out]; rfl, HK.out⟩
  · rw [decide_eq_false hmx] at hlt
    have HR := Lib.hid (show R ≤ 1099511627776 from HUP.out 1099511627776 (Nat.le_refl _) (by omega))
    clear hmx
    go_wp2_with (fail)
    go_loopw [6, 7] (fun l h wr => ∃ lo hi : Nat, l = .int .u64 (lo : Int) ∧ h = .int .u64 (hi : Int) ∧ lo ≤ R ∧ R ≤ hi ∧ hi ≤ 1099511627776 ∧ KR wr g1 c ∧ Kept Nil w wr) (fun l h _ => (intOf h).toNat - (intOf l).toNat)
    case atStart => exact ⟨0, 1099511627776, rfl, rfl, Nat.zero_le _, HR.out, Nat.le_refl _, HP.out, HK.out⟩
    case round =>
      obtain ⟨lo, hi, rfl, rfl, h1, h2, h3, hb, hk⟩ := hrel
      have HP := Lib.hid hb
      have HK := Lib.hid hk
      clear hb hk hlt
      by_cases hlh : lo < hi
      · obtain ⟨d, hd⟩ : ∃ d, (hi - lo) / 2 = d := ⟨_, rfl⟩
        have hdd : lo + d < hi := by omega
        have hw1 : IntKind.u64.wrap ((hi : Int) - (lo : Int)) = ((hi - lo : Nat) : Int) := by rw [IntWalk.u64_in _ (by omega)]; omega
        have hq : (((hi - lo : Nat) : Int)).tdiv 2 = (d : Int) := by
          show ((hi - lo : Nat) : Int).tdiv ((2 : Nat) : Int) = _
          rw [← Int.ofNat_tdiv, hd]
        have hq' : ((hi : Int) - (lo : Int)).tdiv 2 = (d : Int) := by
          rw [show (hi : Int) - (lo : Int) = ((hi - lo : Nat) : Int) by omega]
          exact hq
        have hle := HLE.out (lo + d)
        have H1 := Lib.hid h1
        have H2 := Lib.hid h2
        clear hd h1 h2
        go_upto_region 9 with (fail)
        rw [show (lo : Int) + (d : Int) = ((lo + d : Nat) : Int) by omega]
        clear hw1 hq hq'
        go_wp2_with (first
          | (refine wpList_ld rfl _ (.tmp 2) rfl g1 0 rfl (bkl c) HP.out.all _ Tryd.underlying29 rfl (infBr _) ?_; simp only [Act.put, List.setIfInBounds_toArray, List.set_cons_succ, List.set_cons_zero])
          | fail)
        first | (refine (HAF.out (lo + d) (by omega) _).mono ?_) | (rw [show (lo : Int) + (d : Int) = ((lo + d : Nat) : Int) by omega]; refine (HAF.out (lo + d) (by omega) _).mono ?_)
        rintro e w5 ⟨rfl, hk⟩
        have HP := Lib.hid (HP.out.kept hk (fun hf => hf))
        have HK := Lib.hid (HK.out.then hk)
        clear hk
        have HU := Lib.hid (HUP.out (lo + d) (by omega))
        have HDD := Lib.hid (HDN.out (lo + d) (by omega))
        generalize afM c (lo + d) = AF at *
        dsimp only
        by_cases hge : N ≤ AF
        · rw [decide_eq_true hge] at hle
          have h4 := HU.out hge
          clear hge
          go_wp2_with (fail)
          go_roundw
          case rel => exact ⟨lo, lo + d, rfl, by go_num, H1.out, h4, by omega, HP.out, HK.out⟩
          case measure => simp [intOf]; omega
        · rw [decide_eq_false hge] at hle
          have h4 := HDD.out hge
          clear hge
          go_wp2_with (fail)
          go_roundw
          case rel => exact ⟨lo + d + 1, hi, by go_num, rfl, h4, H2.out, h3, HP.out, HK.out⟩
          case measure => simp [intOf]; omega
      · obtain rfl : R = lo := by omega
        obtain rfl : R = hi := by omega
        have hcv : IntKind.i64.wrap (R : Int) = (R : Int) := IntWalk.i64_in _ (by omega)
        clear h1 h2 hlh
        go_wp2_with (fail)
        go_ret2
        exact ⟨by unfold waV; rw [if_neg (Nat.not_lt.2 HR.out)]; rfl, HK.out⟩
end Go.Proofs.YtiehmpiaddjhiaaDoor
/- Regions that draw their order, by what each operation leaves behind: what an operation finds may speak of the slots that are not yet written. Nothing of the program is named here. -/
namespace Go.Proofs.YtiehmpiaddjhiaaDoor
open Go.RowKit Go.Sort
set_option linter.unusedVariables false

section
variable {P : Program} {ops : Array Oper} {Q : Exit → Act → World → Prop}
/-- What has not been done has not turned what its forerunners read. -/
def YetY (ops : Array Oper) (U : Nat → Act → World → Prop) (i : Nat) (a : Act) (w : World) : Prop := U i a w ∧ ∀ j (o : Oper), ops[j]? = some o → (∃ e ∈ o.after, Region.binds .any e = true ∧ e.on = i) → U j a w
def UndoneY (ops : Array Oper) (U : Nat → Act → World → Prop) (listed : Array Bool) (a : Act) (w : World) : Prop := ∀ j (o : Oper), ops[j]? = some o → listed.getD j false = false → U j a w
theorem postsY_any {N : Nat} (hB : postB N ops = true) (I : Act → World → Prop) (R : Nat → Act → World → Prop) (U : Nat → Act → World → Prop) (hN : ∀ a w, I a w → a.tmps.size = N)
    (hloc : ∀ j (o : Oper), ops[j]? = some o → ∀ a a' w, (∀ d ∈ slotsOf ops o, a.tmps.getD d undef = a'.tmps.getD d undef) → R j a w → R j a' w)
    (hstep : ∀ i (o : Oper), ops[i]? = some o → ∀ a w, I a w → (∀ e ∈ o.after, Region.binds .any e = true → R e.on a w) → YetY ops U i a w →
      o.wp P a w (fun a' w' => ∃ v, a' = a.put o.dst v ∧ I a' w' ∧ R i a' w' ∧ (∀ j, j ≠ i → R j a w → R j a w') ∧ ∀ j, j ≠ i → U j a w → U j a' w') Q)
    (hend : ∀ a w, I a w → (∀ i (o : Oper), ops[i]? = some o → R i a w) → Q .normal a w) :
    ∀ (fuel : Nat) (listed : Array Bool) (a : Act) (w : World), listed.size = ops.size → leftN ops listed = fuel → I a w → LeftA ops R listed a w → Clsd ops listed → UndoneY ops U listed a w → wpAny P .any ops Q fuel listed a w := by
  intro fuel
  induction fuel with
  | zero =>
    intro listed a w hsz hl hI hL hC hUn
    have hz := left_zero hl
    refine ⟨?_, hend a w hI fun i o ho => hL i o ho (hz i ?_)⟩
    · unfold Region.ready
      rw [List.filter_eq_nil_iff]
      intro i hi
      have hi' := List.mem_range.1 hi
      have := hz i hi'
      have e : listed.getD i true = true := by
        rw [Array.getD_eq_getD_getElem?] at this ⊢
        rw [Array.getElem?_eq_getElem (by omega)] at this ⊢
        exact this
      simp [e]
    · exact (Array.getElem?_eq_some_iff.1 ho).1
  | succ fuel ih =>
    intro listed a w hsz hl hI hL hC hUn
    refine ⟨fun hnil => ?_, fun i hi => ?_⟩
    · refine hend a w hI fun i o ho => hL i o ho ?_
      cases hle : listed.getD i false with
      | true => rfl
      | false => exact absurd hnil (least_ready hB hsz i (Array.getElem?_eq_some_iff.1 ho).1 hle)
    · unfold Region.ready at hi
      rw [List.mem_filter] at hi
      obtain ⟨hi1, hi2⟩ := hi
      have hi' := List.mem_range.1 hi1
      obtain ⟨o, ho⟩ : ∃ o, ops[i]? = some o := ⟨ops[i], Array.getElem?_eq_getElem hi'⟩
      simp only [ho, Bool.and_eq_true, Bool.not_eq_true', Option.map_some, Option.getD_some] at hi2
      obtain ⟨hun, haf⟩ := hi2
      have hun' : listed.getD i false = false := by
        rw [Array.getD_eq_getD_getElem?] at hun ⊢
        rw [Array.getElem?_eq_getElem (by omega)] at hun ⊢
        exact hun
      have hb := hB
      unfold postB at hb
      rw [List.all_eq_true] at hb
      have hbk := hb i hi1
      simp only [ho, Bool.and_eq_true] at hbk
      have hgd : Region.wanted o (yielded ops a.tmps) = true := by
        have := hbk.1.2
        unfold Region.wanted
        cases hg : o.guard with
        | none => rfl
        | some g => rw [hg] at this; cases this
      unfold wpOp
      simp only [ho, hgd, if_true]
      refine .inl ?_
      have hpre : ∀ e ∈ o.after, Region.binds .any e = true → R e.on a w := by
        intro e he hbd
        rw [Array.all_eq_true'] at haf
        have := haf e he
        simp only [hbd, Bool.not_true, Bool.false_or] at this
        have hlt : e.on < ops.size := by
          have h1 := hbk.1.1
          rw [Array.all_eq_true'] at h1
          have h2 := h1 e he
          simp only [hbd, Bool.not_true, Bool.false_or, decide_eq_true_eq] at h2
          omega
        exact hL _ _ (Array.getElem?_eq_getElem hlt) this
      refine Oper.wp_mono (fun a' w' h => ?_) (hstep i o ho a w hI hpre ⟨hUn i o ho hun', fun j oj hj ⟨e, he, hbe, hei⟩ => hUn j oj hj (by
        cases hlj : listed.getD j false with
        | false => rfl
        | true =>
          have := hC j oj hj hlj e he hbe
          rw [hei, hun'] at this
          cases this)⟩)
      obtain ⟨v, rfl, h1, h2, h3, h4⟩ := h
      refine ih _ _ _ (by simpa using hsz) (by have := left_set hsz hi' hun'; omega) h1 (fun j oj hj hlj => ?_) (fun j oj hj hlj e he hbe => ?_) (fun j oj hj hlj => ?_)
      · by_cases hji : j = i
        · subst hji
          exact h2
        · have hlj' : listed.getD j false = true := by
            rwa [Array.getD_eq_getD_getElem?, Array.getElem?_setIfInBounds_ne (Ne.symm hji), ← Array.getD_eq_getD_getElem?] at hlj
          refine hloc j oj hj a _ w' (fun d hd => ?_) (h3 j hji (hL j oj hj hlj'))
          have hne : ∀ m (om : Oper), ops[m]? = some om → listed.getD m false = true → om.dst = some d → o.dst ≠ some d := by
            intro m om hm hlm hdm hod
            have hmi : m ≠ i := by
              intro h
              subst h
              rw [hun'] at hlm
              cases hlm
            have := hbk.2
            rw [hod] at this
            simp only [Bool.and_eq_true, List.all_eq_true] at this
            have hx := this.2 m (List.mem_range.2 (Array.getElem?_eq_some_iff.1 hm).1)
            simp only [hm, Bool.or_eq_true, beq_iff_eq, hmi, false_or, bne_iff_ne] at hx
            exact hx hdm
          have hod : o.dst ≠ some d := by
            unfold slotsOf at hd
            rcases List.mem_append.1 hd with hd | hd
            · exact hne j oj hj hlj' (by simpa using hd)
            · obtain ⟨e, he, hde⟩ := List.mem_filterMap.1 hd
              split at hde
              · rename_i hbe
                have he' : e ∈ oj.after := by simpa using he
                have hle := hC j oj hj hlj' e he' hbe
                cases hom : ops[e.on]? with
                | none => rw [hom] at hde; cases hde
                | some om =>
                  rw [hom] at hde
                  exact hne e.on om hom hle hde
              · cases hde
          cases hdo : o.dst with
          | none => rfl
          | some d' =>
            simp only [Act.put, Array.getD_eq_getD_getElem?]
            rw [Array.getElem?_setIfInBounds_ne (fun h => hod (by rw [hdo, h]))]
      · have hset : ∀ m, (listed.setIfInBounds i true).getD m false = true ↔ m = i ∨ listed.getD m false = true := by
          intro m
          by_cases hmi : m = i
          · subst hmi
            rw [Array.getD_eq_getD_getElem?, Array.getElem?_setIfInBounds_self]
            simp [show m < listed.size by omega]
          · rw [Array.getD_eq_getD_getElem?, Array.getElem?_setIfInBounds_ne (Ne.symm hmi), ← Array.getD_eq_getD_getElem?]
            simp [hmi]
        rw [hset]
        rcases (hset j).1 hlj with rfl | hlj
        · rw [ho] at hj
          cases hj
          rw [Array.all_eq_true'] at haf
          have := haf e he
          simp only [hbe, Bool.not_true, Bool.false_or] at this
          exact .inr this
        · exact .inr (hC j oj hj hlj e he hbe)
      · by_cases hmi : j = i
        · subst hmi
          rw [Array.getD_eq_getD_getElem?, Array.getElem?_setIfInBounds_self] at hlj
          simp [show j < listed.size by omega] at hlj
        · rw [Array.getD_eq_getD_getElem?, Array.getElem?_setIfInBounds_ne (Ne.symm hmi), ← Array.getD_eq_getD_getElem?] at hlj
          exact h4 j hmi (hUn j oj hj hlj)
/-- The steps, one an operation. -/
def stepsY (P : Program) (ops : Array Oper) (Q : Exit → Act → World → Prop) (I : Act → World → Prop) (R : Nat → Act → World → Prop) (U : Nat → Act → World → Prop) : Nat → List Oper → Prop
  | _, [] => True
  | i, o :: l => (∀ a w, I a w → (∀ e ∈ o.after, Region.binds .any e = true → R e.on a w) → YetY ops U i a w →
      o.wp P a w (fun a' w' => ∃ v, a' = a.put o.dst v ∧ I a' w' ∧ R i a' w' ∧ (∀ j, j ≠ i → R j a w → R j a w') ∧ ∀ j, j ≠ i → U j a w → U j a' w') Q) ∧ stepsY P ops Q I R U (i + 1) l
theorem stepsY_at (I : Act → World → Prop) (R : Nat → Act → World → Prop) (U : Nat → Act → World → Prop) : ∀ (l : List Oper) (k : Nat), stepsY P ops Q I R U k l → ∀ j (o : Oper), l[j]? = some o → ∀ a w, I a w → (∀ e ∈ o.after, Region.binds .any e = true → R e.on a w) → YetY ops U (k + j) a w →
      o.wp P a w (fun a' w' => ∃ v, a' = a.put o.dst v ∧ I a' w' ∧ R (k + j) a' w' ∧ (∀ j', j' ≠ k + j → R j' a w → R j' a w') ∧ ∀ j', j' ≠ k + j → U j' a w → U j' a' w') Q := by
  intro l
  induction l with
  | nil => intro k _ j o h; simp at h
  | cons x l ih =>
    intro k h j o hj
    cases j with
    | zero =>
      simp only [List.getElem?_cons_zero, Option.some.injEq] at hj
      subst hj
      exact h.1
    | succ j =>
      simp only [List.getElem?_cons_succ] at hj
      have := ih (k + 1) h.2 j o hj
      rwa [show k + 1 + j = k + (j + 1) by omega] at this
end
/-- **The region.** -/
theorem wp_region_postsY {P : Program} {id : Nat} {Q : Exit → Act → World → Prop} {a : Act} {w : World} {l : List Oper} (N : Nat) (I : Act → World → Prop) (R : Nat → Act → World → Prop) (U : Nat → Act → World → Prop)
    (hm : P.follows .mixedOrders = true) (hB : postB N l.toArray = true) (hN : ∀ a w, I a w → a.tmps.size = N) (hloc : locsA l.toArray R 0 l) (h0 : ∀ u, Kept Nil w u → I a u ∧ ∀ j, U j a u) (hs : stepsY P l.toArray Q I R U 0 l)
    (hend : ∀ a w, I a w → (∀ i (o : Oper), l[i]? = some o → R i a w) → wpList P l.toArray Q [] a w) : (Code.region id l.toArray true).wp P Q a w := by
  refine wp_region_any hm ?_
  refine postsY_any hB I R U hN (fun j o ho => ?_) (fun i o ho => ?_) (fun a w h1 h2 => hend a w h1 fun i o hi => h2 i o (by simpa using hi)) _ _ _ _ (by simp) ?_ (h0 _ (Kept.refl Nil w).drew).1 (fun i o ho hl => ?_) (fun i o ho hl => ?_) (fun j _ _ _ => (h0 _ (Kept.refl Nil w).drew).2 j)
  · have := locsA_at R l 0 hloc j o (by simpa using ho)
    simpa only [Nat.zero_add] using this
  · have := stepsY_at I R U l 0 hs i o (by simpa using ho)
    simpa only [Nat.zero_add] using this
  · unfold leftN
    rw [List.countP_eq_length.2]
    · simp
    · intro i hi
      rw [getD_replicate_false]
      rfl
  · rw [getD_replicate_false] at hl
    cases hl
  · rw [getD_replicate_false] at hl
    cases hl
theorem wp_region_postsYB {P : Program} {id : Nat} {Q : Exit → Act → World → Prop} {a : Act} {w : World} {l : List Oper} (N : Nat) (I : Act → Act → World → Prop) (R : Nat → Act → World → Prop) (U : Nat → Act → World → Prop)
    (hm : P.follows .mixedOrders = true) (hB : postB N l.toArray = true) (hN : ∀ x w, I a x w → x.tmps.size = N) (hloc : locsA l.toArray R 0 l) (h0 : ∀ u, Kept Nil w u → I a a u ∧ ∀ j, U j a u) (hs : stepsY P l.toArray Q (I a) R U 0 l)
    (hend : ∀ x w, I a x w → (∀ i (o : Oper), l[i]? = some o → R i x w) → wpList P l.toArray Q [] x w) : (Code.region id l.toArray true).wp P Q a w := wp_region_postsY N (I a) R U hm hB hN hloc h0 hs hend
end Go.Proofs.YtiehmpiaddjhiaaDoor
