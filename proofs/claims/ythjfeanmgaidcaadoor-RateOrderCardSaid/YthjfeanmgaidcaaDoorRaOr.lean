/- tolllaw11.RateOrder: the walk. -/
import Derived.Test.YthjfeanmgaidcaaDoorMg24
import Derived.Test.YthjfeanmgaidcaaDoorRaGl
namespace Go.Proofs.YthjfeanmgaidcaaDoor
open Go.RowKit Go.Sort
set_option linter.unusedVariables false

theorem u64_of (t : Int) (ht : (Lit.int .u64 t).wf = true) : ∃ x : Nat, x < 18446744073709551616 ∧ t = (x : Int) := by
  have h : 0 ≤ t ∧ t < 18446744073709551616 := by
    simp [Lit.wf, IntKind.min, IntKind.max, IntKind.signed, IntKind.bits] at ht
    omega
  exact ⟨t.toNat, by omega, by omega⟩
/-- An element of an array that is a value. -/
theorem wpList_ixb {P : Program} {w : World} {ops : Array Oper} {rest : List Oper} {o : Oper} {a : Act} {Q : Exit → Act → World → Prop} (hgd : Region.wanted o (yielded ops a.tmps) = true) (ty : TypeId) (p x : Operand) (ho : o.op = .index ty p x) (pv xv v : Value) (hp : a.eval p = pv) (hx : a.eval x = xv)
    (hv : ∀ u, (Instr.index ty pv xv).run P u = .ok v u) (h : wpList P ops Q rest (a.put o.dst v) w) : wpList P ops Q (o :: rest) a w := by
  refine BigFrame.wpList_want hgd fun K hK => ?_
  unfold Oper.wp execOp
  simp only [ho, hp, hx, Sem.run_bind, Sem.run_pure, hv, Result.andThen_ok]
  exact hK _ _ h
theorem xb0 (p q r : Bool) (w : World) : (Instr.index 45 (.agg #[.bool p, .bool q, .bool r]) (.int .i64 0)).run Tryd.prog w = .ok (.bool p) w := by kernel_rfl
theorem xb1 (p q r : Bool) (w : World) : (Instr.index 45 (.agg #[.bool p, .bool q, .bool r]) (.int .i64 1)).run Tryd.prog w = .ok (.bool q) w := by kernel_rfl
theorem xb2 (p q r : Bool) (w : World) : (Instr.index 45 (.agg #[.bool p, .bool q, .bool r]) (.int .i64 2)).run Tryd.prog w = .ok (.bool r) w := by kernel_rfl
theorem bb3 (p q r : Bool) (w : World) : (Instr.build 45 #[(0, .bool p), (1, .bool q), (2, .bool r)]).run Tryd.prog w = .ok (.agg #[.bool p, .bool q, .bool r]) w := by kernel_rfl
def cnB (p q r : Bool) (k : Nat) : Nat := ([p, q, r].take k).count true
theorem kf_nan (x : Nat) (hx : x < 18446744073709551616) : decide (KF 9221120237041090561 < KF x) = false := by
  have h1 : KF 9221120237041090561 = 18446744073709551616 := by decide +kernel
  have h2 : KF x ≤ 18446744073709551616 := by
    unfold KF
    split
    · exact Int.le_refl _
    · have := (key_small x hx).1; omega
  rw [h1]
  exact decide_eq_false (by omega)
theorem kf_ninf (x : Nat) (hx : x < 18446744073709551616) : decide (KF x < KF 18442240474082181120) = false := by
  have h1 : KF 18442240474082181120 = -9218868437227405312 := by decide +kernel
  rw [h1]
  refine decide_eq_false ?_
  unfold KF
  split
  · omega
  · rename_i hn
    unfold nanF at hn
    have hI : INFB = 9218868437227405312 := rfl
    rw [hI] at hn
    rcases neg_cases x hx with ⟨h5, h6, h7, h8⟩ | ⟨h5, h6, h7, h8⟩
    · rw [h8]; omega
    · rw [h8]
      simp at hn
      first | omega | (rw [h7] at hn; omega)
theorem tri (x y : Nat) : (decide (KF x < KF y) = true ∧ decide (KF x = KF y) = false ∧ decide (KF y < KF x) = false) ∨ (decide (KF x < KF y) = false ∧ decide (KF x = KF y) = true ∧ decide (KF y < KF x) = false) ∨ (decide (KF x < KF y) = false ∧ decide (KF x = KF y) = false ∧ decide (KF y < KF x) = true) := by
  rcases Int.lt_trichotomy (KF x) (KF y) with h | h | h
  · exact .inl ⟨decide_eq_true h, decide_eq_false (by omega), decide_eq_false (by omega)⟩
  · exact .inr (.inl ⟨decide_eq_false (by omega), decide_eq_true h, decide_eq_false (by omega)⟩)
  · exact .inr (.inr ⟨decide_eq_false (by omega), decide_eq_false (by omega), decide_eq_true h⟩)
theorem clF_pos (x : Nat) (hx : x < 18446744073709551616) : ltF 0 x = decide (0 < clF x) := by
  unfold clF
  cases h : ltF 0 x
  · rfl
  · have : 0 < x := by
      rcases Nat.eq_zero_or_pos x with h0 | h0
      · subst h0
        exact absurd h (by decide)
      · exact h0
    simp [this]

def LessS (x y : Nat) (b : Bool) : Prop := ∀ w : World, Calls Tryd.prog 19 #[.float .f64 x, .float .f64 y] w fun e w' => e = .returned (.bool b) ∧ Kept Nil w w'
def SameS (x y : Nat) (b : Bool) : Prop := ∀ w : World, Calls Tryd.prog 20 #[.float .f64 x, .float .f64 y] w fun e w' => e = .returned (.bool b) ∧ Kept Nil w w'
set_option maxRecDepth 100000 in
set_option maxHeartbeats 16000000 in
theorem rorder_yes (a1 a2 a3 : Int) (w : World) (wa1 : (Lit.int .u64 a1).wf = true) (wa2 : (Lit.int .u64 a2).wf = true) (wa3 : (Lit.int .u64 a3).wf = true) (hG : Gl w) : Calls Tryd.prog 4 #[.int .u64 a1, .int .u64 a2, .int .u64 a3] w fun e w' => e = .returned (.bool true) ∧ Below w.heap.size w w' := by
  obtain ⟨x, hx, rfl⟩ := u64_of a1 wa1
  obtain ⟨y, hy, rfl⟩ := u64_of a2 wa2
  obtain ⟨z, hz, rfl⟩ := u64_of a3 wa3
  have HG := Lib.hid (show GlR w from hG)
  have HL1 := Lib.hid (show LessS x y _ from fless_yes x y hx hy)
  have HS1 := Lib.hid (show SameS x y _ from fsame_yes x y hx hy)
  have HL2 := Lib.hid (show LessS y x _ from fless_yes y x hy hx)
  have HL3 := Lib.hid (show LessS y z _ from fless_yes y z hy hz)
  have HL4 := Lib.hid (show LessS x z _ from fless_yes x z hx hz)
  have HS3 := Lib.hid (show SameS y z _ from fsame_yes y z hy hz)
  have HS4 := Lib.hid (show SameS x z _ from fsame_yes x z hx hz)
  have HS5 := Lib.hid (show SameS x x true from by have := fsame_yes x x hx hx; rw [decide_eq_true rfl] at this; exact this)
  have HL6 := Lib.hid (show LessS 9221120237041090561 x false from by have := fless_yes 9221120237041090561 x (by decide) hx; rw [kf_nan x hx] at this; exact this)
  have HL7 := Lib.hid (show LessS x 18442240474082181120 false from by have := fless_yes x 18442240474082181120 hx (by decide); rw [kf_ninf x hx] at this; exact this)
  have HCL := Lib.hid (fclean_yes x hx)
  have HT := Lib.hid (tri x y)
  have HTL := Lib.hid (show decide (KF x < KF y) = true → decide (KF y < KF z) = true → decide (KF x < KF z) = true from fun h1 h2 => by
    have := of_decide_eq_true h1
    have := of_decide_eq_true h2
    exact decide_eq_true (by omega))
  have HTS := Lib.hid (show decide (KF x = KF y) = true → decide (KF y = KF z) = true → decide (KF x = KF z) = true from fun h1 h2 => by
    have := of_decide_eq_true h1
    have := of_decide_eq_true h2
    exact decide_eq_true (by omega))
  have hcx := clF_le hx
  have hI1 : INFB < 18446744073709551616 := by decide
  have hI2 : INFB < 9223372036854775808 := by decide
  have hc64 : clF x < 18446744073709551616 := Nat.lt_of_le_of_lt hcx hI1
  have HCC := Lib.hid (by have := fclean_yes (clF x) hc64; rw [clF_clean hcx] at this; exact this)
  have HSG := Lib.hid (by have := fsign_yes (clF x) hc64; rw [decide_eq_false (show ¬ 9223372036854775808 ≤ clF x by omega)] at this; exact this)
  have HAL := Lib.hid (by have := falike_yes (clF x) (clF x) hc64 hc64; rw [decide_eq_true rfl, Bool.true_or] at this; exact this)
  have HGX := Lib.hid (show (FloatKind.f64.format.order x 0 == some .gt) = decide (0 < clF x) from (gt_is hx (by decide)).trans (clF_pos x hx))
  have HGY := Lib.hid (show (FloatKind.f64.format.order (clF x) 0 == some .gt) = decide (0 < clF x) from (gt_is hc64 (by decide)).trans (lt_clean (by decide) hcx))
  have HEY := Lib.hid (show (FloatKind.f64.format.order (clF x) 0 == some .eq) = !decide (0 < clF x) from (eq_is hc64 (by decide)).trans ((eq_clean hcx (by decide)).trans (by
    rcases Nat.eq_zero_or_pos (clF x) with h | h
    · rw [h]; rfl
    · rw [decide_eq_true h, decide_eq_false (by omega)]; rfl)))
  have f1 := cf_from x
  have f2 := cf_from y
  have f3 := cf_from z
  generalize decide (KF x < KF y) = p at *
  generalize decide (KF x = KF y) = q at *
  generalize decide (KF y < KF x) = r at *
  generalize decide (KF y < KF z) = l3 at *
  generalize decide (KF x < KF z) = l4 at *
  generalize decide (KF y = KF z) = s3 at *
  generalize decide (KF x = KF z) = s4 at *
  generalize decide (0 < clF x) = gy at *
  generalize clF x = cx at *
  have HF := Lib.hid (And.intro f1 (And.intro f2 f3))
  clear hx hy hz wa1 wa2 wa3 hG hcx hI1 hI2 hc64
  go_enter Tryd.func4, Tryd.ntmps4
  go_wp2_with (fail)
  have HK := Lib.hid (Kept.refl Nil w)
  refine (HL1.out _).mono ?_
  rintro e w1 ⟨rfl, hk⟩
  have HK := Lib.hid (HK.out.then hk)
  clear hk
  dsimp only
  go_wp2_with (fail)
  refine (HS1.out _).mono ?_
  rintro e w1 ⟨rfl, hk⟩
  have HK := Lib.hid (HK.out.then hk)
  clear hk
  dsimp only
  go_wp2_with (fail)
  refine (HL2.out _).mono ?_
  rintro e w1 ⟨rfl, hk⟩
  have HK := Lib.hid (HK.out.then hk)
  clear hk
  dsimp only
  go_upto_region 4 with (first | (refine wpList_bd rfl 45 _ rfl #[(0, .bool p), (1, .bool q), (2, .bool r)] rfl (.agg #[.bool p, .bool q, .bool r]) (bb3 p q r) ?_; simp only [Act.put, List.setIfInBounds_toArray, List.set_cons_succ, List.set_cons_zero]) | fail)
  clear f1 f2 f3
  go_loopw [10, 32] (fun c i wr => ∃ k : Nat, k ≤ 3 ∧ c = .int .i64 (cnB p q r k : Nat) ∧ i = .int .i64 (k : Int) ∧ Hid (Kept Nil w wr)) (fun _ i _ => 3 - (intOf i).toNat)
  case atStart => exact ⟨0, by omega, rfl, rfl, HK⟩
  case round =>
    clear HK
    obtain ⟨k, hk3, hck, hik, HK⟩ := hrel
    rcases (show k = 0 ∨ k = 1 ∨ k = 2 ∨ k = 3 by omega) with rfl | rfl | rfl | rfl
    · obtain rfl := (show _ = Value.int .i64 0 from hik)
      obtain rfl := hck
      clear hik
      have HN := Lib.hid (show (cnB p q r 0 : Int) + (if p then 1 else 0) = (cnB p q r 1 : Int) by cases p <;> cases q <;> cases r <;> rfl)
      have HB := Lib.hid (show cnB p q r 0 ≤ 3 by cases p <;> cases q <;> cases r <;> decide)
      generalize cnB p q r 0 = N0 at *
      generalize hv : p = v0 at *
      have hb3 := HB.out
      cases v0
      · go_wp2_with (first | (refine wpList_ixb rfl 45 (.tmp 31) (.tmp 32) rfl _ _ _ rfl rfl (xb0 _ _ _) ?_; simp only [Act.put, List.setIfInBounds_toArray, List.set_cons_succ, List.set_cons_zero]) | fail)
        go_roundw
        case rel => exact ⟨1, by omega, by rw [← HN.out]; first | rfl | (simp) | go_num, by first | rfl | go_num, HK⟩
        case measure => simp [intOf]
      · go_wp2_with (first | (refine wpList_ixb rfl 45 (.tmp 31) (.tmp 32) rfl _ _ _ rfl rfl (xb0 _ _ _) ?_; simp only [Act.put, List.setIfInBounds_toArray, List.set_cons_succ, List.set_cons_zero]) | fail)
        go_roundw
        case rel => exact ⟨1, by omega, by rw [← HN.out]; first | rfl | (simp) | go_num, by first | rfl | go_num, HK⟩
        case measure => simp [intOf]
    · obtain rfl := (show _ = Value.int .i64 1 from hik)
      obtain rfl := hck
      clear hik
      have HN := Lib.hid (show (cnB p q r 1 : Int) + (if q then 1 else 0) = (cnB p q r 2 : Int) by cases p <;> cases q <;> cases r <;> rfl)
      have HB := Lib.hid (show cnB p q r 1 ≤ 3 by cases p <;> cases q <;> cases r <;> decide)
      generalize cnB p q r 1 = N0 at *
      generalize hv : q = v0 at *
      have hb3 := HB.out
      cases v0
      · go_wp2_with (first | (refine wpList_ixb rfl 45 (.tmp 31) (.tmp 32) rfl _ _ _ rfl rfl (xb1 _ _ _) ?_; simp only [Act.put, List.setIfInBounds_toArray, List.set_cons_succ, List.set_cons_zero]) | fail)
        go_roundw
        case rel => exact ⟨2, by omega, by rw [← HN.out]; first | rfl | (simp) | go_num, by first | rfl | go_num, HK⟩
        case measure => simp [intOf]
      · go_wp2_with (first | (refine wpList_ixb rfl 45 (.tmp 31) (.tmp 32) rfl _ _ _ rfl rfl (xb1 _ _ _) ?_; simp only [Act.put, List.setIfInBounds_toArray, List.set_cons_succ, List.set_cons_zero]) | fail)
        go_roundw
        case rel => exact ⟨2, by omega, by rw [← HN.out]; first | rfl | (simp) | go_num, by first | rfl | go_num, HK⟩
        case measure => simp [intOf]
    · obtain rfl := (show _ = Value.int .i64 2 from hik)
      obtain rfl := hck
      clear hik
      have HN := Lib.hid (show (cnB p q r 2 : Int) + (if r then 1 else 0) = (cnB p q r 3 : Int) by cases p <;> cases q <;> cases r <;> rfl)
      have HB := Lib.hid (show cnB p q r 2 ≤ 3 by cases p <;> cases q <;> cases r <;> decide)
      generalize cnB p q r 2 = N0 at *
      generalize hv : r = v0 at *
      have hb3 := HB.out
      cases v0
      · go_wp2_with (first | (refine wpList_ixb rfl 45 (.tmp 31) (.tmp 32) rfl _ _ _ rfl rfl (xb2 _ _ _) ?_; simp only [Act.put, List.setIfInBounds_toArray, List.set_cons_succ, List.set_cons_zero]) | fail)
        go_roundw
        case rel => exact ⟨3, by omega, by rw [← HN.out]; first | rfl | (simp) | go_num, by first | rfl | go_num, HK⟩
        case measure => simp [intOf]
      · go_wp2_with (first | (refine wpList_ixb rfl 45 (.tmp 31) (.tmp 32) rfl _ _ _ rfl rfl (xb2 _ _ _) ?_; simp only [Act.put, List.setIfInBounds_toArray, List.set_cons_succ, List.set_cons_zero]) | fail)
        go_roundw
        case rel => exact ⟨3, by omega, by rw [← HN.out]; first | rfl | (simp) | go_num, by first | rfl | go_num, HK⟩
        case measure => simp [intOf]
    · obtain rfl := (show _ = Value.int .i64 3 from hik)
      obtain rfl := hck
      clear hik hk3
      have hNI : ∀ w : World, Calls Tryd.prog 23 #[.int .i64 (-1)] w fun e w' => e = .returned (.float .f64 18442240474082181120) ∧ Kept Nil w w' := fun w => finf_yes (-1) w
      have HNI := Lib.hid hNI
      clear hNI
      rcases HT.out with ⟨e1, e2, e3⟩ | ⟨e1, e2, e3⟩ | ⟨e1, e2, e3⟩ <;> subst e1 e2 e3
      · rw [show ((cnB true false false 3 : Nat) : Int) = 1 from rfl]
        go_wp2_with (fail)
        refine (HL1.out _).mono ?_
        rintro e w1 ⟨rfl, hk⟩
        have HK := Lib.hid (HK.out.then hk)
        clear hk
        dsimp only
        go_wp2_with (fail)
        refine (HL3.out _).mono ?_
        rintro e w1 ⟨rfl, hk⟩
        have HK := Lib.hid (HK.out.then hk)
        clear hk
        dsimp only
        cases l3
        · go_wp2_with (fail)
          refine (HS1.out _).mono ?_
          rintro e w1 ⟨rfl, hk⟩
          have HK := Lib.hid (HK.out.then hk)
          clear hk
          dsimp only
          go_wp2_with (fail)
          have hgx := HGX.out; have hgy := HGY.out; have hey := HEY.out
          cases gy
          · skip
            refine (HCL.out _).mono ?_
            rintro e w1 ⟨rfl, hk⟩
            have HK := Lib.hid (HK.out.then hk)
            clear hk
            dsimp only
            go_wp2_with (fail)
            have HK0 := HK
            clear HK
            have HK := HK0
            clear HK0
            refine (HS5.out _).mono ?_
            rintro e w1 ⟨rfl, hk⟩
            have HK := Lib.hid (HK.out.then hk)
            clear hk
            dsimp only
            go_wp2_with (fail)
            refine (fnan_yes _).mono ?_
            rintro e w1 ⟨rfl, hk⟩
            have HK := Lib.hid (HK.out.then hk)
            clear hk
            dsimp only
            go_wp2_with (fail)
            refine (HL6.out _).mono ?_
            rintro e w1 ⟨rfl, hk⟩
            have HK := Lib.hid (HK.out.then hk)
            clear hk
            dsimp only
            go_wp2_with (fail)
            refine (HNI.out _).mono ?_
            rintro e w1 ⟨rfl, hk⟩
            have HK := Lib.hid (HK.out.then hk)
            clear hk
            dsimp only
            go_wp2_with (fail)
            refine (HL7.out _).mono ?_
            rintro e w1 ⟨rfl, hk⟩
            have HK := Lib.hid (HK.out.then hk)
            clear hk
            dsimp only
            go_wp2_with (fail)
            refine (HSG.out _).mono ?_
            rintro e w1 ⟨rfl, hk⟩
            have HK := Lib.hid (HK.out.then hk)
            clear hk
            dsimp only
            go_wp2_with (fail)
            refine (HCC.out _).mono ?_
            rintro e w1 ⟨rfl, hk⟩
            have HK := Lib.hid (HK.out.then hk)
            clear hk
            dsimp only
            go_wp2_with (fail)
            refine (HAL.out _).mono ?_
            rintro e w1 ⟨rfl, hk⟩
            have HK := Lib.hid (HK.out.then hk)
            clear hk
            dsimp only
            go_wp2_with (fail)
            refine (wakes_yes _ (HG.out.kept HK.out)).mono ?_
            rintro e w1 ⟨rfl, hk⟩
            have HK := Lib.hid (HK.out.then hk)
            clear hk
            dsimp only
            go_wp2_with (fail)
            go_ret
            exact ⟨rfl, HK.out.below (Nat.le_refl _) (fun _ hf => hf.elim)⟩
          · skip
            refine (HCL.out _).mono ?_
            rintro e w1 ⟨rfl, hk⟩
            have HK := Lib.hid (HK.out.then hk)
            clear hk
            dsimp only
            go_wp2_with (fail)
            have HK0 := HK
            clear HK
            have HK := HK0
            clear HK0
            refine (HS5.out _).mono ?_
            rintro e w1 ⟨rfl, hk⟩
            have HK := Lib.hid (HK.out.then hk)
            clear hk
            dsimp only
            go_wp2_with (fail)
            refine (fnan_yes _).mono ?_
            rintro e w1 ⟨rfl, hk⟩
            have HK := Lib.hid (HK.out.then hk)
            clear hk
            dsimp only
            go_wp2_with (fail)
            refine (HL6.out _).mono ?_
            rintro e w1 ⟨rfl, hk⟩
            have HK := Lib.hid (HK.out.then hk)
            clear hk
            dsimp only
            go_wp2_with (fail)
            refine (HNI.out _).mono ?_
            rintro e w1 ⟨rfl, hk⟩
            have HK := Lib.hid (HK.out.then hk)
            clear hk
            dsimp only
            go_wp2_with (fail)
            refine (HL7.out _).mono ?_
            rintro e w1 ⟨rfl, hk⟩
            have HK := Lib.hid (HK.out.then hk)
            clear hk
            dsimp only
            go_wp2_with (fail)
            refine (HSG.out _).mono ?_
            rintro e w1 ⟨rfl, hk⟩
            have HK := Lib.hid (HK.out.then hk)
            clear hk
            dsimp only
            go_wp2_with (fail)
            refine (HCC.out _).mono ?_
            rintro e w1 ⟨rfl, hk⟩
            have HK := Lib.hid (HK.out.then hk)
            clear hk
            dsimp only
            go_wp2_with (fail)
            refine (HAL.out _).mono ?_
            rintro e w1 ⟨rfl, hk⟩
            have HK := Lib.hid (HK.out.then hk)
            clear hk
            dsimp only
            go_wp2_with (fail)
            refine (wakes_yes _ (HG.out.kept HK.out)).mono ?_
            rintro e w1 ⟨rfl, hk⟩
            have HK := Lib.hid (HK.out.then hk)
            clear hk
            dsimp only
            go_wp2_with (fail)
            go_ret
            exact ⟨rfl, HK.out.below (Nat.le_refl _) (fun _ hf => hf.elim)⟩
        · obtain rfl : l4 = true := by have hh := HTL.out; simpa using hh
          go_wp2_with (fail)
          refine (HL4.out _).mono ?_
          rintro e w1 ⟨rfl, hk⟩
          have HK := Lib.hid (HK.out.then hk)
          clear hk
          dsimp only
          go_wp2_with (fail)
          refine (HS1.out _).mono ?_
          rintro e w1 ⟨rfl, hk⟩
          have HK := Lib.hid (HK.out.then hk)
          clear hk
          dsimp only
          go_wp2_with (fail)
          have hgx := HGX.out; have hgy := HGY.out; have hey := HEY.out
          cases gy
          · skip
            refine (HCL.out _).mono ?_
            rintro e w1 ⟨rfl, hk⟩
            have HK := Lib.hid (HK.out.then hk)
            clear hk
            dsimp only
            go_wp2_with (fail)
            have HK0 := HK
            clear HK
            have HK := HK0
            clear HK0
            refine (HS5.out _).mono ?_
            rintro e w1 ⟨rfl, hk⟩
            have HK := Lib.hid (HK.out.then hk)
            clear hk
            dsimp only
            go_wp2_with (fail)
            refine (fnan_yes _).mono ?_
            rintro e w1 ⟨rfl, hk⟩
            have HK := Lib.hid (HK.out.then hk)
            clear hk
            dsimp only
            go_wp2_with (fail)
            refine (HL6.out _).mono ?_
            rintro e w1 ⟨rfl, hk⟩
            have HK := Lib.hid (HK.out.then hk)
            clear hk
            dsimp only
            go_wp2_with (fail)
            refine (HNI.out _).mono ?_
            rintro e w1 ⟨rfl, hk⟩
            have HK := Lib.hid (HK.out.then hk)
            clear hk
            dsimp only
            go_wp2_with (fail)
            refine (HL7.out _).mono ?_
            rintro e w1 ⟨rfl, hk⟩
            have HK := Lib.hid (HK.out.then hk)
            clear hk
            dsimp only
            go_wp2_with (fail)
            refine (HSG.out _).mono ?_
            rintro e w1 ⟨rfl, hk⟩
            have HK := Lib.hid (HK.out.then hk)
            clear hk
            dsimp only
            go_wp2_with (fail)
            refine (HCC.out _).mono ?_
            rintro e w1 ⟨rfl, hk⟩
            have HK := Lib.hid (HK.out.then hk)
            clear hk
            dsimp only
            go_wp2_with (fail)
            refine (HAL.out _).mono ?_
            rintro e w1 ⟨rfl, hk⟩
            have HK := Lib.hid (HK.out.then hk)
            clear hk
            dsimp only
            go_wp2_with (fail)
            refine (wakes_yes _ (HG.out.kept HK.out)).mono ?_
            rintro e w1 ⟨rfl, hk⟩
            have HK := Lib.hid (HK.out.then hk)
            clear hk
            dsimp only
            go_wp2_with (fail)
            go_ret
            exact ⟨rfl, HK.out.below (Nat.le_refl _) (fun _ hf => hf.elim)⟩
          · skip
            refine (HCL.out _).mono ?_
            rintro e w1 ⟨rfl, hk⟩
            have HK := Lib.hid (HK.out.then hk)
            clear hk
            dsimp only
            go_wp2_with (fail)
            have HK0 := HK
            clear HK
            have HK := HK0
            clear HK0
            refine (HS5.out _).mono ?_
            rintro e w1 ⟨rfl, hk⟩
            have HK := Lib.hid (HK.out.then hk)
            clear hk
            dsimp only
            go_wp2_with (fail)
            refine (fnan_yes _).mono ?_
            rintro e w1 ⟨rfl, hk⟩
            have HK := Lib.hid (HK.out.then hk)
            clear hk
            dsimp only
            go_wp2_with (fail)
            refine (HL6.out _).mono ?_
            rintro e w1 ⟨rfl, hk⟩
            have HK := Lib.hid (HK.out.then hk)
            clear hk
            dsimp only
            go_wp2_with (fail)
            refine (HNI.out _).mono ?_
            rintro e w1 ⟨rfl, hk⟩
            have HK := Lib.hid (HK.out.then hk)
            clear hk
            dsimp only
            go_wp2_with (fail)
            refine (HL7.out _).mono ?_
            rintro e w1 ⟨rfl, hk⟩
            have HK := Lib.hid (HK.out.then hk)
            clear hk
            dsimp only
            go_wp2_with (fail)
            refine (HSG.out _).mono ?_
            rintro e w1 ⟨rfl, hk⟩
            have HK := Lib.hid (HK.out.then hk)
            clear hk
            dsimp only
            go_wp2_with (fail)
            refine (HCC.out _).mono ?_
            rintro e w1 ⟨rfl, hk⟩
            have HK := Lib.hid (HK.out.then hk)
            clear hk
            dsimp only
            go_wp2_with (fail)
            refine (HAL.out _).mono ?_
            rintro e w1 ⟨rfl, hk⟩
            have HK := Lib.hid (HK.out.then hk)
            clear hk
            dsimp only
            go_wp2_with (fail)
            refine (wakes_yes _ (HG.out.kept HK.out)).mono ?_
            rintro e w1 ⟨rfl, hk⟩
            have HK := Lib.hid (HK.out.then hk)
            clear hk
            dsimp only
            go_wp2_with (fail)
            go_ret
            exact ⟨rfl, HK.out.below (Nat.le_refl _) (fun _ hf => hf.elim)⟩
      · rw [show ((cnB false true false 3 : Nat) : Int) = 1 from rfl]
        go_wp2_with (fail)
        refine (HL1.out _).mono ?_
        rintro e w1 ⟨rfl, hk⟩
        have HK := Lib.hid (HK.out.then hk)
        clear hk
        dsimp only
        go_wp2_with (fail)
        refine (HS1.out _).mono ?_
        rintro e w1 ⟨rfl, hk⟩
        have HK := Lib.hid (HK.out.then hk)
        clear hk
        dsimp only
        go_wp2_with (fail)
        refine (HS3.out _).mono ?_
        rintro e w1 ⟨rfl, hk⟩
        have HK := Lib.hid (HK.out.then hk)
        clear hk
        dsimp only
        cases s3
        · go_wp2_with (fail)
          have hgx := HGX.out; have hgy := HGY.out; have hey := HEY.out
          cases gy
          · skip
            refine (HCL.out _).mono ?_
            rintro e w1 ⟨rfl, hk⟩
            have HK := Lib.hid (HK.out.then hk)
            clear hk
            dsimp only
            go_wp2_with (fail)
            have HK0 := HK
            clear HK
            have HK := HK0
            clear HK0
            refine (HS5.out _).mono ?_
            rintro e w1 ⟨rfl, hk⟩
            have HK := Lib.hid (HK.out.then hk)
            clear hk
            dsimp only
            go_wp2_with (fail)
            refine (fnan_yes _).mono ?_
            rintro e w1 ⟨rfl, hk⟩
            have HK := Lib.hid (HK.out.then hk)
            clear hk
            dsimp only
            go_wp2_with (fail)
            refine (HL6.out _).mono ?_
            rintro e w1 ⟨rfl, hk⟩
            have HK := Lib.hid (HK.out.then hk)
            clear hk
            dsimp only
            go_wp2_with (fail)
            refine (HNI.out _).mono ?_
            rintro e w1 ⟨rfl, hk⟩
            have HK := Lib.hid (HK.out.then hk)
            clear hk
            dsimp only
            go_wp2_with (fail)
            refine (HL7.out _).mono ?_
            rintro e w1 ⟨rfl, hk⟩
            have HK := Lib.hid (HK.out.then hk)
            clear hk
            dsimp only
            go_wp2_with (fail)
            refine (HSG.out _).mono ?_
            rintro e w1 ⟨rfl, hk⟩
            have HK := Lib.hid (HK.out.then hk)
            clear hk
            dsimp only
            go_wp2_with (fail)
            refine (HCC.out _).mono ?_
            rintro e w1 ⟨rfl, hk⟩
            have HK := Lib.hid (HK.out.then hk)
            clear hk
            dsimp only
            go_wp2_with (fail)
            refine (HAL.out _).mono ?_
            rintro e w1 ⟨rfl, hk⟩
            have HK := Lib.hid (HK.out.then hk)
            clear hk
            dsimp only
            go_wp2_with (fail)
            refine (wakes_yes _ (HG.out.kept HK.out)).mono ?_
            rintro e w1 ⟨rfl, hk⟩
            have HK := Lib.hid (HK.out.then hk)
            clear hk
            dsimp only
            go_wp2_with (fail)
            go_ret
            exact ⟨rfl, HK.out.below (Nat.le_refl _) (fun _ hf => hf.elim)⟩
          · skip
            refine (HCL.out _).mono ?_
            rintro e w1 ⟨rfl, hk⟩
            have HK := Lib.hid (HK.out.then hk)
            clear hk
            dsimp only
            go_wp2_with (fail)
            have HK0 := HK
            clear HK
            have HK := HK0
            clear HK0
            refine (HS5.out _).mono ?_
            rintro e w1 ⟨rfl, hk⟩
            have HK := Lib.hid (HK.out.then hk)
            clear hk
            dsimp only
            go_wp2_with (fail)
            refine (fnan_yes _).mono ?_
            rintro e w1 ⟨rfl, hk⟩
            have HK := Lib.hid (HK.out.then hk)
            clear hk
            dsimp only
            go_wp2_with (fail)
            refine (HL6.out _).mono ?_
            rintro e w1 ⟨rfl, hk⟩
            have HK := Lib.hid (HK.out.then hk)
            clear hk
            dsimp only
            go_wp2_with (fail)
            refine (HNI.out _).mono ?_
            rintro e w1 ⟨rfl, hk⟩
            have HK := Lib.hid (HK.out.then hk)
            clear hk
            dsimp only
            go_wp2_with (fail)
            refine (HL7.out _).mono ?_
            rintro e w1 ⟨rfl, hk⟩
            have HK := Lib.hid (HK.out.then hk)
            clear hk
            dsimp only
            go_wp2_with (fail)
            refine (HSG.out _).mono ?_
            rintro e w1 ⟨rfl, hk⟩
            have HK := Lib.hid (HK.out.then hk)
            clear hk
            dsimp only
            go_wp2_with (fail)
            refine (HCC.out _).mono ?_
            rintro e w1 ⟨rfl, hk⟩
            have HK := Lib.hid (HK.out.then hk)
            clear hk
            dsimp only
            go_wp2_with (fail)
            refine (HAL.out _).mono ?_
            rintro e w1 ⟨rfl, hk⟩
            have HK := Lib.hid (HK.out.then hk)
            clear hk
            dsimp only
            go_wp2_with (fail)
            refine (wakes_yes _ (HG.out.kept HK.out)).mono ?_
            rintro e w1 ⟨rfl, hk⟩
            have HK := Lib.hid (HK.out.then hk)
            clear hk
            dsimp only
            go_wp2_with (fail)
            go_ret
            exact ⟨rfl, HK.out.below (Nat.le_refl _) (fun _ hf => hf.elim)⟩
        · obtain rfl : s4 = true := by have hh := HTS.out; simpa using hh
          go_wp2_with (fail)
          refine (HS4.out _).mono ?_
          rintro e w1 ⟨rfl, hk⟩
          have HK := Lib.hid (HK.out.then hk)
          clear hk
          dsimp only
          go_wp2_with (fail)
          have hgx := HGX.out; have hgy := HGY.out; have hey := HEY.out
          cases gy
          · skip
            refine (HCL.out _).mono ?_
            rintro e w1 ⟨rfl, hk⟩
            have HK := Lib.hid (HK.out.then hk)
            clear hk
            dsimp only
            go_wp2_with (fail)
            have HK0 := HK
            clear HK
            have HK := HK0
            clear HK0
            refine (HS5.out _).mono ?_
            rintro e w1 ⟨rfl, hk⟩
            have HK := Lib.hid (HK.out.then hk)
            clear hk
            dsimp only
            go_wp2_with (fail)
            refine (fnan_yes _).mono ?_
            rintro e w1 ⟨rfl, hk⟩
            have HK := Lib.hid (HK.out.then hk)
            clear hk
            dsimp only
            go_wp2_with (fail)
            refine (HL6.out _).mono ?_
            rintro e w1 ⟨rfl, hk⟩
            have HK := Lib.hid (HK.out.then hk)
            clear hk
            dsimp only
            go_wp2_with (fail)
            refine (HNI.out _).mono ?_
            rintro e w1 ⟨rfl, hk⟩
            have HK := Lib.hid (HK.out.then hk)
            clear hk
            dsimp only
            go_wp2_with (fail)
            refine (HL7.out _).mono ?_
            rintro e w1 ⟨rfl, hk⟩
            have HK := Lib.hid (HK.out.then hk)
            clear hk
            dsimp only
            go_wp2_with (fail)
            refine (HSG.out _).mono ?_
            rintro e w1 ⟨rfl, hk⟩
            have HK := Lib.hid (HK.out.then hk)
            clear hk
            dsimp only
            go_wp2_with (fail)
            refine (HCC.out _).mono ?_
            rintro e w1 ⟨rfl, hk⟩
            have HK := Lib.hid (HK.out.then hk)
            clear hk
            dsimp only
            go_wp2_with (fail)
            refine (HAL.out _).mono ?_
            rintro e w1 ⟨rfl, hk⟩
            have HK := Lib.hid (HK.out.then hk)
            clear hk
            dsimp only
            go_wp2_with (fail)
            refine (wakes_yes _ (HG.out.kept HK.out)).mono ?_
            rintro e w1 ⟨rfl, hk⟩
            have HK := Lib.hid (HK.out.then hk)
            clear hk
            dsimp only
            go_wp2_with (fail)
            go_ret
            exact ⟨rfl, HK.out.below (Nat.le_refl _) (fun _ hf => hf.elim)⟩
          · skip
            refine (HCL.out _).mono ?_
            rintro e w1 ⟨rfl, hk⟩
            have HK := Lib.hid (HK.out.then hk)
            clear hk
            dsimp only
            go_wp2_with (fail)
            have HK0 := HK
            clear HK
            have HK := HK0
            clear HK0
            refine (HS5.out _).mono ?_
            rintro e w1 ⟨rfl, hk⟩
            have HK := Lib.hid (HK.out.then hk)
            clear hk
            dsimp only
            go_wp2_with (fail)
            refine (fnan_yes _).mono ?_
            rintro e w1 ⟨rfl, hk⟩
            have HK := Lib.hid (HK.out.then hk)
            clear hk
            dsimp only
            go_wp2_with (fail)
            refine (HL6.out _).mono ?_
            rintro e w1 ⟨rfl, hk⟩
            have HK := Lib.hid (HK.out.then hk)
            clear hk
            dsimp only
            go_wp2_with (fail)
            refine (HNI.out _).mono ?_
            rintro e w1 ⟨rfl, hk⟩
            have HK := Lib.hid (HK.out.then hk)
            clear hk
            dsimp only
            go_wp2_with (fail)
            refine (HL7.out _).mono ?_
            rintro e w1 ⟨rfl, hk⟩
            have HK := Lib.hid (HK.out.then hk)
            clear hk
            dsimp only
            go_wp2_with (fail)
            refine (HSG.out _).mono ?_
            rintro e w1 ⟨rfl, hk⟩
            have HK := Lib.hid (HK.out.then hk)
            clear hk
            dsimp only
            go_wp2_with (fail)
            refine (HCC.out _).mono ?_
            rintro e w1 ⟨rfl, hk⟩
            have HK := Lib.hid (HK.out.then hk)
            clear hk
            dsimp only
            go_wp2_with (fail)
            refine (HAL.out _).mono ?_
            rintro e w1 ⟨rfl, hk⟩
            have HK := Lib.hid (HK.out.then hk)
            clear hk
            dsimp only
            go_wp2_with (fail)
            refine (wakes_yes _ (HG.out.kept HK.out)).mono ?_
            rintro e w1 ⟨rfl, hk⟩
            have HK := Lib.hid (HK.out.then hk)
            clear hk
            dsimp only
            go_wp2_with (fail)
            go_ret
            exact ⟨rfl, HK.out.below (Nat.le_refl _) (fun _ hf => hf.elim)⟩
      · rw [show ((cnB false false true 3 : Nat) : Int) = 1 from rfl]
        go_wp2_with (fail)
        refine (HL1.out _).mono ?_
        rintro e w1 ⟨rfl, hk⟩
        have HK := Lib.hid (HK.out.then hk)
        clear hk
        dsimp only
        go_wp2_with (fail)
        refine (HS1.out _).mono ?_
        rintro e w1 ⟨rfl, hk⟩
        have HK := Lib.hid (HK.out.then hk)
        clear hk
        dsimp only
        go_wp2_with (fail)
        have hgx := HGX.out; have hgy := HGY.out; have hey := HEY.out
        cases gy
        · skip
          refine (HCL.out _).mono ?_
          rintro e w1 ⟨rfl, hk⟩
          have HK := Lib.hid (HK.out.then hk)
          clear hk
          dsimp only
          go_wp2_with (fail)
          have HK0 := HK
          clear HK
          have HK := HK0
          clear HK0
          refine (HS5.out _).mono ?_
          rintro e w1 ⟨rfl, hk⟩
          have HK := Lib.hid (HK.out.then hk)
          clear hk
          dsimp only
          go_wp2_with (fail)
          refine (fnan_yes _).mono ?_
          rintro e w1 ⟨rfl, hk⟩
          have HK := Lib.hid (HK.out.then hk)
          clear hk
          dsimp only
          go_wp2_with (fail)
          refine (HL6.out _).mono ?_
          rintro e w1 ⟨rfl, hk⟩
          have HK := Lib.hid (HK.out.then hk)
          clear hk
          dsimp only
          go_wp2_with (fail)
          refine (HNI.out _).mono ?_
          rintro e w1 ⟨rfl, hk⟩
          have HK := Lib.hid (HK.out.then hk)
          clear hk
          dsimp only
          go_wp2_with (fail)
          refine (HL7.out _).mono ?_
          rintro e w1 ⟨rfl, hk⟩
          have HK := Lib.hid (HK.out.then hk)
          clear hk
          dsimp only
          go_wp2_with (fail)
          refine (HSG.out _).mono ?_
          rintro e w1 ⟨rfl, hk⟩
          have HK := Lib.hid (HK.out.then hk)
          clear hk
          dsimp only
          go_wp2_with (fail)
          refine (HCC.out _).mono ?_
          rintro e w1 ⟨rfl, hk⟩
          have HK := Lib.hid (HK.out.then hk)
          clear hk
          dsimp only
          go_wp2_with (fail)
          refine (HAL.out _).mono ?_
          rintro e w1 ⟨rfl, hk⟩
          have HK := Lib.hid (HK.out.then hk)
          clear hk
          dsimp only
          go_wp2_with (fail)
          refine (wakes_yes _ (HG.out.kept HK.out)).mono ?_
          rintro e w1 ⟨rfl, hk⟩
          have HK := Lib.hid (HK.out.then hk)
          clear hk
          dsimp only
          go_wp2_with (fail)
          go_ret
          exact ⟨rfl, HK.out.below (Nat.le_refl _) (fun _ hf => hf.elim)⟩
        · skip
          refine (HCL.out _).mono ?_
          rintro e w1 ⟨rfl, hk⟩
          have HK := Lib.hid (HK.out.then hk)
          clear hk
          dsimp only
          go_wp2_with (fail)
          have HK0 := HK
          clear HK
          have HK := HK0
          clear HK0
          refine (HS5.out _).mono ?_
          rintro e w1 ⟨rfl, hk⟩
          have HK := Lib.hid (HK.out.then hk)
          clear hk
          dsimp only
          go_wp2_with (fail)
          refine (fnan_yes _).mono ?_
          rintro e w1 ⟨rfl, hk⟩
          have HK := Lib.hid (HK.out.then hk)
          clear hk
          dsimp only
          go_wp2_with (fail)
          refine (HL6.out _).mono ?_
          rintro e w1 ⟨rfl, hk⟩
          have HK := Lib.hid (HK.out.then hk)
          clear hk
          dsimp only
          go_wp2_with (fail)
          refine (HNI.out _).mono ?_
          rintro e w1 ⟨rfl, hk⟩
          have HK := Lib.hid (HK.out.then hk)
          clear hk
          dsimp only
          go_wp2_with (fail)
          refine (HL7.out _).mono ?_
          rintro e w1 ⟨rfl, hk⟩
          have HK := Lib.hid (HK.out.then hk)
          clear hk
          dsimp only
          go_wp2_with (fail)
          refine (HSG.out _).mono ?_
          rintro e w1 ⟨rfl, hk⟩
          have HK := Lib.hid (HK.out.then hk)
          clear hk
          dsimp only
          go_wp2_with (fail)
          refine (HCC.out _).mono ?_
          rintro e w1 ⟨rfl, hk⟩
          have HK := Lib.hid (HK.out.then hk)
          clear hk
          dsimp only
          go_wp2_with (fail)
          refine (HAL.out _).mono ?_
          rintro e w1 ⟨rfl, hk⟩
          have HK := Lib.hid (HK.out.then hk)
          clear hk
          dsimp only
          go_wp2_with (fail)
          refine (wakes_yes _ (HG.out.kept HK.out)).mono ?_
          rintro e w1 ⟨rfl, hk⟩
          have HK := Lib.hid (HK.out.then hk)
          clear hk
          dsimp only
          go_wp2_with (fail)
          go_ret
          exact ⟨rfl, HK.out.below (Nat.le_refl _) (fun _ hf => hf.elim)⟩
end Go.Proofs.YthjfeanmgaidcaaDoor
