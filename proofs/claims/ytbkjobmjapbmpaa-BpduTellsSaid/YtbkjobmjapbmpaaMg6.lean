/- Texts that belong together, one behind the other: EqS, BpB. Conditions: those of each. -/
import Derived.Test.YtbkjobmjapbmpaaMg5
import Derived.Test.YtbkjobmjapbmpaaMg4
import Derived.Test.YtbkjobmjapbmpaaMg1
import Derived.Test.YtbkjobmjapbmpaaMg2
import Derived.IntWalk
import Derived.Lib.Hide
/- Structs and arrays told apart, whatever they hold: laws of the walk. Nothing of the program is named here. -/
namespace Go.Proofs.Ytbkjobmjapbmpaa
open Go.RowKit Go.Sort
set_option linter.unusedVariables false

theorem run_eqS {P : Program} {w : World} (ty : TypeId) (x y : Operand) (cs ds : Array Value) (hG : P.eqGuardType P.depth ty = false) (b : Bool) (he : (Op.equalIn 10000 ty (.agg cs) (.agg ds)).run P w = .ok b w) :
    (do eqGuard .eql ty x y (.agg cs) (.agg ds); binOp .eql ty (.agg cs) (.agg ds) : Sem Value).run P w = .ok (.bool b) w := by
  have he' : (Op.equal ty (.agg cs) (.agg ds)).run P w = .ok b w := he
  have hp : (program : Sem Program).run P w = .ok P w := rfl
  simp [eqGuard, binOp, Sem.run_bind, Sem.run_pure, hp, hG, he', Result.andThen_ok]
theorem run_neS {P : Program} {w : World} (ty : TypeId) (x y : Operand) (cs ds : Array Value) (hG : P.eqGuardType P.depth ty = false) (b : Bool) (he : (Op.equalIn 10000 ty (.agg cs) (.agg ds)).run P w = .ok b w) :
    (do eqGuard .neq ty x y (.agg cs) (.agg ds); binOp .neq ty (.agg cs) (.agg ds) : Sem Value).run P w = .ok (.bool (!b)) w := by
  have he' : (Op.equal ty (.agg cs) (.agg ds)).run P w = .ok b w := he
  have hp : (program : Sem Program).run P w = .ok P w := rfl
  simp [eqGuard, binOp, Sem.run_bind, Sem.run_pure, hp, hG, he', Result.andThen_ok]
theorem wpList_eqS {P : Program} {w : World} {ops : Array Oper} {rest : List Oper} {o : Oper} {a : Act} {Q : Exit → Act → World → Prop} (hgd : Region.wanted o (yielded ops a.tmps) = true) (ty ty2 : TypeId) (x y : Operand) (ho : o.op = .binOp .eql ty x y ty2) (cs ds : Array Value) (hx : a.eval x = .agg cs) (hy : a.eval y = .agg ds)
    (hG : P.eqGuardType P.depth ty = false) (b : Bool) (he : (Op.equalIn 10000 ty (.agg cs) (.agg ds)).run P w = .ok b w) (h : wpList P ops Q rest (a.put o.dst (.bool b)) w) : wpList P ops Q (o :: rest) a w := by
  refine BigFrame.wpList_want hgd fun K hK => ?_
  unfold Oper.wp execOp
  have := run_eqS ty x y cs ds hG b he
  rw [Sem.run_bind] at this
  simp only [ho, hx, hy, Sem.run_bind, Sem.run_pure, Result.andThen_ok, this]
  exact hK _ _ h
theorem wpQuiet_eqS {P : Program} {ops : Array Oper} {C : World → Prop} {Q : Act → Prop} {o : Oper} {rest : List Oper} {a : Act} (hgd : Region.wanted o (yielded ops a.tmps) = true) (ty ty2 : TypeId) (x y : Operand) (ho : o.op = .binOp .eql ty x y ty2) (cs ds : Array Value) (hx : a.eval x = .agg cs) (hy : a.eval y = .agg ds)
    (hG : P.eqGuardType P.depth ty = false) (b : Bool) (he : ∀ w, (Op.equalIn 10000 ty (.agg cs) (.agg ds)).run P w = .ok b w) (h : wpQuiet P ops C Q rest (a.put o.dst (.bool b))) : wpQuiet P ops C Q (o :: rest) a := by
  unfold wpQuiet
  rw [if_pos hgd]
  refine ⟨.bool b, fun w hw => ?_, h⟩
  unfold Oper.quietAt execOp
  have := run_eqS ty x y cs ds hG b (he w)
  rw [Sem.run_bind] at this
  simp only [ho, hx, hy, Sem.run_bind, Sem.run_pure, Result.andThen_ok, this]
  exact ⟨rfl, rfl⟩
theorem wpQuiet_neS {P : Program} {ops : Array Oper} {C : World → Prop} {Q : Act → Prop} {o : Oper} {rest : List Oper} {a : Act} (hgd : Region.wanted o (yielded ops a.tmps) = true) (ty ty2 : TypeId) (x y : Operand) (ho : o.op = .binOp .neq ty x y ty2) (cs ds : Array Value) (hx : a.eval x = .agg cs) (hy : a.eval y = .agg ds)
    (hG : P.eqGuardType P.depth ty = false) (b : Bool) (he : ∀ w, (Op.equalIn 10000 ty (.agg cs) (.agg ds)).run P w = .ok b w) (h : wpQuiet P ops C Q rest (a.put o.dst (.bool (!b)))) : wpQuiet P ops C Q (o :: rest) a := by
  unfold wpQuiet
  rw [if_pos hgd]
  refine ⟨.bool (!b), fun w hw => ?_, h⟩
  unfold Oper.quietAt execOp
  have := run_neS ty x y cs ds hG b (he w)
  rw [Sem.run_bind] at this
  simp only [ho, hx, hy, Sem.run_bind, Sem.run_pure, Result.andThen_ok, this]
  exact ⟨rfl, rfl⟩
theorem wpList_neS {P : Program} {w : World} {ops : Array Oper} {rest : List Oper} {o : Oper} {a : Act} {Q : Exit → Act → World → Prop} (hgd : Region.wanted o (yielded ops a.tmps) = true) (ty ty2 : TypeId) (x y : Operand) (ho : o.op = .binOp .neq ty x y ty2) (cs ds : Array Value) (hx : a.eval x = .agg cs) (hy : a.eval y = .agg ds)
    (hG : P.eqGuardType P.depth ty = false) (b : Bool) (he : (Op.equalIn 10000 ty (.agg cs) (.agg ds)).run P w = .ok b w) (h : wpList P ops Q rest (a.put o.dst (.bool (!b))) w) : wpList P ops Q (o :: rest) a w := by
  refine BigFrame.wpList_want hgd fun K hK => ?_
  unfold Oper.wp execOp
  have := run_neS ty x y cs ds hG b he
  rw [Sem.run_bind] at this
  simp only [ho, hx, hy, Sem.run_bind, Sem.run_pure, Result.andThen_ok, this]
  exact hK _ _ h
end Go.Proofs.Ytbkjobmjapbmpaa
/- Package bpdu: mayBe, compared, Compare. -/
namespace Go.Proofs.Ytbkjobmjapbmpaa
open Go.RowKit Go.Sort
set_option linter.unusedVariables false

/-- A message boxed, and what has been made since. -/
theorem bp_box (w : World) (T : TypeId) (m : Bp) : BPB (w.alloc (.cells (bpl m).toArray T)) w.heap.size T m ∧ Kept Nil w (w.alloc (.cells (bpl m).toArray T)) := ⟨BPB.new w T m, (Kept.refl Nil w).alloc _⟩
set_option maxRecDepth 100000 in
theorem maybe_yes (m : Bp) (w : World) : Calls Try.prog 40 #[bpv m] w fun e w' => e = .returned (.bool (mayB m)) ∧ Kept Nil w w' := by
  have hP := bp_box w 26 m
  go_enter Try.func40, Try.ntmps40
  go_upto_region 1 with (fail)
  refine wp_nameE (fun W => BPB W w.heap.size 26 m ∧ Kept Nil w W) hP ?_
  clear hP
  rintro W ⟨hP, hk⟩
  have HK := Lib.hid hk
  have c0 := hP.c0
  have c6 := hP.c6
  have c7 := hP.c7
  have hall := hP.all
  clear hP hk
  by_cases h1 : m.kd = 1
  · have b1 : (m.kd == 1) = true := by simp [h1]
    have hm : mayB m = decide (m.ag < m.ma) := by unfold mayB; rw [if_pos (.inl h1)]
    have HM := Lib.hid hm
    clear h1 hm
    go_wp2
    go_ret
    exact ⟨by rw [HM.out]; rfl, HK.out⟩
  · have b1 : (m.kd == 1) = false := by simp [h1]
    by_cases h3 : m.kd = 3
    · have b3 : (m.kd == 3) = true := by simp [h3]
      have hm : mayB m = decide (m.ag < m.ma) := by unfold mayB; rw [if_pos (.inr h3)]
      have HM := Lib.hid hm
      clear h1 h3 hm
      go_wp2
      go_ret
      exact ⟨by rw [HM.out]; rfl, HK.out⟩
    · have b3 : (m.kd == 3) = false := by simp [h3]
      by_cases h2 : m.kd = 2
      · have b2 : (m.kd == 2) = true := by simp [h2]
        have hm : mayB m = decide (m = Bp.chg) := by unfold mayB; rw [if_neg (by omega), if_pos h2]
        have HM := Lib.hid hm
        have heq : (Op.equalIn 10000 26 (.agg (bpl m).toArray) (.agg #[.int .i64 2, .int .u8 0, .int .u64 0, .int .u64 0, .int .u32 0, .int .u16 0, .int .u16 0, .int .u16 0, .int .u16 0, .int .u16 0])).run Try.prog W = .ok (decide (m = Bp.chg)) W := eq_bp m Bp.chg W
        clear h1 h2 h3 hm
        go_wp2_with (first | (refine wpList_ld rfl _ _ rfl w.heap.size 0 rfl (bpl m) hall _ Try.underlying26 rfl (infBp m) ?_) | (refine wpList_eqS rfl _ _ _ _ rfl (bpl m).toArray _ rfl rfl (by kernel_rfl) _ heq ?_; simp only [Act.put, List.setIfInBounds_toArray, List.set_cons_succ, List.set_cons_zero]) | fail)
        go_ret
        exact ⟨by rw [HM.out]; rfl, HK.out⟩
      · have b2 : (m.kd == 2) = false := by simp [h2]
        have hm : mayB m = false := by unfold mayB; rw [if_neg (by omega), if_neg h2]
        have HM := Lib.hid hm
        clear h1 h2 h3 hm
        go_wp2
        go_ret
        exact ⟨by rw [HM.out]; rfl, HK.out⟩
theorem nan64 (x : Nat) (w : World) : Calls Try.prog 82 #[.int .u64 (x : Int)] w fun e w' => e = .returned (.bool false) ∧ Kept Nil w w' := by
  have hb : ((x : Int) != (x : Int)) = false := by simp
  go_enter Try.func82, Try.ntmps82
  go_wp2
  go_ret
  exact ⟨rfl, Kept.refl Nil w⟩
theorem nan32 (x : Nat) (w : World) : Calls Try.prog 83 #[.int .u32 (x : Int)] w fun e w' => e = .returned (.bool false) ∧ Kept Nil w w' := by
  have hb : ((x : Int) != (x : Int)) = false := by simp
  go_enter Try.func83, Try.ntmps83
  go_wp2
  go_ret
  exact ⟨rfl, Kept.refl Nil w⟩
theorem nan16 (x : Nat) (w : World) : Calls Try.prog 84 #[.int .u16 (x : Int)] w fun e w' => e = .returned (.bool false) ∧ Kept Nil w w' := by
  have hb : ((x : Int) != (x : Int)) = false := by simp
  go_enter Try.func84, Try.ntmps84
  go_wp2
  go_ret
  exact ⟨rfl, Kept.refl Nil w⟩
theorem cmp64 (x y : Nat) (w : World) : Calls Try.prog 49 #[.int .u64 (x : Int), .int .u64 (y : Int)] w fun e w' => e = .returned (.int .i64 (cmp1 x y)) ∧ Kept Nil w w' := by
  go_enter Try.func49, Try.ntmps49
  go_wp2_with (fail)
  refine (nan64 x _).mono ?_
  rintro e w1 ⟨rfl, hk1⟩
  have HK1 := Lib.hid hk1
  clear hk1
  go_wp2_with (fail)
  refine (nan64 y _).mono ?_
  rintro e w2 ⟨rfl, hk2⟩
  have HK2 := Lib.hid (HK1.out.then hk2)
  clear hk2 HK1
  by_cases h1 : x < y
  · have hi : (x : Int) < (y : Int) := by omega
    have hm : cmp1 x y = -1 := by unfold cmp1; rw [if_pos h1]
    have HM := Lib.hid hm
    clear hm h1
    go_wp2
    go_ret
    exact ⟨by rw [HM.out]; rfl, HK2.out⟩
  · by_cases h2 : y < x
    · have hi : ¬ (x : Int) < (y : Int) := by omega
      have hj : (y : Int) < (x : Int) := by omega
      have hm : cmp1 x y = 1 := by unfold cmp1; rw [if_neg h1, if_pos h2]
      have HM := Lib.hid hm
      clear hm h1 h2
      go_wp2
      go_ret
      exact ⟨by rw [HM.out]; rfl, HK2.out⟩
    · have hi : ¬ (x : Int) < (y : Int) := by omega
      have hj : ¬ (y : Int) < (x : Int) := by omega
      have hm : cmp1 x y = 0 := by unfold cmp1; rw [if_neg h1, if_neg h2]
      have HM := Lib.hid hm
      clear hm h1 h2
      go_wp2
      go_ret
      exact ⟨by rw [HM.out]; rfl, HK2.out⟩
theorem cmp32 (x y : Nat) (w : World) : Calls Try.prog 50 #[.int .u32 (x : Int), .int .u32 (y : Int)] w fun e w' => e = .returned (.int .i64 (cmp1 x y)) ∧ Kept Nil w w' := by
  go_enter Try.func50, Try.ntmps50
  go_wp2_with (fail)
  refine (nan32 x _).mono ?_
  rintro e w1 ⟨rfl, hk1⟩
  have HK1 := Lib.hid hk1
  clear hk1
  go_wp2_with (fail)
  refine (nan32 y _).mono ?_
  rintro e w2 ⟨rfl, hk2⟩
  have HK2 := Lib.hid (HK1.out.then hk2)
  clear hk2 HK1
  by_cases h1 : x < y
  · have hi : (x : Int) < (y : Int) := by omega
    have hm : cmp1 x y = -1 := by unfold cmp1; rw [if_pos h1]
    have HM := Lib.hid hm
    clear hm h1
    go_wp2
    go_ret
    exact ⟨by rw [HM.out]; rfl, HK2.out⟩
  · by_cases h2 : y < x
    · have hi : ¬ (x : Int) < (y : Int) := by omega
      have hj : (y : Int) < (x : Int) := by omega
      have hm : cmp1 x y = 1 := by unfold cmp1; rw [if_neg h1, if_pos h2]
      have HM := Lib.hid hm
      clear hm h1 h2
      go_wp2
      go_ret
      exact ⟨by rw [HM.out]; rfl, HK2.out⟩
    · have hi : ¬ (x : Int) < (y : Int) := by omega
      have hj : ¬ (y : Int) < (x : Int) := by omega
      have hm : cmp1 x y = 0 := by unfold cmp1; rw [if_neg h1, if_neg h2]
      have HM := Lib.hid hm
      clear hm h1 h2
      go_wp2
      go_ret
      exact ⟨by rw [HM.out]; rfl, HK2.out⟩
theorem cmp16 (x y : Nat) (w : World) : Calls Try.prog 51 #[.int .u16 (x : Int), .int .u16 (y : Int)] w fun e w' => e = .returned (.int .i64 (cmp1 x y)) ∧ Kept Nil w w' := by
  go_enter Try.func51, Try.ntmps51
  go_wp2_with (fail)
  refine (nan16 x _).mono ?_
  rintro e w1 ⟨rfl, hk1⟩
  have HK1 := Lib.hid hk1
  clear hk1
  go_wp2_with (fail)
  refine (nan16 y _).mono ?_
  rintro e w2 ⟨rfl, hk2⟩
  have HK2 := Lib.hid (HK1.out.then hk2)
  clear hk2 HK1
  by_cases h1 : x < y
  · have hi : (x : Int) < (y : Int) := by omega
    have hm : cmp1 x y = -1 := by unfold cmp1; rw [if_pos h1]
    have HM := Lib.hid hm
    clear hm h1
    go_wp2
    go_ret
    exact ⟨by rw [HM.out]; rfl, HK2.out⟩
  · by_cases h2 : y < x
    · have hi : ¬ (x : Int) < (y : Int) := by omega
      have hj : (y : Int) < (x : Int) := by omega
      have hm : cmp1 x y = 1 := by unfold cmp1; rw [if_neg h1, if_pos h2]
      have HM := Lib.hid hm
      clear hm h1 h2
      go_wp2
      go_ret
      exact ⟨by rw [HM.out]; rfl, HK2.out⟩
    · have hi : ¬ (x : Int) < (y : Int) := by omega
      have hj : ¬ (y : Int) < (x : Int) := by omega
      have hm : cmp1 x y = 0 := by unfold cmp1; rw [if_neg h1, if_neg h2]
      have HM := Lib.hid hm
      clear hm h1 h2
      go_wp2
      go_ret
      exact ⟨by rw [HM.out]; rfl, HK2.out⟩
set_option maxRecDepth 100000 in
set_option maxHeartbeats 1000000 in
theorem compared_yes (m : Bp) (w : World) : Calls Try.prog 47 #[bpv m] w fun e w' => e = .returned (bpv (cpdB m)) ∧ Kept Nil w w' := by
  have hP := bp_box w 26 m
  have hQ := BPB.new (w.alloc (.cells (bpl m).toArray 26)) 26 Bp.zero
  rw [World.size_alloc] at hQ
  go_enter Try.func47, Try.ntmps47
  go_upto_region 1 with (fail)
  refine wp_nameE (fun W => BPB W w.heap.size 26 m ∧ BPB W (w.heap.size + 1) 26 Bp.zero ∧ Kept Nil w W) ⟨hP.1.kept ((Kept.refl Nil _).alloc _) (fun hf => hf), hQ, hP.2.alloc _⟩ ?_
  clear hP hQ
  rintro W ⟨hP, hQ, hk⟩
  have HK := Lib.hid hk
  have HQ := Lib.hid hQ
  have c0 := hP.c0
  have hall := hP.all
  clear hP hk hQ
  by_cases h2 : m.kd = 2
  · have b2 : (m.kd == 2) = true := by simp [h2]
    have HM := Lib.hid (show cpdB m = Bp.chg by unfold cpdB; rw [if_pos h2])
    clear h2
    go_wp2_with (first
      | (refine wpList_st rfl 26 (.tmp 2) _ rfl _ 0 rfl (bpl Bp.chg) _ rfl rfl (infBp _) 26 (bpl Bp.zero) HQ.out (by decide) (bpl_one _) ?_; intro w2 hb2 hk2 hz2)
      | fail)
    have h2 := BPB.of_all (m := Bp.zero) (m' := Bp.chg) hb2
    refine bodyPost_ret (res_cell0 Try.results47 rfl h2.all Try.underlying26 rfl (infBp _)) rfl ⟨by rw [HM.out]; rfl, ?_⟩
    exact HK.out.fresh hk2 (fun i hi => by cases hi; omega)
  · have b2 : (m.kd == 2) = false := by simp [h2]
    have HM := Lib.hid (show cpdB m = m by unfold cpdB; rw [if_neg h2])
    clear h2
    go_wp2_with (first
      | (refine wpList_ld rfl _ _ rfl w.heap.size 0 rfl (bpl m) hall _ Try.underlying26 rfl (infBp m) ?_)
      | (refine wpList_st rfl 26 (.tmp 2) _ rfl _ 0 rfl (bpl m) _ rfl rfl (infBp _) 26 (bpl Bp.zero) HQ.out (by show 0 + 10 ≤ 10; decide) (bpl_one _) ?_; intro w2 hb2 hk2 hz2)
      | fail)
    have h2 := BPB.of_all (m := Bp.zero) (m' := m) hb2
    refine bodyPost_ret (res_cell0 Try.results47 rfl h2.all Try.underlying26 rfl (infBp _)) rfl ⟨by rw [HM.out]; rfl, ?_⟩
    exact HK.out.fresh hk2 (fun i hi => by cases hi; omega)
/-- cmp.Or: the first that is not 0. -/
theorem or_yes (A : Nat) (l : List Int) (t : TypeId) (w : World) (h : Blo w A t (l.map fun x : Int => Value.int .i64 x).toArray) (hl : l.length ≤ 1000000) : Calls Try.prog 48 #[.slice (some ⟨A, 0, none⟩) l.length l.length] w fun e w' => e = .returned (.int .i64 (orI l)) ∧ Kept Nil w w' := by
  go_enter Try.func48, Try.ntmps48
  go_wp2
  go_loopw [8] (fun i wr => ∃ k : Nat, k ≤ l.length ∧ i = .int .i64 (k : Int) ∧ orI (l.drop k) = orI l ∧ Kept Nil w wr) (fun i _ => l.length - (intOf i).toNat)
  case atStart => exact ⟨0, Nat.zero_le _, rfl, rfl, Kept.refl Nil w⟩
  case round =>
    obtain ⟨k, hk, rfl, ho, hkp⟩ := hrel
    have HKP := Lib.hid hkp
    by_cases hlt : k < l.length
    · have ha := (h.kept hkp (fun hf => hf)).cell k
      have hx : (l.map fun x : Int => Value.int .i64 x).toArray[k]? = some (.int .i64 l[k]) := by simp [hlt]
      rw [hx] at ha
      rw [List.drop_eq_getElem_cons hlt] at ho
      have hlt' : (k : Int) < (l.length : Int) := by omega
      have HO := Lib.hid ho
      obtain ⟨x, hxx⟩ : ∃ x, l[k] = x := ⟨_, rfl⟩
      rw [hxx] at ha HO
      clear hx ho hxx hkp h
      by_cases h0 : x = 0
      · have b0 : (x != 0) = false := by simp [h0]
        have HO := Lib.hid (show orI (l.drop (k + 1)) = orI l by have := HO.out; show _ = _; rw [← this]; show _ = orI (x :: _); unfold orI; rw [if_pos h0]; cases l.drop (k + 1) <;> rfl)
        clear h0
        go_wp2
        go_roundw
        case rel => exact ⟨k + 1, by omega, rfl, HO.out, HKP.out⟩
        case measure => show l.length - ((k : Int) + 1).toNat < l.length - (k : Int).toNat; omega
      · have b0 : (x != 0) = true := by simp [h0]
        have HO := Lib.hid (show x = orI l by have := HO.out; rw [← this]; show _ = orI (x :: _); unfold orI; rw [if_neg h0])
        clear h0
        go_wp2
        go_ret
        exact ⟨by rw [← HO.out]; rfl, HKP.out⟩
    · have hkl : k = l.length := by omega
      subst hkl
      have HO := Lib.hid (show 0 = orI l by rw [← ho, List.drop_length]; rfl)
      clear ho hkp h
      go_wp2
      go_ret
      exact ⟨by rw [← HO.out]; rfl, HKP.out⟩
end Go.Proofs.Ytbkjobmjapbmpaa
