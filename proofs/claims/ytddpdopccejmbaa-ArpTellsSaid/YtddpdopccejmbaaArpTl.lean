/- tolllaw05.ArpTells: the walk. -/
import Derived.Test.YtddpdopccejmbaaArpF
import Derived.Test.YtddpdopccejmbaaArpG
import Derived.Test.YtddpdopccejmbaaEthU
namespace Go.Proofs.Ytddpdopccejmbaa
open Go.RowKit Go.Sort
set_option linter.unusedVariables false

theorem sLex_asg {P : Program} {ops : Array Oper} {F : Nat → Prop} {W : World} {Z : TypeId → Array Value} {vs : Nat → Value} {Qf : Act → Own → Prop} {o : Oper} {rest : List Oper} {k : Nat} {a : Act} {L : Own} (x : Operand) (ho : o.op = .assign x) (hg : o.guard = none) (v : Value) (hx : a.eval x = v) (hv : vs k = v)
    (h2 : sLex P ops F W Z vs Qf rest (k + 1) (a.put o.dst v) L) : sLex P ops F W Z vs Qf (o :: rest) k a L := by
  subst hx
  exact sLex_assign x ho hg hv h2
/-- What the answers are, in each world. -/
def tlG (l : List UInt8) (i : Nat) (v : Value) (u : World) : Prop := if i = 2 then True else ∃ A n c, v = .slice A n c ∧ Byt u A n c l
theorem tlG_kept (l : List UInt8) (i : Nat) (v : Value) (u u' : World) (h : tlG l i v u) (k : Kept Nil u u') : tlG l i v u' := by
  unfold tlG at *
  split
  · trivial
  · rename_i h2
    rw [if_neg h2] at h
    obtain ⟨A, n, c, e, hy⟩ := h
    exact ⟨A, n, c, e, hy.kept k (fun _ _ hf => hf)⟩
def tlP (n : Nat) (i : Nat) (v : Value) : Prop := if i = 15 then v = .bool true else ∃ A c, v = .slice A n c
set_option maxRecDepth 100000 in
set_option maxHeartbeats 8000000 in
theorem atells_yes (p : Pk) (m : List UInt8) (w : World) (hp : p.ok) (hm : m.length = 6) :
    Calls Try.prog 5 #[pkv p, .agg (bys m).toArray] w fun e w' => e = .returned (.bool true) ∧ Below w.heap.size w w' := by
  have hP : PB ((w.alloc (.cells (pcs p).toArray 49)).alloc (.cells (bys m).toArray 23)) w.heap.size 49 p := Blo.alloc (PB.new w 49 p) _
  have hM : Row ((w.alloc (.cells (pcs p).toArray 49)).alloc (.cells (bys m).toArray 23)) (w.heap.size + 1) 0 (bys m) := by
    have := Blo.new (w.alloc (.cells (pcs p).toArray 49)) 23 (bys m).toArray
    rw [World.size_alloc] at this
    exact Blo.row [] (bys m) [] (by simpa using this)
  have hk : Kept Nil w ((w.alloc (.cells (pcs p).toArray 49)).alloc (.cells (bys m).toArray 23)) := ((Kept.refl Nil w).alloc _).alloc _
  have HOK := Lib.hid hp
  have HM6 := Lib.hid hm
  clear hp hm
  go_enter Try.func5, Try.ntmps5
  go_upto_region 1 with (fail)
  refine wp_nameE (fun W => PB W w.heap.size 49 p ∧ Row W (w.heap.size + 1) 0 (bys m) ∧ Kept Nil w W) ⟨hP, hM, hk⟩ ?_
  clear hP hM hk
  rintro W ⟨hP, hM, hk⟩
  have HP := Lib.hid hP
  have HM := Lib.hid hM
  have HK := Lib.hid hk
  clear hP hM hk
  go_wp2_with (first
    | (refine wpList_ld rfl _ _ rfl w.heap.size 0 rfl (pcs p) HP.out.all _ Try.underlying49 rfl (infP p HOK.out) ?_)
    | (refine wpList_ld rfl _ _ rfl (w.heap.size + 1) 0 rfl (bys m) HM.out _ Try.underlying23 rfl (infM m HM6.out) ?_)
    | fail)
  refine (reply_yes p HOK.out m HM6.out _).mono ?_
  rintro e w2 ⟨rfl, hk2⟩
  have hrr : ∀ u, Calls Try.prog 23 #[.agg (qcs p).toArray, .agg (bys m).toArray] u fun e w' => e = .returned (.tuple #[.agg (qcs (replyP p m).1).toArray, .bool (replyP p m).2]) ∧ Kept Nil u w' := fun u => rreply_yes p HOK.out m HM6.out u
  have hrok := replyP_ok p m HOK.out HM6.out
  have HP2 := Lib.hid (HP.out.kept hk2 (fun hf => hf))
  have HM2 := Lib.hid (Row.kept HM.out hk2 (fun hf => hf))
  have HK2 := Lib.hid (HK.out.then hk2)
  have HN2 := Lib.hid (PB.new w2 49 Pk.zero)
  clear hk2 HP HM HK
  generalize replyP p m = RB at *
  obtain ⟨R, B⟩ := RB
  simp only at hrr hrok ⊢
  have HROK := Lib.hid hrok
  clear hrok
  go_upto_region 2 with (first | (refine wpList_st rfl _ (.tmp 5) _ rfl _ 0 rfl (pcs R) _ rfl rfl (infP _ HROK.out) 49 _ HN2.out (by rw [pcs_len Pk.zero_ok, pcs_len HROK.out]; omega) (pcs_one _) ?_; intro w3 hb3 hk3 hz3) | fail)
  have hk23 := ((Kept.refl Nil w2).alloc (.cells (pcs Pk.zero).toArray 49)).fresh hk3 (fun i hi => by cases hi; exact Nat.le_refl _)
  have HR3 := Lib.hid (PB.of_all (p' := R) Pk.zero_ok HROK.out hb3)
  have HP3 := Lib.hid (HP2.out.kept hk23 (fun hf => hf))
  have HM3 := Lib.hid (Row.kept HM2.out hk23 (fun hf => hf))
  have HK3 := Lib.hid (HK2.out.then hk23)
  obtain ⟨g5, hg5⟩ : ∃ g, w2.heap.size = g := ⟨_, rfl⟩
  rw [hg5] at HR3 ⊢
  clear hb3 hk3 hz3 hk23 hg5 HP2 HM2 HK2 HN2
  have hof : ∀ u, Calls Try.prog 19 #[.agg (pcs p).toArray] u fun e w' => e = .returned (.agg (qcs p).toArray) ∧ Kept Nil u w' := fun u => of_yes p HOK.out u
  refine wp_region_own3 Nil (fun _ => none) (fun _ => (qcs Pk.zero).toArray) 7 (fun i => .bool B) (by kernel_rfl) (by kernel_rfl) (by kernel_rfl) ⟨Kept.refl _ _, fun _ _ _ _ h => by cases h⟩ ?_
  apply Exists.intro
  refine And.intro ?hqa ?hta
  case hqa =>
    intro V hV
    dsimp only [List.take]
    repeat (first
      | (refine wpQuiet_ld rfl _ _ rfl w.heap.size 0 rfl (pcs p) (fun w1 hw => row_grown (Row.kept HP3.out.all hV (fun hf => hf)) hw) _ Try.underlying49 rfl (infP p HOK.out) ?_; simp only [Act.put, List.setIfInBounds_toArray, List.set_cons_succ, List.set_cons_zero])
      | (refine wpQuiet_ld rfl _ _ rfl (w.heap.size + 1) 0 rfl (bys m) (fun w1 hw => row_grown (Row.kept HM3.out hV (fun hf => hf)) hw) _ Try.underlying23 rfl (infM m HM6.out) ?_; simp only [Act.put, List.setIfInBounds_toArray, List.set_cons_succ, List.set_cons_zero])
      | (go_big_quiet_step (first | with_reducible exact quietK (hof _) | with_reducible exact quietK (hrr _))))
    exact wpQuiet_nil rfl
  case hta =>
    intro vs hvs
    dsimp only [List.drop]
    refine sLex_alloc 53 rfl rfl (fun _ _ => by kernel_rfl) ?_
    intro g7 hg7 hL7
    refine sLex_store 53 (.tmp 7) (.tmp 20) rfl rfl rfl g7 (qcs Pk.zero).toArray (qcs R).toArray (by rfl) (by simp [upd]) (by rfl) (by rw [List.size_toArray, List.size_toArray, qcs_len Pk.zero_ok, qcs_len HROK.out]) (by rw [List.size_toArray]; exact infQ R HROK.out) (by simpa using qcs_one R) ?_
    refine sLex_asg (.tmp 21) rfl rfl (.bool B) rfl (hvs 9 (by decide)) ?_
    simp only [Act.put, List.setIfInBounds_toArray, List.set_cons_succ, List.set_cons_zero]
    intro w5 hh
    have hq5 : QB w5 g7 53 R := (hh.own g7 true (qcs R).toArray 53 (by simp [upd])).2
    have hk35 := hh.kept
    have HQ5 := Lib.hid hq5
    have HR5 := Lib.hid (HR3.out.kept hk35 (fun hf => hf))
    have HP5 := Lib.hid (HP3.out.kept hk35 (fun hf => hf))
    have HK5 := Lib.hid (HK3.out.then hk35)
    clear hq5 hk35 hh hvs hrr HR3 HP3 HM3 HK3 hg7 hL7
    go_wp2_with (fail)
    have hofR : ∀ u, Calls Try.prog 19 #[.agg (pcs R).toArray] u fun e w' => e = .returned (.agg (qcs R).toArray) ∧ Kept Nil u w' := fun u => of_yes R HROK.out u
    have hmy : ∀ u, Calls Try.prog 26 #[.agg (pcs p).toArray] u fun e w' => e = .returned (.bool (mayP p)) ∧ Kept Nil u w' := fun u => pmay_yes p HOK.out u
    have hpr : ∀ u, Calls Try.prog 27 #[.agg (pcs p).toArray] u fun e w' => e = .returned (.bool (probesP p)) ∧ Kept Nil u w' := fun u => probes_yes p HOK.out u
    have hrp : ∀ u, Calls Try.prog 28 #[.agg (qcs p).toArray] u fun e w' => e = .returned (.bool (probesP p)) ∧ Kept Nil u w' := fun u => rprobes_yes p HOK.out u
    have hit : ∀ u, Calls Try.prog 29 #[.agg (pcs p).toArray] u fun e w' => e = .returned (.bool (itselfP p)) ∧ Kept Nil u w' := fun u => itself_yes p HOK.out u
    have hri : ∀ u, Calls Try.prog 30 #[.agg (qcs p).toArray] u fun e w' => e = .returned (.bool (itselfP p)) ∧ Kept Nil u w' := fun u => ritself_yes p HOK.out u
    have heq : ∀ u, (Op.equalIn 10000 53 (.agg (qcs R).toArray) (.agg (qcs R).toArray)).run Try.prog u = .ok true u := fun u => by
      have := eq_qk R R HROK.out HROK.out u
      rw [decide_eq_true rfl] at this
      exact this
    cases hm : mayP p
    · have HLN := Lib.hid (show (bytesP p).length = 0 by unfold bytesP; rw [hm]; first | rfl | exact formP_len HOK.out)
      rw [hm] at hmy
      clear hm
      refine wp_region_acts Nil [11, 14, 15, 22] (fun i vl => (#[], 0)) (fun i => if i = 1 then .agg (qcs R).toArray else if i = 19 then .bool false else if i = 23 then .int .i64 0 else if i = 29 ∨ i = 32 then .bool (probesP p) else if i = 37 ∨ i = 40 then .bool (itselfP p) else if i = 44 then .bool true else .agg (qcs p).toArray) (actI (tlG (bytesP p))) (tlP 0) 47 (by kernel_rfl) (by kernel_rfl) (actI_keeps (tlG_kept (bytesP p))) actI_nil ?_
      simp only [List.take_succ_cons, List.take_zero, List.drop_succ_cons, List.drop_zero]
      refine tLex_quiets 11 rfl (by kernel_rfl) ?_
      simp only [List.take_succ_cons, List.take_zero, List.drop_succ_cons, List.drop_zero]
      apply Exists.intro
      refine ⟨?hq1, ?hv1, ?ht1⟩
      case hq1 =>
        intro V hV
        repeat (first
          | (refine wpQuiet_ld rfl _ _ rfl g5 0 rfl (pcs R) (fun w1 hw => row_grown (Row.kept HR5.out.all hV (fun hf => hf)) hw) _ Try.underlying49 rfl (infP R HROK.out) ?_; simp only [Act.put, List.setIfInBounds_toArray, List.set_cons_succ, List.set_cons_zero])
          | (refine wpQuiet_ld rfl _ _ rfl g7 0 rfl (qcs R) (fun w1 hw => row_grown (Row.kept HQ5.out.all hV (fun hf => hf)) hw) _ Try.underlying53 rfl (infQ R HROK.out) ?_; simp only [Act.put, List.setIfInBounds_toArray, List.set_cons_succ, List.set_cons_zero])
          | (refine wpQuiet_ld rfl _ _ rfl w.heap.size 0 rfl (pcs p) (fun w1 hw => row_grown (Row.kept HP5.out.all hV (fun hf => hf)) hw) _ Try.underlying49 rfl (infP p HOK.out) ?_; simp only [Act.put, List.setIfInBounds_toArray, List.set_cons_succ, List.set_cons_zero])
          | (go_big_quiet_step (first | with_reducible exact quietK (hofR _) | with_reducible exact quietK (hof _) | with_reducible exact quietK (hmy _) | with_reducible exact quietK (hpr _) | with_reducible exact quietK (hrp _) | with_reducible exact quietK (hit _) | with_reducible exact quietK (hri _) | with_reducible exact quietK (wakes_yes _))))
        exact wpQuiet_nil rfl
      case hv1 => exact ⟨trivial, rfl, trivial, trivial, trivial, trivial, trivial, trivial, trivial, trivial, trivial, trivial⟩
      case ht1 =>
        refine tLex_act 24 #[.agg (pcs p).toArray] (fun u => ?he2) rfl rfl (.slice none 0 0) ⟨_, _, rfl⟩ ?hc2 ?_
        case he2 => simp [execOp, go_sem]
        case hc2 =>
          intro D u hu hI hdd
          refine (pbytes_yes p HOK.out u).mono ?_
          rintro e w' ⟨v, rfl, hm⟩
          obtain ⟨A, c, rfl, hy, _⟩ := byt_own hm
          rw [HLN.out] at hy ⊢
          exact ⟨_, rfl, ⟨A, c, rfl⟩, hu.then hm.2, actI_snoc (tlG_kept (bytesP p)) hI hm.2 0 rfl ⟨A, 0, c, rfl, hy⟩, hm.2.size, fun k _ h2 => hm.2.block k h2 (fun hf => hf)⟩
        rintro r2 ⟨A2, c2, rfl⟩
        simp only [Act.put, List.setIfInBounds_toArray, List.set_cons_succ, List.set_cons_zero]
        refine tLex_quiets 2 rfl (by kernel_rfl) ?_
        simp only [List.take_succ_cons, List.take_zero, List.drop_succ_cons, List.drop_zero]
        apply Exists.intro
        refine ⟨?hq3, ?hv3, ?ht3⟩
        case hq3 =>
          intro V hV
          repeat (first
            | (refine wpQuiet_ld rfl _ _ rfl g5 0 rfl (pcs R) (fun w1 hw => row_grown (Row.kept HR5.out.all hV (fun hf => hf)) hw) _ Try.underlying49 rfl (infP R HROK.out) ?_; simp only [Act.put, List.setIfInBounds_toArray, List.set_cons_succ, List.set_cons_zero])
            | (refine wpQuiet_ld rfl _ _ rfl g7 0 rfl (qcs R) (fun w1 hw => row_grown (Row.kept HQ5.out.all hV (fun hf => hf)) hw) _ Try.underlying53 rfl (infQ R HROK.out) ?_; simp only [Act.put, List.setIfInBounds_toArray, List.set_cons_succ, List.set_cons_zero])
            | (refine wpQuiet_ld rfl _ _ rfl w.heap.size 0 rfl (pcs p) (fun w1 hw => row_grown (Row.kept HP5.out.all hV (fun hf => hf)) hw) _ Try.underlying49 rfl (infP p HOK.out) ?_; simp only [Act.put, List.setIfInBounds_toArray, List.set_cons_succ, List.set_cons_zero])
            | (go_big_quiet_step (first | with_reducible exact quietK (hofR _) | with_reducible exact quietK (hof _) | with_reducible exact quietK (hmy _) | with_reducible exact quietK (hpr _) | with_reducible exact quietK (hrp _) | with_reducible exact quietK (hit _) | with_reducible exact quietK (hri _) | with_reducible exact quietK (wakes_yes _))))
          exact wpQuiet_nil rfl
        case hv3 => exact ⟨trivial, rfl, trivial⟩
        case ht3 =>
          refine tLex_act 25 #[.agg (qcs p).toArray] (fun u => ?he4) rfl rfl (.slice none 0 0) ⟨_, _, rfl⟩ ?hc4 ?_
          case he4 => simp [execOp, go_sem]
          case hc4 =>
            intro D u hu hI hdd
            refine (rbytes_yes p HOK.out u).mono ?_
            rintro e w' ⟨v, rfl, hm⟩
            obtain ⟨A, c, rfl, hy, _⟩ := byt_own hm
            rw [HLN.out] at hy ⊢
            exact ⟨_, rfl, ⟨A, c, rfl⟩, hu.then hm.2, actI_snoc (tlG_kept (bytesP p)) hI hm.2 1 rfl ⟨A, 0, c, rfl, hy⟩, hm.2.size, fun k _ h2 => hm.2.block k h2 (fun hf => hf)⟩
          rintro r4 ⟨A4, c4, rfl⟩
          simp only [Act.put, List.setIfInBounds_toArray, List.set_cons_succ, List.set_cons_zero]
          refine tLex_act 20 #[.slice A2 0 c2, .slice A4 0 c4] (fun u => ?he5) rfl rfl (.bool true) rfl ?hc5 ?_
          case he5 => simp [execOp, go_sem]
          case hc5 =>
            intro D u hu hI hdd
            obtain ⟨A, n1, c, e1, hy1⟩ := hI 0 _ rfl
            cases e1
            obtain ⟨A, n1, c, e1, hy2⟩ := hI 1 _ rfl
            cases e1
            refine (equal _ _ _ _ _ _ _ _ _ hy1 hy2).mono ?_
            rintro e w' ⟨rfl, rfl⟩
            rw [beq_self_eq_true]
            exact ⟨_, rfl, rfl, hu, actI_snoc (tlG_kept (bytesP p)) hI (Kept.refl _ _) 2 rfl trivial, Nat.le_refl _, fun _ _ _ => rfl⟩
          intro v5 hv5
          obtain rfl : v5 = .bool true := hv5
          simp only [Act.put, List.setIfInBounds_toArray, List.set_cons_succ, List.set_cons_zero]
          refine tLex_quiets 6 rfl (by kernel_rfl) ?_
          simp only [List.take_succ_cons, List.take_zero, List.drop_succ_cons, List.drop_zero]
          apply Exists.intro
          refine ⟨?hq6, ?hv6, ?ht6⟩
          case hq6 =>
            intro V hV
            repeat (first
              | (refine wpQuiet_ld rfl _ _ rfl g5 0 rfl (pcs R) (fun w1 hw => row_grown (Row.kept HR5.out.all hV (fun hf => hf)) hw) _ Try.underlying49 rfl (infP R HROK.out) ?_; simp only [Act.put, List.setIfInBounds_toArray, List.set_cons_succ, List.set_cons_zero])
              | (refine wpQuiet_ld rfl _ _ rfl g7 0 rfl (qcs R) (fun w1 hw => row_grown (Row.kept HQ5.out.all hV (fun hf => hf)) hw) _ Try.underlying53 rfl (infQ R HROK.out) ?_; simp only [Act.put, List.setIfInBounds_toArray, List.set_cons_succ, List.set_cons_zero])
              | (refine wpQuiet_ld rfl _ _ rfl w.heap.size 0 rfl (pcs p) (fun w1 hw => row_grown (Row.kept HP5.out.all hV (fun hf => hf)) hw) _ Try.underlying49 rfl (infP p HOK.out) ?_; simp only [Act.put, List.setIfInBounds_toArray, List.set_cons_succ, List.set_cons_zero])
              | (go_big_quiet_step (first | with_reducible exact quietK (hofR _) | with_reducible exact quietK (hof _) | with_reducible exact quietK (hmy _) | with_reducible exact quietK (hpr _) | with_reducible exact quietK (hrp _) | with_reducible exact quietK (hit _) | with_reducible exact quietK (hri _) | with_reducible exact quietK (wakes_yes _))))
            exact wpQuiet_nil rfl
          case hv6 => exact ⟨trivial, trivial, trivial, rfl, trivial, rfl, trivial⟩
          case ht6 =>
            refine tLex_act 25 #[.agg (qcs p).toArray] (fun u => ?he7) rfl rfl (.slice none 0 0) ⟨_, _, rfl⟩ ?hc7 ?_
            case he7 => simp [execOp, go_sem]
            case hc7 =>
              intro D u hu hI hdd
              refine (rbytes_yes p HOK.out u).mono ?_
              rintro e w' ⟨v, rfl, hm⟩
              obtain ⟨A, c, rfl, hy, _⟩ := byt_own hm
              rw [HLN.out] at hy ⊢
              exact ⟨_, rfl, ⟨A, c, rfl⟩, hu.then hm.2, actI_snoc (tlG_kept (bytesP p)) hI hm.2 3 rfl ⟨A, 0, c, rfl, hy⟩, hm.2.size, fun k _ h2 => hm.2.block k h2 (fun hf => hf)⟩
            rintro r7 ⟨A7, c7, rfl⟩
            simp only [Act.put, List.setIfInBounds_toArray, List.set_cons_succ, List.set_cons_zero]
            refine tLex_quiets 24 rfl (by kernel_rfl) ?_
            simp only [List.take_succ_cons, List.take_zero, List.drop_succ_cons, List.drop_zero]
            apply Exists.intro
            refine ⟨?hq8, ?hv8, ?ht8⟩
            case hq8 =>
              intro V hV
              repeat (first
                | (refine wpQuiet_ld rfl _ _ rfl g5 0 rfl (pcs R) (fun w1 hw => row_grown (Row.kept HR5.out.all hV (fun hf => hf)) hw) _ Try.underlying49 rfl (infP R HROK.out) ?_; simp only [Act.put, List.setIfInBounds_toArray, List.set_cons_succ, List.set_cons_zero])
                | (refine wpQuiet_ld rfl _ _ rfl g7 0 rfl (qcs R) (fun w1 hw => row_grown (Row.kept HQ5.out.all hV (fun hf => hf)) hw) _ Try.underlying53 rfl (infQ R HROK.out) ?_; simp only [Act.put, List.setIfInBounds_toArray, List.set_cons_succ, List.set_cons_zero])
                | (refine wpQuiet_ld rfl _ _ rfl w.heap.size 0 rfl (pcs p) (fun w1 hw => row_grown (Row.kept HP5.out.all hV (fun hf => hf)) hw) _ Try.underlying49 rfl (infP p HOK.out) ?_; simp only [Act.put, List.setIfInBounds_toArray, List.set_cons_succ, List.set_cons_zero])
                | (go_big_quiet_step (first | with_reducible exact quietK (hofR _) | with_reducible exact quietK (hof _) | with_reducible exact quietK (hmy _) | with_reducible exact quietK (hpr _) | with_reducible exact quietK (hrp _) | with_reducible exact quietK (hit _) | with_reducible exact quietK (hri _) | with_reducible exact quietK (wakes_yes _))))
              exact wpQuiet_nil rfl
            case hv8 => exact ⟨rfl, trivial, trivial, trivial, trivial, trivial, rfl, trivial, rfl, rfl, trivial, trivial, trivial, trivial, rfl, trivial, rfl, rfl, trivial, trivial, trivial, rfl, trivial, trivial, trivial⟩
            case ht8 =>
              intro w11 hs
              have HK11 := Lib.hid (HK5.out.then hs.kept)
              clear hs
              go_wp2
              go_ret
              exact ⟨rfl, HK11.out.below (Nat.le_refl _) (fun _ hf => hf.elim)⟩
    · have HLN := Lib.hid (show (bytesP p).length = 28 by unfold bytesP; rw [hm]; first | rfl | exact formP_len HOK.out)
      rw [hm] at hmy
      clear hm
      refine wp_region_acts Nil [11, 14, 15, 22] (fun i vl => (#[], 0)) (fun i => if i = 1 then .agg (qcs R).toArray else if i = 19 then .bool true else if i = 23 then .int .i64 28 else if i = 29 ∨ i = 32 then .bool (probesP p) else if i = 37 ∨ i = 40 then .bool (itselfP p) else if i = 44 then .bool true else .agg (qcs p).toArray) (actI (tlG (bytesP p))) (tlP 28) 47 (by kernel_rfl) (by kernel_rfl) (actI_keeps (tlG_kept (bytesP p))) actI_nil ?_
      simp only [List.take_succ_cons, List.take_zero, List.drop_succ_cons, List.drop_zero]
      refine tLex_quiets 11 rfl (by kernel_rfl) ?_
      simp only [List.take_succ_cons, List.take_zero, List.drop_succ_cons, List.drop_zero]
      apply Exists.intro
      refine ⟨?hq1, ?hv1, ?ht1⟩
      case hq1 =>
        intro V hV
        repeat (first
          | (refine wpQuiet_ld rfl _ _ rfl g5 0 rfl (pcs R) (fun w1 hw => row_grown (Row.kept HR5.out.all hV (fun hf => hf)) hw) _ Try.underlying49 rfl (infP R HROK.out) ?_; simp only [Act.put, List.setIfInBounds_toArray, List.set_cons_succ, List.set_cons_zero])
          | (refine wpQuiet_ld rfl _ _ rfl g7 0 rfl (qcs R) (fun w1 hw => row_grown (Row.kept HQ5.out.all hV (fun hf => hf)) hw) _ Try.underlying53 rfl (infQ R HROK.out) ?_; simp only [Act.put, List.setIfInBounds_toArray, List.set_cons_succ, List.set_cons_zero])
          | (refine wpQuiet_ld rfl _ _ rfl w.heap.size 0 rfl (pcs p) (fun w1 hw => row_grown (Row.kept HP5.out.all hV (fun hf => hf)) hw) _ Try.underlying49 rfl (infP p HOK.out) ?_; simp only [Act.put, List.setIfInBounds_toArray, List.set_cons_succ, List.set_cons_zero])
          | (go_big_quiet_step (first | with_reducible exact quietK (hofR _) | with_reducible exact quietK (hof _) | with_reducible exact quietK (hmy _) | with_reducible exact quietK (hpr _) | with_reducible exact quietK (hrp _) | with_reducible exact quietK (hit _) | with_reducible exact quietK (hri _) | with_reducible exact quietK (wakes_yes _))))
        exact wpQuiet_nil rfl
      case hv1 => exact ⟨trivial, rfl, trivial, trivial, trivial, trivial, trivial, trivial, trivial, trivial, trivial, trivial⟩
      case ht1 =>
        refine tLex_act 24 #[.agg (pcs p).toArray] (fun u => ?he2) rfl rfl (.slice none 28 0) ⟨_, _, rfl⟩ ?hc2 ?_
        case he2 => simp [execOp, go_sem]
        case hc2 =>
          intro D u hu hI hdd
          refine (pbytes_yes p HOK.out u).mono ?_
          rintro e w' ⟨v, rfl, hm⟩
          obtain ⟨A, c, rfl, hy, _⟩ := byt_own hm
          rw [HLN.out] at hy ⊢
          exact ⟨_, rfl, ⟨A, c, rfl⟩, hu.then hm.2, actI_snoc (tlG_kept (bytesP p)) hI hm.2 0 rfl ⟨A, 28, c, rfl, hy⟩, hm.2.size, fun k _ h2 => hm.2.block k h2 (fun hf => hf)⟩
        rintro r2 ⟨A2, c2, rfl⟩
        simp only [Act.put, List.setIfInBounds_toArray, List.set_cons_succ, List.set_cons_zero]
        refine tLex_quiets 2 rfl (by kernel_rfl) ?_
        simp only [List.take_succ_cons, List.take_zero, List.drop_succ_cons, List.drop_zero]
        apply Exists.intro
        refine ⟨?hq3, ?hv3, ?ht3⟩
        case hq3 =>
          intro V hV
          repeat (first
            | (refine wpQuiet_ld rfl _ _ rfl g5 0 rfl (pcs R) (fun w1 hw => row_grown (Row.kept HR5.out.all hV (fun hf => hf)) hw) _ Try.underlying49 rfl (infP R HROK.out) ?_; simp only [Act.put, List.setIfInBounds_toArray, List.set_cons_succ, List.set_cons_zero])
            | (refine wpQuiet_ld rfl _ _ rfl g7 0 rfl (qcs R) (fun w1 hw => row_grown (Row.kept HQ5.out.all hV (fun hf => hf)) hw) _ Try.underlying53 rfl (infQ R HROK.out) ?_; simp only [Act.put, List.setIfInBounds_toArray, List.set_cons_succ, List.set_cons_zero])
            | (refine wpQuiet_ld rfl _ _ rfl w.heap.size 0 rfl (pcs p) (fun w1 hw => row_grown (Row.kept HP5.out.all hV (fun hf => hf)) hw) _ Try.underlying49 rfl (infP p HOK.out) ?_; simp only [Act.put, List.setIfInBounds_toArray, List.set_cons_succ, List.set_cons_zero])
            | (go_big_quiet_step (first | with_reducible exact quietK (hofR _) | with_reducible exact quietK (hof _) | with_reducible exact quietK (hmy _) | with_reducible exact quietK (hpr _) | with_reducible exact quietK (hrp _) | with_reducible exact quietK (hit _) | with_reducible exact quietK (hri _) | with_reducible exact quietK (wakes_yes _))))
          exact wpQuiet_nil rfl
        case hv3 => exact ⟨trivial, rfl, trivial⟩
        case ht3 =>
          refine tLex_act 25 #[.agg (qcs p).toArray] (fun u => ?he4) rfl rfl (.slice none 28 0) ⟨_, _, rfl⟩ ?hc4 ?_
          case he4 => simp [execOp, go_sem]
          case hc4 =>
            intro D u hu hI hdd
            refine (rbytes_yes p HOK.out u).mono ?_
            rintro e w' ⟨v, rfl, hm⟩
            obtain ⟨A, c, rfl, hy, _⟩ := byt_own hm
            rw [HLN.out] at hy ⊢
            exact ⟨_, rfl, ⟨A, c, rfl⟩, hu.then hm.2, actI_snoc (tlG_kept (bytesP p)) hI hm.2 1 rfl ⟨A, 28, c, rfl, hy⟩, hm.2.size, fun k _ h2 => hm.2.block k h2 (fun hf => hf)⟩
          rintro r4 ⟨A4, c4, rfl⟩
          simp only [Act.put, List.setIfInBounds_toArray, List.set_cons_succ, List.set_cons_zero]
          refine tLex_act 20 #[.slice A2 28 c2, .slice A4 28 c4] (fun u => ?he5) rfl rfl (.bool true) rfl ?hc5 ?_
          case he5 => simp [execOp, go_sem]
          case hc5 =>
            intro D u hu hI hdd
            obtain ⟨A, n1, c, e1, hy1⟩ := hI 0 _ rfl
            cases e1
            obtain ⟨A, n1, c, e1, hy2⟩ := hI 1 _ rfl
            cases e1
            refine (equal _ _ _ _ _ _ _ _ _ hy1 hy2).mono ?_
            rintro e w' ⟨rfl, rfl⟩
            rw [beq_self_eq_true]
            exact ⟨_, rfl, rfl, hu, actI_snoc (tlG_kept (bytesP p)) hI (Kept.refl _ _) 2 rfl trivial, Nat.le_refl _, fun _ _ _ => rfl⟩
          intro v5 hv5
          obtain rfl : v5 = .bool true := hv5
          simp only [Act.put, List.setIfInBounds_toArray, List.set_cons_succ, List.set_cons_zero]
          refine tLex_quiets 6 rfl (by kernel_rfl) ?_
          simp only [List.take_succ_cons, List.take_zero, List.drop_succ_cons, List.drop_zero]
          apply Exists.intro
          refine ⟨?hq6, ?hv6, ?ht6⟩
          case hq6 =>
            intro V hV
            repeat (first
              | (refine wpQuiet_ld rfl _ _ rfl g5 0 rfl (pcs R) (fun w1 hw => row_grown (Row.kept HR5.out.all hV (fun hf => hf)) hw) _ Try.underlying49 rfl (infP R HROK.out) ?_; simp only [Act.put, List.setIfInBounds_toArray, List.set_cons_succ, List.set_cons_zero])
              | (refine wpQuiet_ld rfl _ _ rfl g7 0 rfl (qcs R) (fun w1 hw => row_grown (Row.kept HQ5.out.all hV (fun hf => hf)) hw) _ Try.underlying53 rfl (infQ R HROK.out) ?_; simp only [Act.put, List.setIfInBounds_toArray, List.set_cons_succ, List.set_cons_zero])
              | (refine wpQuiet_ld rfl _ _ rfl w.heap.size 0 rfl (pcs p) (fun w1 hw => row_grown (Row.kept HP5.out.all hV (fun hf => hf)) hw) _ Try.underlying49 rfl (infP p HOK.out) ?_; simp only [Act.put, List.setIfInBounds_toArray, List.set_cons_succ, List.set_cons_zero])
              | (go_big_quiet_step (first | with_reducible exact quietK (hofR _) | with_reducible exact quietK (hof _) | with_reducible exact quietK (hmy _) | with_reducible exact quietK (hpr _) | with_reducible exact quietK (hrp _) | with_reducible exact quietK (hit _) | with_reducible exact quietK (hri _) | with_reducible exact quietK (wakes_yes _))))
            exact wpQuiet_nil rfl
          case hv6 => exact ⟨trivial, trivial, trivial, rfl, trivial, rfl, trivial⟩
          case ht6 =>
            refine tLex_act 25 #[.agg (qcs p).toArray] (fun u => ?he7) rfl rfl (.slice none 28 0) ⟨_, _, rfl⟩ ?hc7 ?_
            case he7 => simp [execOp, go_sem]
            case hc7 =>
              intro D u hu hI hdd
              refine (rbytes_yes p HOK.out u).mono ?_
              rintro e w' ⟨v, rfl, hm⟩
              obtain ⟨A, c, rfl, hy, _⟩ := byt_own hm
              rw [HLN.out] at hy ⊢
              exact ⟨_, rfl, ⟨A, c, rfl⟩, hu.then hm.2, actI_snoc (tlG_kept (bytesP p)) hI hm.2 3 rfl ⟨A, 28, c, rfl, hy⟩, hm.2.size, fun k _ h2 => hm.2.block k h2 (fun hf => hf)⟩
            rintro r7 ⟨A7, c7, rfl⟩
            simp only [Act.put, List.setIfInBounds_toArray, List.set_cons_succ, List.set_cons_zero]
            refine tLex_quiets 24 rfl (by kernel_rfl) ?_
            simp only [List.take_succ_cons, List.take_zero, List.drop_succ_cons, List.drop_zero]
            apply Exists.intro
            refine ⟨?hq8, ?hv8, ?ht8⟩
            case hq8 =>
              intro V hV
              repeat (first
                | (refine wpQuiet_ld rfl _ _ rfl g5 0 rfl (pcs R) (fun w1 hw => row_grown (Row.kept HR5.out.all hV (fun hf => hf)) hw) _ Try.underlying49 rfl (infP R HROK.out) ?_; simp only [Act.put, List.setIfInBounds_toArray, List.set_cons_succ, List.set_cons_zero])
                | (refine wpQuiet_ld rfl _ _ rfl g7 0 rfl (qcs R) (fun w1 hw => row_grown (Row.kept HQ5.out.all hV (fun hf => hf)) hw) _ Try.underlying53 rfl (infQ R HROK.out) ?_; simp only [Act.put, List.setIfInBounds_toArray, List.set_cons_succ, List.set_cons_zero])
                | (refine wpQuiet_ld rfl _ _ rfl w.heap.size 0 rfl (pcs p) (fun w1 hw => row_grown (Row.kept HP5.out.all hV (fun hf => hf)) hw) _ Try.underlying49 rfl (infP p HOK.out) ?_; simp only [Act.put, List.setIfInBounds_toArray, List.set_cons_succ, List.set_cons_zero])
                | (go_big_quiet_step (first | with_reducible exact quietK (hofR _) | with_reducible exact quietK (hof _) | with_reducible exact quietK (hmy _) | with_reducible exact quietK (hpr _) | with_reducible exact quietK (hrp _) | with_reducible exact quietK (hit _) | with_reducible exact quietK (hri _) | with_reducible exact quietK (wakes_yes _))))
              exact wpQuiet_nil rfl
            case hv8 => exact ⟨rfl, trivial, trivial, trivial, trivial, trivial, rfl, trivial, rfl, rfl, trivial, trivial, trivial, trivial, rfl, trivial, rfl, rfl, trivial, trivial, trivial, rfl, trivial, trivial, trivial⟩
            case ht8 =>
              intro w11 hs
              have HK11 := Lib.hid (HK5.out.then hs.kept)
              clear hs
              go_wp2
              go_ret
              exact ⟨rfl, HK11.out.below (Nat.le_refl _) (fun _ hf => hf.elim)⟩
end Go.Proofs.Ytddpdopccejmbaa
