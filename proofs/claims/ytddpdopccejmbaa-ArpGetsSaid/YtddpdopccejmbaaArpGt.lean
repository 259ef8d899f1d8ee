/- tolllaw05.ArpGets: the walk. -/
import Derived.Test.YtddpdopccejmbaaArpG
namespace Go.Proofs.Ytddpdopccejmbaa
open Go.RowKit Go.Sort
set_option linter.unusedVariables false

set_option maxRecDepth 100000 in
set_option maxHeartbeats 4000000 in
theorem agets_yes (A : Option Addr) (n c : Nat) (l : List UInt8) (w : World) (h : Byt w A n c l) :
    Calls Try.prog 4 #[.slice A n c] w fun e w' => e = .returned (.bool true) ∧ Below w.heap.size w w' := by
  have hnc := h.2.1
  have hcc := h.2.2.1
  obtain ⟨m, hmin, hmn, hm100⟩ : ∃ m : Nat, (if (100 : Int) < (n : Int) then (100 : Int) else (n : Int)) = (m : Int) ∧ m ≤ n ∧ m ≤ 100 := ⟨min n 100, by split <;> omega, by omega, by omega⟩
  have hsl := run_cut_hi (P := Try.prog) Try.underlying26 inf5.1 A n c m (m : Int) rfl (by omega)
  have hb := h.pre hmn
  generalize l.take m = b at hb
  have HB := Lib.hid hb
  clear h hb hnc
  go_enter Try.func4, Try.ntmps4
  go_wp2_with (fail)
  refine (bclone A m c b _ HB.out (by omega)).mono ?_
  rintro e w1 ⟨v1, rfl, hm⟩
  have HBL := Lib.hid HB.out.1
  obtain ⟨A1, c1, rfl, hy1, _⟩ := byt_own hm
  rw [HBL.out] at hy1 ⊢
  have HY1 := Lib.hid hy1
  have HB1 := Lib.hid (HB.out.kept hm.2 (fun _ _ hf => hf))
  have HK1 := Lib.hid hm.2
  clear hm hy1 hsl
  go_wp2_with (fail)
  refine (pget_yes A1 m c1 b _ HY1.out (by omega)).mono ?_
  rintro e w2 ⟨rfl, hk⟩
  have hpo := getP_ok b
  have hrg : ∀ u, Byt u A m c b → Calls Try.prog _ _ u _ := fun u hu => rget_yes A m c b u hu
  generalize hR : getP b = R at *
  obtain ⟨p, E⟩ := R
  simp only at hpo hrg ⊢
  have HOK := Lib.hid hpo
  have HRG := Lib.hid hrg
  have HY2 := Lib.hid (HY1.out.kept hk (fun _ _ hf => hf))
  have HB2 := Lib.hid (HB1.out.kept hk (fun _ _ hf => hf))
  have HK2 := Lib.hid (HK1.out.then hk)
  have HN2 := Lib.hid (PB.new w2 49 Pk.zero)
  clear hk hpo hrg hR HY1 HB1 HK1
  go_upto_region 4 with (first | (refine wpList_st rfl _ (.tmp 4) _ rfl _ 0 rfl (pcs p) _ rfl rfl (infP _ HOK.out) 49 _ HN2.out (by rw [pcs_len Pk.zero_ok, pcs_len HOK.out]; omega) (pcs_one _) ?_; intro w3 hb3 hk3 hz3) | fail)
  have hk23 := ((Kept.refl Nil w2).alloc (.cells (pcs Pk.zero).toArray 49)).fresh hk3 (fun i hi => by cases hi; exact Nat.le_refl _)
  have HP3 := Lib.hid (PB.of_all (p' := p) Pk.zero_ok HOK.out hb3)
  have HY3 := Lib.hid (HY2.out.kept hk23 (fun _ _ hf => hf))
  have HB3 := Lib.hid (HB2.out.kept hk23 (fun _ _ hf => hf))
  have HK3 := Lib.hid (HK2.out.then hk23)
  obtain ⟨gp, hgp⟩ : ∃ g, w2.heap.size = g := ⟨_, rfl⟩
  rw [hgp] at HP3 ⊢
  clear hb3 hk3 hz3 hk23 hgp HY2 HB2 HK2 HN2
  go_wp2_with (fail)
  refine (HRG.out _ HB3.out).mono ?_
  rintro e w4 ⟨rfl, hk⟩
  have HY4 := Lib.hid (HY3.out.kept hk (fun _ _ hf => hf))
  have HB4 := Lib.hid (HB3.out.kept hk (fun _ _ hf => hf))
  have HP4 := Lib.hid (HP3.out.kept hk (fun hf => hf))
  have HK4 := Lib.hid (HK3.out.then hk)
  have HN4 := Lib.hid (QB.new w4 53 Pk.zero)
  clear hk HY3 HB3 HK3 HP3 HRG
  go_upto_region 5 with (first | (refine wpList_st rfl _ (.tmp 6) _ rfl _ 0 rfl (qcs p) _ rfl rfl (infQ _ HOK.out) 53 _ HN4.out (by rw [qcs_len Pk.zero_ok, qcs_len HOK.out]; omega) (qcs_one _) ?_; intro w5 hb5 hk5 hz5) | fail)
  have hk45 := ((Kept.refl Nil w4).alloc (.cells (qcs Pk.zero).toArray 53)).fresh hk5 (fun i hi => by cases hi; exact Nat.le_refl _)
  have HQ5 := Lib.hid (QB.of_all (p' := p) Pk.zero_ok HOK.out hb5)
  have HY5 := Lib.hid (HY4.out.kept hk45 (fun _ _ hf => hf))
  have HB5 := Lib.hid (HB4.out.kept hk45 (fun _ _ hf => hf))
  have HP5 := Lib.hid (HP4.out.kept hk45 (fun hf => hf))
  have HK5 := Lib.hid (HK4.out.then hk45)
  obtain ⟨gq, hgq⟩ : ∃ g, w4.heap.size = g := ⟨_, rfl⟩
  rw [hgq] at HQ5 ⊢
  clear hb5 hk5 hz5 hk45 hgq HY4 HB4 HK4 HP4 HN4
  have heq : ∀ u, (Op.equalIn 10000 53 (.agg (qcs p).toArray) (.agg (qcs p).toArray)).run Try.prog u = .ok true u := fun u => by
    have := eq_qk p p HOK.out HOK.out u
    rw [decide_eq_true rfl] at this
    exact this
  have hof : ∀ u, Calls Try.prog 19 #[.agg (pcs p).toArray] u fun e w' => e = .returned (.agg (qcs p).toArray) ∧ Kept Nil u w' := fun u => of_yes p HOK.out u
  have hty : ∀ d os, Calls Try.prog 20 #[.slice A1 m c1, .slice A m c] (grow (redrawn w5 d) os) fun e w' => e = .returned (.bool true) ∧ grow (redrawn w5 d) os = w' := fun d os => by
    have := equal _ _ _ _ _ _ _ _ _ (HY5.out.kept (kept_grown' w5 d os) (fun _ _ hf => hf)) (HB5.out.kept (kept_grown' w5 d os) (fun _ _ hf => hf))
    rw [beq_self_eq_true] at this
    exact this
  refine wp_region_quiet_below (by kernel_rfl) (by kernel_rfl) ?_
  repeat (first
    | (refine wpQuiet_ld rfl _ _ rfl gp 0 rfl (pcs p) (fun w1 hw => row_grown HP5.out.all hw) _ Try.underlying49 rfl (infP p HOK.out) ?_; simp only [Act.put, List.setIfInBounds_toArray, List.set_cons_succ, List.set_cons_zero])
    | (refine wpQuiet_ld rfl _ _ rfl gq 0 rfl (qcs p) (fun w1 hw => row_grown HQ5.out.all hw) _ Try.underlying53 rfl (infQ p HOK.out) ?_; simp only [Act.put, List.setIfInBounds_toArray, List.set_cons_succ, List.set_cons_zero])
    | (go_big_quiet_step (first | with_reducible exact quietK (hof _) | with_reducible exact quietS (hty _ _) | with_reducible exact quietK (wakes_yes _))))
  refine wpQuiet_nil ?_
  rintro w6 ⟨nq, hw⟩
  have HK6 := Lib.hid (HK5.out.then (show Kept Nil w5 w6 by rw [hw]; exact kept_grown _ _))
  clear hw
  go_wp2
  go_ret
  exact ⟨rfl, HK6.out.below (Nat.le_refl _) (fun _ hf => hf.elim)⟩
end Go.Proofs.Ytddpdopccejmbaa
