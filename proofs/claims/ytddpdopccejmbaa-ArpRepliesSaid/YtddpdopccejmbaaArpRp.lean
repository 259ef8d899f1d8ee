/- tolllaw05.ArpReplies: the walk. -/
import Derived.Test.YtddpdopccejmbaaArpG
namespace Go.Proofs.Ytddpdopccejmbaa
open Go.RowKit Go.Sort
set_option linter.unusedVariables false

set_option maxRecDepth 100000 in
set_option maxHeartbeats 8000000 in
theorem areplies_yes (p : Pk) (m : List UInt8) (w : World) (hp : p.ok) (hm : m.length = 6) :
    Calls Try.prog 7 #[pkv p, .agg (bys m).toArray] w fun e w' => e = .returned (.bool true) ∧ Below w.heap.size w w' := by
  have hP : PB ((w.alloc (.cells (pcs p).toArray 49)).alloc (.cells (bys m).toArray 23)) w.heap.size 49 p := Blo.alloc (PB.new w 49 p) _
  have hM : Row ((w.alloc (.cells (pcs p).toArray 49)).alloc (.cells (bys m).toArray 23)) (w.heap.size + 1) 0 (bys m) := by
    have := Blo.new (w.alloc (.cells (pcs p).toArray 49)) 23 (bys m).toArray
    rw [World.size_alloc] at this
    exact Blo.row [] (bys m) [] (by simpa using this)
  have hk : Kept Nil w ((w.alloc (.cells (pcs p).toArray 49)).alloc (.cells (bys m).toArray 23)) := ((Kept.refl Nil w).alloc _).alloc _
  have HOK := Lib.hid hp
  have HM6 := Lib.hid hm
  clear hp
  go_enter Try.func7, Try.ntmps7
  go_upto_region 1 with (fail)
  refine wp_nameE (fun W => PB W w.heap.size 49 p ∧ Row W (w.heap.size + 1) 0 (bys m) ∧ Kept Nil w W) ⟨hP, hM, hk⟩ ?_
  clear hP hM hk
  rintro W ⟨hP, hM, hk⟩
  have HP := Lib.hid hP
  have HM := Lib.hid hM
  have HK := Lib.hid hk
  clear hP hM hk
  go_wp2_with (first
    | (refine wpList_ld rfl _ _ rfl w.heap.size 0 rfl (pcs p) HP.out.all _ Try.underlying49 rfl (infP p HOK.out) ?_)
    | (refine wpList_ld rfl _ _ rfl (w.heap.size + 1) 0 rfl (bys m) HM.out _ Try.underlying23 rfl (infM m HM6.out) ?_)
    | fail)
  refine (reply_yes p HOK.out m HM6.out _).mono ?_
  rintro e w2 ⟨rfl, hk2⟩
  have HP2 := Lib.hid (HP.out.kept hk2 (fun hf => hf))
  have HM2 := Lib.hid (Row.kept HM.out hk2 (fun hf => hf))
  have HK2 := Lib.hid (HK.out.then hk2)
  have HN2 := Lib.hid (PB.new w2 49 Pk.zero)
  clear hk2 HP HM HK
  by_cases h1 : p.o = 1
  · have hr : replyP p m = (⟨2, m, p.y, p.f, p.x⟩, true) := by unfold replyP; rw [if_pos h1]
    have hrok := replyP_ok p m HOK.out HM6.out
    rw [hr] at hrok ⊢
    have HROK := Lib.hid hrok
    have H1 := Lib.hid h1
    clear hr hrok h1
    simp only
    go_upto_region 2 with (first | (refine wpList_st rfl _ (.tmp 5) _ rfl _ 0 rfl (pcs ⟨2, m, p.y, p.f, p.x⟩) _ rfl rfl (infP _ HROK.out) 49 _ HN2.out (by rw [pcs_len Pk.zero_ok, pcs_len HROK.out]; omega) (pcs_one _) ?_; intro w3 hb3 hk3 hz3) | fail)
    have hk23 := ((Kept.refl Nil w2).alloc (.cells (pcs Pk.zero).toArray 49)).fresh hk3 (fun i hi => by cases hi; exact Nat.le_refl _)
    have HR3 := Lib.hid (PB.of_all (p' := ⟨2, m, p.y, p.f, p.x⟩) Pk.zero_ok HROK.out hb3)
    have HP3 := Lib.hid (HP2.out.kept hk23 (fun hf => hf))
    have HM3 := Lib.hid (Row.kept HM2.out hk23 (fun hf => hf))
    have HK3 := Lib.hid (HK2.out.then hk23)
    obtain ⟨g5, hg5⟩ : ∃ g, w2.heap.size = g := ⟨_, rfl⟩
    rw [hg5] at HR3 ⊢
    clear hb3 hk3 hz3 hk23 hg5 HP2 HM2 HK2 HN2
    go_wp2_with (first
      | (refine wpList_ld rfl _ _ rfl g5 0 rfl (pcs ⟨2, m, p.y, p.f, p.x⟩) HR3.out.all _ Try.underlying49 rfl (infP _ HROK.out) ?_)
      | (refine wpList_ld rfl _ _ rfl (w.heap.size + 1) 0 rfl (bys m) HM3.out _ Try.underlying23 rfl (infM m HM6.out) ?_)
      | fail)
    refine (reply_yes ⟨2, m, p.y, p.f, p.x⟩ HROK.out m HM6.out _).mono ?_
    rintro e w4 ⟨rfl, hk4⟩
    have hr : replyP ⟨2, m, p.y, p.f, p.x⟩ m = (Pk.zero, false) := by unfold replyP; rw [if_neg (show ¬ (2 : Nat) = 1 by decide)]
    rw [hr]
    have HR4 := Lib.hid (HR3.out.kept hk4 (fun hf => hf))
    have HP4 := Lib.hid (HP3.out.kept hk4 (fun hf => hf))
    have HM4 := Lib.hid (Row.kept HM3.out hk4 (fun hf => hf))
    have HK4 := Lib.hid (HK3.out.then hk4)
    have HN4 := Lib.hid (PB.new w4 49 Pk.zero)
    clear hk4 hr HR3 HP3 HM3 HK3
    simp only
    go_upto_region 5 with (first | (refine wpList_st rfl _ (.tmp 7) _ rfl _ 0 rfl (pcs Pk.zero) _ rfl rfl (infP _ Pk.zero_ok) 49 _ HN4.out (by rw [pcs_len Pk.zero_ok]; omega) (pcs_one _) ?_; intro w5 hb5 hk5 hz5) | fail)
    have hk45 := ((Kept.refl Nil w4).alloc (.cells (pcs Pk.zero).toArray 49)).fresh hk5 (fun i hi => by cases hi; exact Nat.le_refl _)
    have HR5 := Lib.hid (HR4.out.kept hk45 (fun hf => hf))
    have HP5 := Lib.hid (HP4.out.kept hk45 (fun hf => hf))
    have HM5 := Lib.hid (Row.kept HM4.out hk45 (fun hf => hf))
    have HK5 := Lib.hid (HK4.out.then hk45)
    have HN5 := Lib.hid (PB.new w5 49 Pk.zero)
    clear hb5 hk5 hz5 hk45 HR4 HP4 HM4 HK4 HN4
    obtain ⟨d0, d1, d2, d3, d4, d5, hd⟩ := six_of p.f HOK.out.f
    obtain ⟨e0, e1, e2, e3, e4, e5, he⟩ := six_of p.t HOK.out.t
    have hrt := HR5.out.rt HROK.out
    have hpt := HP5.out.rt HOK.out
    simp only at hrt
    rw [hd] at hrt
    rw [he] at hpt
    have q4 := HR5.out.cy HROK.out
    have q2 := HR5.out.cx HROK.out
    simp only at q4 q2
    have HRT := Lib.hid hrt
    have HPT := Lib.hid hpt
    have HPE := Lib.hid (show (⟨1, [d0, d1, d2, d3, d4, d5], p.x, [e0, e1, e2, e3, e4, e5], p.y⟩ : Pk) = p by obtain ⟨po, pf, px, pt, py⟩ := p; simp only at hd he ⊢; rw [hd, he, ← (show po = 1 from H1.out)])
    have HQO := Lib.hid (show (⟨1, [d0, d1, d2, d3, d4, d5], p.x, [e0, e1, e2, e3, e4, e5], p.y⟩ : Pk).ok by rw [HPE.out]; exact HOK.out)
    clear hrt hpt hd he
    go_upto_region 6 with (first
      | (refine wpList_ld rfl _ _ rfl g5 8 rfl [.int .u8 (d0.toNat : Int), .int .u8 (d1.toNat : Int), .int .u8 (d2.toNat : Int), .int .u8 (d3.toNat : Int), .int .u8 (d4.toNat : Int), .int .u8 (d5.toNat : Int)] HRT.out _ Try.underlying23 rfl infA6 ?_)
      | (refine wpList_ld rfl _ _ rfl w.heap.size 8 rfl [.int .u8 (e0.toNat : Int), .int .u8 (e1.toNat : Int), .int .u8 (e2.toNat : Int), .int .u8 (e3.toNat : Int), .int .u8 (e4.toNat : Int), .int .u8 (e5.toNat : Int)] HPT.out _ Try.underlying23 rfl infA6 ?_)
      | (refine wpList_st rfl _ (.tmp 9) _ rfl _ 0 rfl (pcs ⟨1, [d0, d1, d2, d3, d4, d5], p.x, [e0, e1, e2, e3, e4, e5], p.y⟩) _ rfl rfl (infP _ HQO.out) 49 _ HN5.out (by rw [pcs_len Pk.zero_ok, pcs_len HQO.out]; omega) (pcs_one _) ?_; intro w9 hb9 hk9 hz9)
      | fail)
    simp only [Act.put]
    have hk59 := ((Kept.refl Nil w5).alloc (.cells (pcs Pk.zero).toArray 49)).fresh hk9 (fun i hi => by cases hi; exact Nat.le_refl _)
    have hb := PB.of_all (p' := ⟨1, [d0, d1, d2, d3, d4, d5], p.x, [e0, e1, e2, e3, e4, e5], p.y⟩) Pk.zero_ok HQO.out hb9
    rw [HPE.out] at hb
    have HB9 := Lib.hid hb
    have HR9 := Lib.hid (HR5.out.kept hk59 (fun hf => hf))
    have HP9 := Lib.hid (HP5.out.kept hk59 (fun hf => hf))
    have HM9 := Lib.hid (Row.kept HM5.out hk59 (fun hf => hf))
    have HK9 := Lib.hid (HK5.out.then hk59)
    obtain ⟨g9, hg9⟩ : ∃ g, w5.heap.size = g := ⟨_, rfl⟩
    rw [hg9] at HB9 ⊢
    clear hb hb9 hk9 hz9 hk59 hg9 HR5 HP5 HM5 HK5 HN5 HRT HPT q4 q2 HPE HQO
    have hpo : ∀ d os, (grow (redrawn w9 d) os).cell? ⟨w.heap.size, 0, none⟩ = some (.int .u16 1) := fun d os => by
      have := (HP9.out.kept (kept_grown' w9 d os) (fun hf => hf)).co
      rw [H1.out] at this
      exact this
    have hro : ∀ d os, (grow (redrawn w9 d) os).cell? ⟨g5, 0, none⟩ = some (.int .u16 2) := fun d os => (HR9.out.kept (kept_grown' w9 d os) (fun hf => hf)).co
    have hpx : ∀ d os, (grow (redrawn w9 d) os).cell? ⟨w.heap.size, 7, none⟩ = some (.int .u32 (p.x : Int)) := fun d os => (HP9.out.kept (kept_grown' w9 d os) (fun hf => hf)).cx HOK.out
    have eqm : ∀ u, (Op.equalIn 10000 23 (.agg (bys m).toArray) (.agg (bys m).toArray)).run Try.prog u = .ok true u := fun u => by
      have := eq_mac m m HM6.out HM6.out u
      rw [beq_self_eq_true] at this
      exact this
    have eqp : ∀ u, (Op.equalIn 10000 49 (.agg (pcs p).toArray) (.agg (pcs p).toArray)).run Try.prog u = .ok true u := fun u => by
      have := eq_pk p p HOK.out HOK.out u
      rw [decide_eq_true rfl] at this
      exact this
    by_cases h0 : p.x = 0
    · have hpr : ∀ u, Calls Try.prog 27 #[.agg (pcs p).toArray] u fun e w' => e = .returned (.bool true) ∧ Kept Nil u w' := fun u => by
        have := probes_yes p HOK.out u
        rw [show probesP p = true from decide_eq_true ⟨H1.out, h0⟩] at this
        exact this
      have hit : ∀ u, Calls Try.prog 29 #[.agg (pcs p).toArray] u fun e w' => e = .returned (.bool false) ∧ Kept Nil u w' := fun u => by
        have := itself_yes p HOK.out u
        rw [show itselfP p = false from decide_eq_false (fun h => h.2.2 h0)] at this
        exact this
      have hir : ∀ u, Calls Try.prog 29 #[.agg (pcs ⟨2, m, p.y, p.f, p.x⟩).toArray] u fun e w' => e = .returned (.bool false) ∧ Kept Nil u w' := fun u => by
        have := itself_yes ⟨2, m, p.y, p.f, p.x⟩ HROK.out u
        rw [show itselfP ⟨2, m, p.y, p.f, p.x⟩ = false from decide_eq_false (fun h => h.2.2 (h.2.1.trans h0))] at this
        exact this
      have bx : ((p.x : Int) == 0) = true := by rw [h0]; rfl
      clear h0
      refine wp_region_quiet_below (by kernel_rfl) (by kernel_rfl) ?_
      repeat (first
        | (refine wpQuiet_ld rfl _ _ rfl g5 1 rfl (bys m) (fun w1 hw => row_grown HR9.out.rf hw) _ Try.underlying23 rfl (infM m HM6.out) ?_; simp only [Act.put, List.setIfInBounds_toArray, List.set_cons_succ, List.set_cons_zero])
        | (refine wpQuiet_ld rfl _ _ rfl (w.heap.size + 1) 0 rfl (bys m) (fun w1 hw => row_grown HM9.out hw) _ Try.underlying23 rfl (infM m HM6.out) ?_; simp only [Act.put, List.setIfInBounds_toArray, List.set_cons_succ, List.set_cons_zero])
        | (refine wpQuiet_ld rfl _ _ rfl g9 0 rfl (pcs p) (fun w1 hw => row_grown HB9.out.all hw) _ Try.underlying49 rfl (infP p HOK.out) ?_; simp only [Act.put, List.setIfInBounds_toArray, List.set_cons_succ, List.set_cons_zero])
        | (refine wpQuiet_ld rfl _ _ rfl w.heap.size 0 rfl (pcs p) (fun w1 hw => row_grown HP9.out.all hw) _ Try.underlying49 rfl (infP p HOK.out) ?_; simp only [Act.put, List.setIfInBounds_toArray, List.set_cons_succ, List.set_cons_zero])
        | (refine wpQuiet_ld rfl _ _ rfl g5 0 rfl (pcs ⟨2, m, p.y, p.f, p.x⟩) (fun w1 hw => row_grown HR9.out.all hw) _ Try.underlying49 rfl (infP _ HROK.out) ?_; simp only [Act.put, List.setIfInBounds_toArray, List.set_cons_succ, List.set_cons_zero])
        | (go_big_quiet_step (first | with_reducible exact quietK (hpr _) | with_reducible exact quietK (hit _) | with_reducible exact quietK (hir _) | with_reducible exact quietK (wakes_yes _))))
      refine wpQuiet_nil ?_
      rintro w10 ⟨nq, hw⟩
      have HK10 := Lib.hid (HK9.out.then (show Kept Nil w9 w10 by rw [hw]; exact kept_grown _ _))
      clear hw
      go_wp2
      go_ret
      exact ⟨rfl, HK10.out.below (Nat.le_refl _) (fun _ hf => hf.elim)⟩
    · have hpr : ∀ u, Calls Try.prog 27 #[.agg (pcs p).toArray] u fun e w' => e = .returned (.bool false) ∧ Kept Nil u w' := fun u => by
        have := probes_yes p HOK.out u
        rw [show probesP p = false from decide_eq_false (fun h => h0 h.2)] at this
        exact this
      obtain ⟨B, hB⟩ : ∃ B, itselfP p = B := ⟨_, rfl⟩
      have hit : ∀ u, Calls Try.prog 29 #[.agg (pcs p).toArray] u fun e w' => e = .returned (.bool B) ∧ Kept Nil u w' := fun u => by
        have := itself_yes p HOK.out u
        rw [hB] at this
        exact this
      have hir : ∀ u, Calls Try.prog 29 #[.agg (pcs ⟨2, m, p.y, p.f, p.x⟩).toArray] u fun e w' => e = .returned (.bool B) ∧ Kept Nil u w' := fun u => by
        have := itself_yes ⟨2, m, p.y, p.f, p.x⟩ HROK.out u
        rw [show itselfP ⟨2, m, p.y, p.f, p.x⟩ = B by rw [← hB]; show decide (((2 : Nat) = 1 ∨ (2 : Nat) = 2) ∧ p.y = p.x ∧ p.y ≠ 0) = decide ((p.o = 1 ∨ p.o = 2) ∧ p.x = p.y ∧ p.x ≠ 0); have h1 := H1.out; rw [Bool.eq_iff_iff, decide_eq_true_eq, decide_eq_true_eq]; exact ⟨fun ⟨_, g1, g2⟩ => ⟨.inl h1, g1.symm, fun g => g2 (g1.trans g)⟩, fun ⟨_, g1, g2⟩ => ⟨.inr rfl, g1.symm, fun g => g2 (g1.trans g)⟩⟩] at this
        exact this
      have bx : ((p.x : Int) == 0) = false := by simp; omega
      clear h0 hB
      refine wp_region_quiet_below (by kernel_rfl) (by kernel_rfl) ?_
      repeat (first
        | (refine wpQuiet_ld rfl _ _ rfl g5 1 rfl (bys m) (fun w1 hw => row_grown HR9.out.rf hw) _ Try.underlying23 rfl (infM m HM6.out) ?_; simp only [Act.put, List.setIfInBounds_toArray, List.set_cons_succ, List.set_cons_zero])
        | (refine wpQuiet_ld rfl _ _ rfl (w.heap.size + 1) 0 rfl (bys m) (fun w1 hw => row_grown HM9.out hw) _ Try.underlying23 rfl (infM m HM6.out) ?_; simp only [Act.put, List.setIfInBounds_toArray, List.set_cons_succ, List.set_cons_zero])
        | (refine wpQuiet_ld rfl _ _ rfl g9 0 rfl (pcs p) (fun w1 hw => row_grown HB9.out.all hw) _ Try.underlying49 rfl (infP p HOK.out) ?_; simp only [Act.put, List.setIfInBounds_toArray, List.set_cons_succ, List.set_cons_zero])
        | (refine wpQuiet_ld rfl _ _ rfl w.heap.size 0 rfl (pcs p) (fun w1 hw => row_grown HP9.out.all hw) _ Try.underlying49 rfl (infP p HOK.out) ?_; simp only [Act.put, List.setIfInBounds_toArray, List.set_cons_succ, List.set_cons_zero])
        | (refine wpQuiet_ld rfl _ _ rfl g5 0 rfl (pcs ⟨2, m, p.y, p.f, p.x⟩) (fun w1 hw => row_grown HR9.out.all hw) _ Try.underlying49 rfl (infP _ HROK.out) ?_; simp only [Act.put, List.setIfInBounds_toArray, List.set_cons_succ, List.set_cons_zero])
        | (go_big_quiet_step (first | with_reducible exact quietK (hpr _) | with_reducible exact quietK (hit _) | with_reducible exact quietK (hir _) | with_reducible exact quietK (wakes_yes _))))
      refine wpQuiet_nil ?_
      rintro w10 ⟨nq, hw⟩
      have HK10 := Lib.hid (HK9.out.then (show Kept Nil w9 w10 by rw [hw]; exact kept_grown _ _))
      clear hw
      go_wp2
      go_ret
      exact ⟨rfl, HK10.out.below (Nat.le_refl _) (fun _ hf => hf.elim)⟩
  · have hr : replyP p m = (Pk.zero, false) := by unfold replyP; rw [if_neg h1]
    rw [hr]
    have b1 : ((p.o : Int) != 1) = true := by simp; omega
    clear hr h1
    simp only
    go_upto_region 2 with (first | (refine wpList_st rfl _ (.tmp 5) _ rfl _ 0 rfl (pcs Pk.zero) _ rfl rfl (infP _ Pk.zero_ok) 49 _ HN2.out (by rw [pcs_len Pk.zero_ok]; omega) (pcs_one _) ?_; intro w3 hb3 hk3 hz3) | fail)
    have hk23 := ((Kept.refl Nil w2).alloc (.cells (pcs Pk.zero).toArray 49)).fresh hk3 (fun i hi => by cases hi; exact Nat.le_refl _)
    have HR3 := Lib.hid (PB.of_all (p' := Pk.zero) Pk.zero_ok Pk.zero_ok hb3)
    have HP3 := Lib.hid (HP2.out.kept hk23 (fun hf => hf))
    have HK3 := Lib.hid (HK2.out.then hk23)
    obtain ⟨g5, hg5⟩ : ∃ g, w2.heap.size = g := ⟨_, rfl⟩
    rw [hg5] at HR3 ⊢
    clear hb3 hk3 hz3 hk23 hg5 HP2 HM2 HK2 HN2
    have c0 := HP3.out.co
    have heq : ∀ u, (Op.equalIn 10000 49 (.agg #[.int .u16 0, .int .u8 0, .int .u8 0, .int .u8 0, .int .u8 0, .int .u8 0, .int .u8 0, .int .u32 0, .int .u8 0, .int .u8 0, .int .u8 0, .int .u8 0, .int .u8 0, .int .u8 0, .int .u32 0]) (.agg #[.int .u16 0, .int .u8 0, .int .u8 0, .int .u8 0, .int .u8 0, .int .u8 0, .int .u8 0, .int .u32 0, .int .u8 0, .int .u8 0, .int .u8 0, .int .u8 0, .int .u8 0, .int .u8 0, .int .u32 0])).run Try.prog u = .ok true u := fun u => by
      have := eq_pk Pk.zero Pk.zero Pk.zero_ok Pk.zero_ok u
      rw [decide_eq_true rfl] at this
      exact this
    go_wp2_with (first
      | (refine wpList_ld rfl _ _ rfl g5 0 rfl [.int .u16 0, .int .u8 0, .int .u8 0, .int .u8 0, .int .u8 0, .int .u8 0, .int .u8 0, .int .u32 0, .int .u8 0, .int .u8 0, .int .u8 0, .int .u8 0, .int .u8 0, .int .u8 0, .int .u32 0] HR3.out.all _ Try.underlying49 rfl (infP _ Pk.zero_ok) ?_)
      | fail)
    refine (wakes_yes _).mono ?_
    rintro e w4 ⟨rfl, hk4⟩
    have HK4 := Lib.hid (HK3.out.then hk4)
    clear hk4 c0
    go_wp2
    go_ret
    exact ⟨rfl, HK4.out.below (Nat.le_refl _) (fun _ hf => hf.elim)⟩
end Go.Proofs.Ytddpdopccejmbaa
