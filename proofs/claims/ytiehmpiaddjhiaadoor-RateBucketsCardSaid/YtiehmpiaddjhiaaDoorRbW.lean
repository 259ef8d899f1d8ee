/- tolllaw11.RateBuckets: the walk. -/
import Derived.Test.YtiehmpiaddjhiaaDoorRbF
import Derived.Test.YtiehmpiaddjhiaaDoorMg28
import Derived.Test.YtiehmpiaddjhiaaDoorMg18
import Derived.Deep.CutRange
import Derived.Deep.CutBlock
namespace Go.Proofs.YtiehmpiaddjhiaaDoor
open Go.RowKit Go.Sort
set_option linter.unusedVariables false
set_option linter.unusedSimpArgs false

set_option maxRecDepth 100000 in
set_option maxHeartbeats 16000000 in
theorem rbuckets_yes (a1 a2 : Int) (A : Option Addr) (n c : Nat) (ts : List BaD) (w : World) (wa1 : (Lit.int .u64 a1).wf = true) (wa2 : (Lit.int .u64 a2).wf = true) (h : BActs w A n c ts) (hG : Gl w) : Calls Tryd.prog 3 #[.int .u64 a1, .int .u64 a2, .slice A n c] w fun e w' => e = .returned (.bool true) ∧ Below w.heap.size w w' := by
  obtain ⟨x, hx, rfl⟩ := w64_of a1 wa1
  obtain ⟨y, hy, rfl⟩ := w64_of a2 wa2
  have HG := Lib.hid (show GlR w from hG)
  have hn2 := h.2.1
  have hc2 := h.2.2.1
  have HA := Lib.hid h
  have HL := Lib.hid h.1
  have hm0 : (⟨x, y, y, 0⟩ : Bk).ok := ⟨hx, hy, hy, by show (-9223372036854775808 : Int) ≤ 0 ∧ (0 : Int) ≤ 9223372036854775807; decide⟩
  have HNEW := Lib.hid (fun w => bnew_yes x y 0 hx hy (by decide) w)
  have HNER := Lib.hid (fun w => rnew_yes x y 0 hx hy (by decide) w)
  have HOK := Lib.hid (clB_cl hm0).ok
  generalize clB ⟨x, y, y, 0⟩ = M at *
  have f1 := cf_from x
  have f2 := cf_from y
  clear h hG hx hy wa1 wa2 hm0
  go_enter Tryd.func3, Tryd.ntmps3
  go_wp2_with (fail)
  refine (HNEW.out _).mono ?_
  rintro e w1 ⟨rfl, hk⟩
  have HK := Lib.hid hk
  clear hk
  have HN := Lib.hid (show KB (w1.alloc (.cells (bkl Bk.zero).toArray 26)) w1.heap.size Bk.zero from Blo.new w1 _ _)
  have HKA := Lib.hid (HK.out.then ((Kept.refl Nil w1).alloc (.cells (bkl Bk.zero).toArray 26)))
  dsimp only
  go_upto_region 2 with (first
    | (refine wpList_st rfl 26 (.tmp 7) _ rfl w1.heap.size 0 rfl (bkl M) _ rfl rfl (infBk _) 26 _ HN.out (by show 0 + 4 ≤ 4; decide) (bkl_one _) ?_; intro w2 hb2 hk2 hz2; simp only [Act.put, List.setIfInBounds_toArray, List.set_cons_succ, List.set_cons_zero])
    | fail)
  have HB7 := Lib.hid (show KB w2 w1.heap.size M from hb2)
  have HGE := Lib.hid (show w.heap.size ≤ w1.heap.size from HK.out.size)
  have HK := Lib.hid (HKA.out.fresh hk2 (fun i hi => by have h1 := HGE.out; have h2 : i = w1.heap.size := hi; omega))
  obtain ⟨g7, hg7⟩ : ∃ g, w1.heap.size = g := ⟨_, rfl⟩
  rw [hg7] at HB7 HGE ⊢
  clear hb2 hk2 hz2 hg7 HN HKA
  go_wp2_with (fail)
  refine (HNER.out _).mono ?_
  rintro e w3 ⟨rfl, hk⟩
  have HK := Lib.hid (HK.out.then hk)
  have HB7 := Lib.hid (HB7.out.kept hk (fun hf => hf))
  clear hk
  have HN := Lib.hid (show KR (w3.alloc (.cells (bkl Bk.zero).toArray 29)) w3.heap.size Bk.zero from Blo.new w3 _ _)
  have HKA := Lib.hid (HK.out.then ((Kept.refl Nil w3).alloc (.cells (bkl Bk.zero).toArray 29)))
  have HB7A := Lib.hid (HB7.out.kept ((Kept.refl Nil w3).alloc (.cells (bkl Bk.zero).toArray 29)) (fun hf => hf))
  have HNE := Lib.hid (show g7 ≠ w3.heap.size by have := HB7.out.lt; omega)
  dsimp only
  go_upto_region 3 with (first
    | (refine wpList_st rfl 29 (.tmp 8) _ rfl w3.heap.size 0 rfl (bkl M) _ rfl rfl (infBr _) 29 _ HN.out (by show 0 + 4 ≤ 4; decide) (bkl_one _) ?_; intro w4 hb4 hk4 hz4; simp only [Act.put, List.setIfInBounds_toArray, List.set_cons_succ, List.set_cons_zero])
    | fail)
  have HB8 := Lib.hid (show KR w4 w3.heap.size M from hb4)
  have HGE8 := Lib.hid (show w.heap.size ≤ w3.heap.size from HK.out.size)
  have HK := Lib.hid (HKA.out.fresh hk4 (fun i hi => by have h1 := HGE8.out; have h2 : i = w3.heap.size := hi; omega))
  have HB7 := Lib.hid (HB7A.out.kept hk4 (fun hf => HNE.out hf))
  obtain ⟨g8, hg8⟩ : ∃ g, w3.heap.size = g := ⟨_, rfl⟩
  rw [hg8] at HB8 HGE8 HNE ⊢
  have HW0 := Lib.hid (show BuW w w4 g7 g8 M from ⟨HOK.out, HB7.out, HB8.out, HNE.out, HGE.out, HGE8.out, HK.out⟩)
  clear hb4 hk4 hz4 hg8 HN HKA HB7A HB7 HB8 HK HGE HGE8 HNE HNEW HNER HOK f1 f2
  go_wp2_with (fail)
  go_loopw [32] (fun i wr => ∃ (k : Nat) (m : Bk), k ≤ n ∧ i = .int .i64 (k : Int) ∧ BuW w wr g7 g8 m) (fun i _ => n - (intOf i).toNat)
  case atStart => exact ⟨0, M, Nat.zero_le _, rfl, HW0.out⟩
  case round =>
    obtain ⟨k, m, hk, rfl, hbo⟩ := hrel
    have HW := Lib.hid hbo
    clear hbo HW0
    by_cases hlt : k < n
    · have hth := HA.out.kept HW.out.kept
      have hkl : k < ts.length := by rw [HL.out]; exact hlt
      obtain ⟨b, o, rfl, hce⟩ := hth.2.2.2.2 (by omega)
      obtain ⟨q0, q1, q2⟩ := hce k hkl
      have HTO := Lib.hid (HA.out.2.2.2.1 _ (List.getElem_mem hkl))
      clear hce hth
      generalize ts[k] = tr at *
      obtain ⟨wh, nw, nb⟩ := tr
      simp only at q0 q1 q2
      go_upto_region 6 with (fail)
      have HNB := Lib.hid (show Blo (wr.alloc (.cells #[.int .i64 wh, .int .i64 nw, .int .u64 (nb : Int)] 32)) wr.heap.size 32 #[.int .i64 wh, .int .i64 nw, .int .u64 (nb : Int)] from Blo.new wr _ _)
      have HW0' := HW
      have HW := Lib.hid (HW.out.next ((Kept.refl Nil wr).alloc (.cells #[.int .i64 wh, .int .i64 nw, .int .u64 (nb : Int)] 32)))
      have HNA := Lib.hid (show wr.heap.size ≠ g7 ∧ wr.heap.size ≠ g8 by
        constructor
        · intro e; have := HW0'.out.p.lt; omega
        · intro e; have := HW0'.out.q.lt; omega)
      clear HW0'
      generalize wr.alloc (.cells #[.int .i64 wh, .int .i64 nw, .int .u64 (nb : Int)] 32) = wa at *
      generalize wr.heap.size = ga at *
      clear q0 q1 q2
      by_cases h60 : k = 60
      · have hb60 : ((k : Int) == 60) = true := by simp; omega
        have H60 := Lib.hid h60
        clear h60
        go_wp2_with fail
        refine (wakes_yes _ (HG.out.kept HW.out.kept)).mono ?_
        rintro e w9 ⟨rfl, hk9⟩
        go_wp2
        go_ret
        exact ⟨rfl, (HW.out.kept.then hk9).below (Nat.le_refl _) (fun k hf => hf.elim)⟩
      · have hb60 : ((k : Int) == 60) = false := by simp; omega
        have H60 := Lib.hid h60
        have q0 : wa.cell? ⟨ga, 0, none⟩ = some (.int .i64 wh) := HNB.out.cell 0
        have q1 : wa.cell? ⟨ga, 1, none⟩ = some (.int .i64 nw) := HNB.out.cell 1
        have q2 : wa.cell? ⟨ga, 2, none⟩ = some (.int .u64 (nb : Int)) := HNB.out.cell 2
        have f3 := cf_from nb
        clear h60
        go_upto_region 10 with (fail)
        clear q0 f3 hb60
        have HNI := Lib.hid (show -9223372036854775808 ≤ nw ∧ nw ≤ 9223372036854775807 from ⟨HTO.out.n0, HTO.out.n1⟩)
        have HN64 := Lib.hid HTO.out.nn
        have HNB := Lib.hid HNB.out
        by_cases h0 : wh = 0
        · subst h0
          obtain ⟨s, hs1, hs2⟩ := sub_ex HW.out.ok nw HNI.out nb
          have HT1 := Lib.hid (take_yes g7 m HW.out.ok nw HNI.out nb s HN64.out hs1 _ HW.out.p)
          have HT2 := Lib.hid (rtake_yes m HW.out.ok nw HNI.out nb s HN64.out hs1)
          have HTOK := Lib.hid (tkM_ok HW.out.ok nw HNI.out nb s hs2)
          generalize tkM m nw nb s = m2 at *
          generalize (!decide ((brM m nw).l < clF nb)) = bb at *
          clear hs1 hs2
          go_wp2_with (fail)
          refine HT1.out.mono ?_
          rintro e u1 ⟨rfl, hb1, hk1⟩
          have HQ := Lib.hid (HW.out.q.kept hk1 (fun hf => HW.out.ne (Eq.symm hf)))
          have HP := Lib.hid hb1
          have HK := Lib.hid (HW.out.kept.fresh hk1 (fun i hi => by have h1 := HW.out.ge7; have h2 : i = g7 := hi; omega))
          have HNB := Lib.hid (HNB.out.kept hk1 (fun hf => HNA.out.1 hf))
          clear hb1 hk1 HT1 q1 q2
          have q1 : u1.cell? ⟨ga, 1, none⟩ = some (.int .i64 nw) := HNB.out.cell 1
          dsimp only
          go_wp2_with (first
            | (refine wpList_ld rfl _ (.tmp 8) rfl g8 0 rfl (bkl m) HQ.out.all _ Tryd.underlying29 rfl (infBr _) ?_; simp only [Act.put, List.setIfInBounds_toArray, List.set_cons_succ, List.set_cons_zero])
            | fail)
          refine (HT2.out _).mono ?_
          rintro e u2 ⟨rfl, hk2⟩
          have HQ := Lib.hid (HQ.out.kept hk2 (fun hf => hf))
          have HP := Lib.hid (HP.out.kept hk2 (fun hf => hf))
          have HK := Lib.hid (HK.out.then hk2)
          clear hk2 HT2 q1
          have HN := Lib.hid (show KR (u2.alloc (.cells (bkl Bk.zero).toArray 29)) u2.heap.size Bk.zero from Blo.new u2 _ _)
          have HAL := Lib.hid ((Kept.refl Nil u2).alloc (.cells (bkl Bk.zero).toArray 29))
          dsimp only
          go_upto_region 13 with (first
            | (refine wpList_st rfl 29 (.tmp 14) _ rfl u2.heap.size 0 rfl (bkl m2) _ rfl rfl (infBr _) 29 _ HN.out (by show 0 + 4 ≤ 4; decide) (bkl_one _) ?_; intro u3 hb3 hk3 hz3; simp only [Act.put, List.setIfInBounds_toArray, List.set_cons_succ, List.set_cons_zero])
            | fail)
          have HN := Lib.hid (show KR u3 u2.heap.size m2 from hb3)
          have HNE3 := Lib.hid (show g7 ≠ u2.heap.size ∧ g8 ≠ u2.heap.size by have h1 := HP.out.lt; have h2 := HQ.out.lt; omega)
          have HSZ := Lib.hid (show w.heap.size ≤ u2.heap.size from HK.out.size)
          have HP := Lib.hid ((HP.out.kept HAL.out (fun hf => hf)).kept hk3 (fun hf => HNE3.out.1 hf))
          have HQ := Lib.hid ((HQ.out.kept HAL.out (fun hf => hf)).kept hk3 (fun hf => HNE3.out.2 hf))
          have HK := Lib.hid ((HK.out.then HAL.out).fresh hk3 (fun i hi => by have h1 := HSZ.out; have h2 : i = u2.heap.size := hi; omega))
          generalize u2.heap.size = g14 at *
          clear hb3 hk3 hz3 HAL
          go_upto_region 14 with (first
            | (refine wpList_ld rfl _ (.tmp 14) rfl g14 0 rfl (bkl m2) HN.out.all _ Tryd.underlying29 rfl (infBr _) ?_; simp only [Act.put, List.setIfInBounds_toArray, List.set_cons_succ, List.set_cons_zero])
            | (refine wpList_st rfl 29 (.tmp 8) _ rfl g8 0 rfl (bkl m2) _ rfl rfl (infBr _) 29 _ HQ.out (by show 0 + 4 ≤ 4; decide) (bkl_one _) ?_; intro u4 hb4 hk4 hz4; simp only [Act.put, List.setIfInBounds_toArray, List.set_cons_succ, List.set_cons_zero])
            | fail)
          have HW := Lib.hid (show BuW w u4 g7 g8 m2 from ⟨HTOK.out, HP.out.kept hk4 (fun hf => HW.out.ne hf), hb4, HW.out.ne, HW.out.ge7, HW.out.ge8, HK.out.fresh hk4 (fun i hi => by have h1 := HW.out.ge8; have h2 : i = g8 := hi; omega)⟩)
          clear hb4 hk4 hz4 HN HP HQ HK HTOK HNE3 HSZ
          go_upto_region 28 with (fail)
          go_wp2_with (first
            | (refine wpList_ld rfl _ (.tmp 7) rfl g7 0 rfl (bkl m2) HW.out.p.all _ Tryd.underlying26 rfl (infBk _) ?_; simp only [Act.put, List.setIfInBounds_toArray, List.set_cons_succ, List.set_cons_zero])
            | (refine wpList_ld rfl _ (.tmp 8) rfl g8 0 rfl (bkl m2) HW.out.q.all _ Tryd.underlying29 rfl (infBr _) ?_; simp only [Act.put, List.setIfInBounds_toArray, List.set_cons_succ, List.set_cons_zero])
            | fail)
          refine (same_yes m2 HW.out.ok _).mono ?_
          rintro e w9 ⟨rfl, hk9⟩
          have HW := Lib.hid (HW.out.next hk9)
          clear hk9
          dsimp only
          go_wp2_with (fail)
          go_roundw
          case rel => exact ⟨k + 1, m2, by omega, by go_num, HW.out⟩
          case measure => simp [intOf]; omega
        · by_cases h1 : wh = 1
          · subst h1
            clear h0
            have HTR := Lib.hid (rto_yes m HW.out.ok nw HNI.out)
            have HCLB := Lib.hid (brM_cl HW.out.ok nw HNI.out)
            obtain ⟨m2, hm2⟩ : ∃ m2, brM m nw = m2 := ⟨_, rfl⟩
            have HHA := Lib.hid (show ∀ u, KB u g7 m → Calls Tryd.prog 13 #[.pointer (some ⟨g7, 0, none⟩), .int .i64 nw] u fun e w' => e = .returned (.float .f64 m2.l) ∧ KB w' g7 m2 ∧ Kept (One g7) u w' from fun u hb => by
              have := has_yes g7 m HW.out.ok nw HNI.out u hb
              rw [hm2] at this
              exact this)
            rw [hm2] at HTR HCLB
            clear hm2 q2
            go_wp2_with (first
              | (refine wpList_ld rfl _ (.tmp 8) rfl g8 0 rfl (bkl m) HW.out.q.all _ Tryd.underlying29 rfl (infBr _) ?_; simp only [Act.put, List.setIfInBounds_toArray, List.set_cons_succ, List.set_cons_zero])
              | fail)
            refine (HTR.out _).mono ?_
            rintro e u1 ⟨rfl, hk1⟩
            have HW := Lib.hid (HW.out.next hk1)
            have HNB := Lib.hid (HNB.out.kept hk1 (fun hf => hf))
            clear hk1 HTR q1
            dsimp only
            go_upto_region 17 with (first
              | (refine wpList_st rfl 29 (.tmp 8) _ rfl g8 0 rfl (bkl m2) _ rfl rfl (infBr _) 29 _ HW.out.q (by show 0 + 4 ≤ 4; decide) (bkl_one _) ?_; intro u2 hb2 hk2 hz2; simp only [Act.put, List.setIfInBounds_toArray, List.set_cons_succ, List.set_cons_zero])
              | fail)
            have HQ := Lib.hid (show KR u2 g8 m2 from hb2)
            have HP := Lib.hid (HW.out.p.kept hk2 (fun hf => HW.out.ne hf))
            have HNB := Lib.hid (HNB.out.kept hk2 (fun hf => HNA.out.2 hf))
            have HK := Lib.hid (HW.out.kept.fresh hk2 (fun i hi => by have h1 := HW.out.ge8; have h2 : i = g8 := hi; omega))
            have HAL := Lib.hid (show ∀ u, Calls Tryd.prog 12 #[.float .f64 m2.l, .float .f64 m2.l] u fun e w' => e = .returned (.bool true) ∧ Kept Nil u w' from fun u => by
              have hx := HCLB.out.ok.l
              have := falike_yes m2.l m2.l hx hx u
              rw [decide_eq_true rfl, Bool.true_or] at this
              exact this)
            clear hb2 hk2 hz2
            refine wp_nameA fun A0 hA0 => ?_
            have HS : A0.tmps.size = 123 := by rw [hA0]; rfl
            have a7 : A0.eval (.tmp 7) = pAt g7 0 := by rw [hA0]; rfl
            have a8 : A0.eval (.tmp 8) = pAt g8 0 := by rw [hA0]; rfl
            have a10 : A0.eval (.tmp 10) = pAt ga 0 := by rw [hA0]; rfl
            have HA0 := Lib.hid hA0
            clear hA0
            have sh : ∀ {a a' : Act} {l : List Nat} {d : Nat} {v : Value}, (∀ d ∈ l, a.tmps.getD d undef = a'.tmps.getD d undef) → d ∈ l → a.eval (.tmp d) = v → a'.eval (.tmp d) = v := fun h hd e => (h _ hd).symm.trans e
            refine wp_region_postsYB 123 (hsI u2 g7) (hsW ga g7 g8 nw m2) (hsU g7 m) (by kernel_rfl) (by kernel_rfl) (fun x u h => h.size.trans HS)
              ⟨fun a a' w h ⟨hr⟩ => ⟨sh h (of_decide_eq_true (by kernel_rfl)) hr⟩, fun a a' w h ⟨hr⟩ => ⟨sh h (of_decide_eq_true (by kernel_rfl)) hr⟩, fun a a' w h ⟨⟨hr, hb⟩⟩ => ⟨⟨sh h (of_decide_eq_true (by kernel_rfl)) hr, hb⟩⟩, fun a a' w h ⟨hr⟩ => ⟨sh h (of_decide_eq_true (by kernel_rfl)) hr⟩, fun a a' w h ⟨hr⟩ => ⟨sh h (of_decide_eq_true (by kernel_rfl)) hr⟩, fun a a' w h ⟨hr⟩ => ⟨sh h (of_decide_eq_true (by kernel_rfl)) hr⟩, fun a a' w h ⟨hr⟩ => ⟨sh h (of_decide_eq_true (by kernel_rfl)) hr⟩, trivial⟩
              (fun u hu => ⟨hsI.start hu, fun j _ => HP.out.kept hu (fun hf => hf)⟩) ?_ ?_
            · refine ⟨?_, ?_, ?_, ?_, ?_, ?_, ?_, trivial⟩
              · intro a u hI hp hun
                have hsz : 68 < a.tmps.size := by rw [hI.size, HS]; decide
                exact stepH_pure (pAt ga 1) (exec_fa _ _ _ rfl ((hI.fr 10 (by decide)).trans a10) (fa_a1 ga u)) (hI.put 68 _ (by decide)) ⟨eval_same a 68 _ hsz⟩
              · intro a u hI hp hun
                have hsz : 69 < a.tmps.size := by rw [hI.size, HS]; decide
                have hc : u.cell? ⟨ga, 1, none⟩ = some (.int .i64 nw) := (HNB.out.kept hI.kept (fun hf => HNA.out.1 hf)).cell 1
                exact stepH_pure (.int .i64 nw) (exec_ldI _ _ rfl (hp ⟨0, .data⟩ (by simp) rfl).out hc Tryd.underlying2) (hI.put 69 _ (by decide)) ⟨eval_same a 69 _ hsz⟩
              · intro a u hI hp hun
                have hsz : 70 < a.tmps.size := by rw [hI.size, HS]; decide
                have e7 := (hI.fr 7 (by decide)).trans a7
                have e69 : a.eval (.tmp 69) = .int .i64 nw := (hp ⟨1, .data⟩ (by simp) rfl).out
                refine stepH_call 13 #[.pointer (some ⟨g7, 0, none⟩), .int .i64 nw] ?_ ?_
                · simp [execOp, go_sem]
                  exact ⟨ev_simp e7, ev_simp e69⟩
                · refine (HHA.out u (hun.1 rfl)).mono ?_
                  rintro e w' ⟨rfl, hb, hk⟩
                  exact ⟨_, rfl, (hI.next hk).put 70 _ (by decide), ⟨eval_same a 70 _ hsz, hb⟩, fun j hj h => h.next hk (fun e => absurd e hj), fun j hj _ e => absurd e hj⟩
              · intro a u hI hp hun
                have hsz : 71 < a.tmps.size := by rw [hI.size, HS]; decide
                exact stepH_pure (pAt g8 2) (exec_fa _ _ _ rfl ((hI.fr 8 (by decide)).trans a8) (fa_r2 g8 u)) (hI.put 71 _ (by decide)) ⟨eval_same a 71 _ hsz⟩
              · intro a u hI hp hun
                have hsz : 72 < a.tmps.size := by rw [hI.size, HS]; decide
                have hc : u.cell? ⟨g8, 2, none⟩ = some (.float .f64 m2.l) := (HQ.out.kept hI.kept (fun hf => HW.out.ne (Eq.symm hf))).c2
                exact stepH_pure (.float .f64 m2.l) (exec_ldF _ _ rfl (hp ⟨3, .data⟩ (by simp) rfl).out hc Tryd.underlying24) (hI.put 72 _ (by decide)) ⟨eval_same a 72 _ hsz⟩
              · intro a u hI hp hun
                have hsz : 73 < a.tmps.size := by rw [hI.size, HS]; decide
                have e70 : a.eval (.tmp 70) = .float .f64 m2.l := (hp ⟨2, .data⟩ (by simp) rfl).out.1
                have e72 : a.eval (.tmp 72) = .float .f64 m2.l := (hp ⟨4, .data⟩ (by simp) rfl).out
                refine stepH_call 12 #[.float .f64 m2.l, .float .f64 m2.l] ?_ ?_
                · simp [execOp, go_sem]
                  exact ⟨ev_simp e70, ev_simp e72⟩
                · refine (HAL.out u).mono ?_
                  rintro e w' ⟨rfl, hk⟩
                  exact ⟨_, rfl, (hI.next hk.nil).put 73 _ (by decide), ⟨eval_same a 73 _ hsz⟩, fun j _ h => h.next hk (fun _ hf => hf), fun j _ h e => (h e).kept hk (fun hf => hf)⟩
              · intro a u hI hp hun
                have hsz : 12 < a.tmps.size := by rw [hI.size, HS]; decide
                exact stepH_pure (.bool true) (exec_as _ rfl (hp ⟨5, .data⟩ (by simp) rfl).out) (hI.put 12 _ (by decide)) ⟨eval_same a 12 _ hsz⟩
            · intro a u8 hI hR
              have ha := act_eq a A0 [(68, pAt ga 1), (69, .int .i64 nw), (70, .float .f64 m2.l), (71, pAt g8 2), (72, .float .f64 m2.l), (73, .bool true), (12, .bool true)] hI.size hI.defs (show ([68, 69, 70, 71, 72, 73, 12] : List Nat).Nodup by decide) (fun p hp => by
                  rw [HS]
                  have h1 : p.1 ∈ [68, 69, 70, 71, 72, 73, 12] := List.mem_map_of_mem (f := Prod.fst) hp
                  simp at h1
                  omega) (fun p hp => by
                  simp only [List.mem_cons, List.not_mem_nil, or_false] at hp
                  rcases hp with rfl | rfl | rfl | rfl | rfl | rfl | rfl
                  · exact (hR 0 _ rfl).out
                  · exact (hR 1 _ rfl).out
                  · exact (hR 2 _ rfl).out.1
                  · exact (hR 3 _ rfl).out
                  · exact (hR 4 _ rfl).out
                  · exact (hR 5 _ rfl).out
                  · exact (hR 6 _ rfl).out) (fun d hd => hI.fr d hd)
              have HW := Lib.hid (show BuW w u8 g7 g8 m2 from ⟨HCLB.out.ok, (hR 2 _ rfl).out.2, HQ.out.kept hI.kept (fun hf => HW.out.ne (Eq.symm hf)), HW.out.ne, HW.out.ge7, HW.out.ge8, HK.out.fresh hI.kept (fun i hi => by have h1 := HW.out.ge7; have h2 : i = g7 := hi; omega)⟩)
              clear hI hR a7 a8 a10 HS sh HP HQ HK HAL HHA HCLB
              subst ha
              have hA0 := HA0.out
              clear HA0
              subst hA0
              simp only [List.foldl_cons, List.foldl_nil, pAt]
              simp only [Act.put, List.setIfInBounds_toArray, List.set_cons_succ, List.set_cons_zero]
              go_upto_region 28 with (fail)
              go_wp2_with (first
                | (refine wpList_ld rfl _ (.tmp 7) rfl g7 0 rfl (bkl m2) HW.out.p.all _ Tryd.underlying26 rfl (infBk _) ?_; simp only [Act.put, List.setIfInBounds_toArray, List.set_cons_succ, List.set_cons_zero])
                | (refine wpList_ld rfl _ (.tmp 8) rfl g8 0 rfl (bkl m2) HW.out.q.all _ Tryd.underlying29 rfl (infBr _) ?_; simp only [Act.put, List.setIfInBounds_toArray, List.set_cons_succ, List.set_cons_zero])
                | fail)
              refine (same_yes m2 HW.out.ok _).mono ?_
              rintro e w9 ⟨rfl, hk9⟩
              have HW := Lib.hid (HW.out.next hk9)
              clear hk9
              dsimp only
              go_wp2_with (fail)
              go_roundw
              case rel => exact ⟨k + 1, m2, by omega, by go_num, HW.out⟩
              case measure => simp [intOf]; omega
          · by_cases h2 : wh = 2
            · subst h2
              clear h0 h1
              obtain ⟨R, hR⟩ : ∃ R, lsM (isSo (clB m) (clF nb)) 41 0 1099511627777 = R := ⟨_, rfl⟩
              have HT1 := Lib.hid (wait_yes g7 m HW.out.ok nb HN64.out _ HW.out.p)
              have HT2 := Lib.hid (rwait_yes m HW.out.ok nb HN64.out)
              rw [hR] at HT1 HT2
              clear hR q1 q2
              go_wp2_with (fail)
              refine HT1.out.mono ?_
              rintro e u1 ⟨rfl, hk1⟩
              have HW := Lib.hid (HW.out.next hk1)
              clear hk1 HT1
              by_cases hgt : 1099511627776 < R
              · have hv : waV R = .tuple #[.int .i64 0, .bool false] := if_pos hgt
                rw [hv] at HT2 ⊢
                clear hv hgt
                dsimp only
                go_wp2_with (first
                  | (refine wpList_ld rfl _ (.tmp 8) rfl g8 0 rfl (bkl m) HW.out.q.all _ Tryd.underlying29 rfl (infBr _) ?_; simp only [Act.put, List.setIfInBounds_toArray, List.set_cons_succ, List.set_cons_zero])
                  | fail)
                refine (HT2.out _).mono ?_
                rintro e u2 ⟨rfl, hk2⟩
                have HW := Lib.hid (HW.out.next hk2)
                clear hk2 HT2
                dsimp only
                go_upto_region 28 with (fail)
                go_wp2_with (first
                  | (refine wpList_ld rfl _ (.tmp 7) rfl g7 0 rfl (bkl m) HW.out.p.all _ Tryd.underlying26 rfl (infBk _) ?_; simp only [Act.put, List.setIfInBounds_toArray, List.set_cons_succ, List.set_cons_zero])
                  | (refine wpList_ld rfl _ (.tmp 8) rfl g8 0 rfl (bkl m) HW.out.q.all _ Tryd.underlying29 rfl (infBr _) ?_; simp only [Act.put, List.setIfInBounds_toArray, List.set_cons_succ, List.set_cons_zero])
                  | fail)
                refine (same_yes m HW.out.ok _).mono ?_
                rintro e w9 ⟨rfl, hk9⟩
                have HW := Lib.hid (HW.out.next hk9)
                clear hk9
                dsimp only
                go_wp2_with (fail)
                go_roundw
                case rel => exact ⟨k + 1, m, by omega, by go_num, HW.out⟩
                case measure => simp [intOf]; omega
              · have hv : waV R = .tuple #[.int .i64 (R : Int), .bool true] := if_neg hgt
                rw [hv] at HT2 ⊢
                clear hv hgt
                dsimp only
                go_wp2_with (first
                  | (refine wpList_ld rfl _ (.tmp 8) rfl g8 0 rfl (bkl m) HW.out.q.all _ Tryd.underlying29 rfl (infBr _) ?_; simp only [Act.put, List.setIfInBounds_toArray, List.set_cons_succ, List.set_cons_zero])
                  | fail)
                refine (HT2.out _).mono ?_
                rintro e u2 ⟨rfl, hk2⟩
                have HW := Lib.hid (HW.out.next hk2)
                clear hk2 HT2
                dsimp only
                go_upto_region 28 with (fail)
                go_wp2_with (first
                  | (refine wpList_ld rfl _ (.tmp 7) rfl g7 0 rfl (bkl m) HW.out.p.all _ Tryd.underlying26 rfl (infBk _) ?_; simp only [Act.put, List.setIfInBounds_toArray, List.set_cons_succ, List.set_cons_zero])
                  | (refine wpList_ld rfl _ (.tmp 8) rfl g8 0 rfl (bkl m) HW.out.q.all _ Tryd.underlying29 rfl (infBr _) ?_; simp only [Act.put, List.setIfInBounds_toArray, List.set_cons_succ, List.set_cons_zero])
                  | fail)
                refine (same_yes m HW.out.ok _).mono ?_
                rintro e w9 ⟨rfl, hk9⟩
                have HW := Lib.hid (HW.out.next hk9)
                clear hk9
                dsimp only
                go_wp2_with (fail)
                go_roundw
                case rel => exact ⟨k + 1, m, by omega, by go_num, HW.out⟩
                case measure => simp [intOf]; omega
            · by_cases h3 : wh = 3
              · subst h3
                clear h0 h1 h2 q1 q2
                go_upto_region 28 with (first
                  | (refine wpList_st rfl 24 (.tmp 99) _ rfl g7 0 rfl [.float .f64 nb] _ rfl rfl infFl 26 _ HW.out.p (by show 0 + 1 ≤ 4; decide) (one_of _ rfl) ?_; intro u1 hb1 hk1 hz1; have HQ := Lib.hid (HW.out.q.kept hk1 (fun hf => HW.out.ne (Eq.symm hf))); simp only [Act.put, List.setIfInBounds_toArray, List.set_cons_succ, List.set_cons_zero])
                  | (refine wpList_st rfl 24 (.tmp 100) _ rfl g8 0 rfl [.float .f64 nb] _ rfl rfl infFl 29 _ HQ.out (by show 0 + 1 ≤ 4; decide) (one_of _ rfl) ?_; intro u2 hb2 hk2 hz2; simp only [Act.put, List.setIfInBounds_toArray, List.set_cons_succ, List.set_cons_zero])
                  | fail)
                have HW := Lib.hid (show BuW w u2 g7 g8 { m with r := nb } from ⟨⟨HN64.out, HW.out.ok.b, HW.out.ok.l, HW.out.ok.a⟩, KB.kept (m := { m with r := nb }) hb1 hk2 (fun hf => HW.out.ne hf), hb2, HW.out.ne, HW.out.ge7, HW.out.ge8, (HW.out.kept.fresh hk1 (fun i hi => by have h1 := HW.out.ge7; have h2 : i = g7 := hi; omega)).fresh hk2 (fun i hi => by have h1 := HW.out.ge8; have h2 : i = g8 := hi; omega)⟩)
                clear hb1 hk1 hz1 hb2 hk2 hz2 HQ
                go_upto_region 28 with (fail)
                go_wp2_with (first
                  | (refine wpList_ld rfl _ (.tmp 7) rfl g7 0 rfl (bkl { m with r := nb }) HW.out.p.all _ Tryd.underlying26 rfl (infBk _) ?_; simp only [Act.put, List.setIfInBounds_toArray, List.set_cons_succ, List.set_cons_zero])
                  | (refine wpList_ld rfl _ (.tmp 8) rfl g8 0 rfl (bkl { m with r := nb }) HW.out.q.all _ Tryd.underlying29 rfl (infBr _) ?_; simp only [Act.put, List.setIfInBounds_toArray, List.set_cons_succ, List.set_cons_zero])
                  | fail)
                refine (same_yes { m with r := nb } HW.out.ok _).mono ?_
                rintro e w9 ⟨rfl, hk9⟩
                have HW := Lib.hid (HW.out.next hk9)
                clear hk9
                dsimp only
                go_wp2_with (fail)
                go_roundw
                case rel => exact ⟨k + 1, { m with r := nb }, by omega, by go_num, HW.out⟩
                case measure => simp [intOf]; omega
              · by_cases h4 : wh = 4
                · subst h4
                  clear h0 h1 h2 h3 q1 q2
                  go_upto_region 28 with (first
                    | (refine wpList_st rfl 24 (.tmp 105) _ rfl g7 1 rfl [.float .f64 nb] _ rfl rfl infFl 26 _ HW.out.p (by show 1 + 1 ≤ 4; decide) (one_of _ rfl) ?_; intro u1 hb1 hk1 hz1; have HQ := Lib.hid (HW.out.q.kept hk1 (fun hf => HW.out.ne (Eq.symm hf))); simp only [Act.put, List.setIfInBounds_toArray, List.set_cons_succ, List.set_cons_zero])
                    | (refine wpList_st rfl 24 (.tmp 106) _ rfl g8 1 rfl [.float .f64 nb] _ rfl rfl infFl 29 _ HQ.out (by show 1 + 1 ≤ 4; decide) (one_of _ rfl) ?_; intro u2 hb2 hk2 hz2; simp only [Act.put, List.setIfInBounds_toArray, List.set_cons_succ, List.set_cons_zero])
                    | fail)
                  have HW := Lib.hid (show BuW w u2 g7 g8 { m with b := nb } from ⟨⟨HW.out.ok.r, HN64.out, HW.out.ok.l, HW.out.ok.a⟩, KB.kept (m := { m with b := nb }) hb1 hk2 (fun hf => HW.out.ne hf), hb2, HW.out.ne, HW.out.ge7, HW.out.ge8, (HW.out.kept.fresh hk1 (fun i hi => by have h1 := HW.out.ge7; have h2 : i = g7 := hi; omega)).fresh hk2 (fun i hi => by have h1 := HW.out.ge8; have h2 : i = g8 := hi; omega)⟩)
                  clear hb1 hk1 hz1 hb2 hk2 hz2 HQ
                  go_upto_region 28 with (fail)
                  go_wp2_with (first
                    | (refine wpList_ld rfl _ (.tmp 7) rfl g7 0 rfl (bkl { m with b := nb }) HW.out.p.all _ Tryd.underlying26 rfl (infBk _) ?_; simp only [Act.put, List.setIfInBounds_toArray, List.set_cons_succ, List.set_cons_zero])
                    | (refine wpList_ld rfl _ (.tmp 8) rfl g8 0 rfl (bkl { m with b := nb }) HW.out.q.all _ Tryd.underlying29 rfl (infBr _) ?_; simp only [Act.put, List.setIfInBounds_toArray, List.set_cons_succ, List.set_cons_zero])
                    | fail)
                  refine (same_yes { m with b := nb } HW.out.ok _).mono ?_
                  rintro e w9 ⟨rfl, hk9⟩
                  have HW := Lib.hid (HW.out.next hk9)
                  clear hk9
                  dsimp only
                  go_wp2_with (fail)
                  go_roundw
                  case rel => exact ⟨k + 1, { m with b := nb }, by omega, by go_num, HW.out⟩
                  case measure => simp [intOf]; omega
                · by_cases h5 : wh = 5
                  · subst h5
                    clear h0 h1 h2 h3 h4 q1 q2
                    go_upto_region 28 with (first
                      | (refine wpList_st rfl 24 (.tmp 111) _ rfl g7 2 rfl [.float .f64 nb] _ rfl rfl infFl 26 _ HW.out.p (by show 2 + 1 ≤ 4; decide) (one_of _ rfl) ?_; intro u1 hb1 hk1 hz1; have HQ := Lib.hid (HW.out.q.kept hk1 (fun hf => HW.out.ne (Eq.symm hf))); simp only [Act.put, List.setIfInBounds_toArray, List.set_cons_succ, List.set_cons_zero])
                      | (refine wpList_st rfl 24 (.tmp 112) _ rfl g8 2 rfl [.float .f64 nb] _ rfl rfl infFl 29 _ HQ.out (by show 2 + 1 ≤ 4; decide) (one_of _ rfl) ?_; intro u2 hb2 hk2 hz2; simp only [Act.put, List.setIfInBounds_toArray, List.set_cons_succ, List.set_cons_zero])
                      | fail)
                    have HW := Lib.hid (show BuW w u2 g7 g8 { m with l := nb } from ⟨⟨HW.out.ok.r, HW.out.ok.b, HN64.out, HW.out.ok.a⟩, KB.kept (m := { m with l := nb }) hb1 hk2 (fun hf => HW.out.ne hf), hb2, HW.out.ne, HW.out.ge7, HW.out.ge8, (HW.out.kept.fresh hk1 (fun i hi => by have h1 := HW.out.ge7; have h2 : i = g7 := hi; omega)).fresh hk2 (fun i hi => by have h1 := HW.out.ge8; have h2 : i = g8 := hi; omega)⟩)
                    clear hb1 hk1 hz1 hb2 hk2 hz2 HQ
                    go_upto_region 28 with (fail)
                    go_wp2_with (first
                      | (refine wpList_ld rfl _ (.tmp 7) rfl g7 0 rfl (bkl { m with l := nb }) HW.out.p.all _ Tryd.underlying26 rfl (infBk _) ?_; simp only [Act.put, List.setIfInBounds_toArray, List.set_cons_succ, List.set_cons_zero])
                      | (refine wpList_ld rfl _ (.tmp 8) rfl g8 0 rfl (bkl { m with l := nb }) HW.out.q.all _ Tryd.underlying29 rfl (infBr _) ?_; simp only [Act.put, List.setIfInBounds_toArray, List.set_cons_succ, List.set_cons_zero])
                      | fail)
                    refine (same_yes { m with l := nb } HW.out.ok _).mono ?_
                    rintro e w9 ⟨rfl, hk9⟩
                    have HW := Lib.hid (HW.out.next hk9)
                    clear hk9
                    dsimp only
                    go_wp2_with (fail)
                    go_roundw
                    case rel => exact ⟨k + 1, { m with l := nb }, by omega, by go_num, HW.out⟩
                    case measure => simp [intOf]; omega
                  · have b0 : (wh == 0) = false := by simpa using h0
                    have b1 : (wh == 1) = false := by simpa using h1
                    have b2 : (wh == 2) = false := by simpa using h2
                    have b3 : (wh == 3) = false := by simpa using h3
                    have b4 : (wh == 4) = false := by simpa using h4
                    have b5 : (wh == 5) = false := by simpa using h5
                    clear h0 h1 h2 h3 h4 h5 q1 q2
                    go_upto_region 28 with (fail)
                    go_wp2_with (first
                      | (refine wpList_ld rfl _ (.tmp 7) rfl g7 0 rfl (bkl m) HW.out.p.all _ Tryd.underlying26 rfl (infBk _) ?_; simp only [Act.put, List.setIfInBounds_toArray, List.set_cons_succ, List.set_cons_zero])
                      | (refine wpList_ld rfl _ (.tmp 8) rfl g8 0 rfl (bkl m) HW.out.q.all _ Tryd.underlying29 rfl (infBr _) ?_; simp only [Act.put, List.setIfInBounds_toArray, List.set_cons_succ, List.set_cons_zero])
                      | fail)
                    refine (same_yes m HW.out.ok _).mono ?_
                    rintro e w9 ⟨rfl, hk9⟩
                    have HW := Lib.hid (HW.out.next hk9)
                    clear hk9
                    dsimp only
                    go_wp2_with (fail)
                    go_roundw
                    case rel => exact ⟨k + 1, m, by omega, by go_num, HW.out⟩
                    case measure => simp [intOf]; omega
    · go_wp2_with fail
      refine (wakes_yes _ (HG.out.kept HW.out.kept)).mono ?_
      rintro e w9 ⟨rfl, hk9⟩
      go_wp2
      go_ret
      exact ⟨rfl, (HW.out.kept.then hk9).below (Nat.le_refl _) (fun k hf => hf.elim)⟩
end Go.Proofs.YtiehmpiaddjhiaaDoor
