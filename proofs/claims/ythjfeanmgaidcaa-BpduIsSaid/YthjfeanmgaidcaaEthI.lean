/- Package ether: contract of Put. -/
import Derived.Test.YthjfeanmgaidcaaMg36
import Derived.Test.YthjfeanmgaidcaaEthH
import Derived.Test.YthjfeanmgaidcaaMg5
namespace Go.Proofs.Ythjfeanmgaidcaa
open Go.RowKit Go.Sort
set_option linter.unusedVariables false

theorem head_len (f : Fr) (hl : f.l.length = 3) (ho : f.o.length = 3) : (headM f).length ≤ 10 := by
  unfold headM
  split
  · simp [twoM]
  · split
    · simp [twoM, hl]
    · simp [twoM, hl, ho]
set_option maxRecDepth 100000 in
set_option maxHeartbeats 4000000 in
theorem put_yes (f : Fr) (vt vb vr : Value) (w : World) (h : FrIn w f vt vb vr) :
    Calls Try.prog 16 #[frv f vt vb vr] w fun e w' => ∃ v, e = .returned (.tuple #[v, .int .i64 (putM f).2]) ∧ Made w w' v (putM f).1 := by
  have hF := FB.new w 57 f vt vb vr
  have hk := (Kept.refl Nil w).alloc (.cells (fcs f vt vb vr).toArray 57)
  have HF := Lib.hid hF
  have HK := Lib.hid hk
  have HI := Lib.hid (h.kept hk)
  have HSIX := Lib.hid h.ok.six
  have HHL := Lib.hid (head_len f h.ok.l h.ok.o)
  clear hF hk h
  go_enter Try.func16, Try.ntmps16
  go_upto_region 1 with (fail)
  refine wp_nameE (fun W => FB W w.heap.size 57 f vt vb vr ∧ Kept Nil w W ∧ FrIn W f vt vb vr) ⟨HF.out, HK.out, HI.out⟩ ?_
  clear HF HK HI
  rintro W ⟨hF, hk, hi⟩
  obtain ⟨At, nt, ct, rfl, htt⟩ := hi.t
  obtain ⟨Ab, nb, cb, rfl, hbb⟩ := hi.b
  obtain ⟨Ar, nr, cr, rfl, hrr⟩ := hi.r
  have c12 := hF.ct HSIX.out
  have HTL := Lib.hid htt.len
  have HBL := Lib.hid hbb.1
  have HRL := Lib.hid hrr.1
  have hbn : nb ≤ 1000000 := by rw [← hbb.1]; exact hi.bn
  have hrn : nr ≤ 1000000 := by rw [← hrr.1]; exact hi.rn
  have htn : nt ≤ 1000 := by rw [← htt.len]; exact hi.tn
  have HF := Lib.hid hF
  have HK := Lib.hid hk
  have HI := Lib.hid hi
  have HT := Lib.hid htt
  clear hF hk hi htt hbb hrr
  go_wp2_with fail
  refine (may_yes _ _ _ _ _ HT.out).mono ?_
  rintro e w1 ⟨rfl, hk⟩
  have HF1 := Lib.hid (HF.out.kept hk (fun hf => hf))
  have HI1 := Lib.hid (HI.out.kept hk)
  have HK1 := Lib.hid (HK.out.then hk)
  clear hk c12 HF HI HK HT
  obtain ⟨mt, hmt⟩ : ∃ mt, mayL f.t = mt := ⟨_, rfl⟩
  rw [hmt]
  have HMT := Lib.hid hmt
  clear hmt
  cases mt
  · go_wp2
    go_ret2
    have hp : putM f = ([], 1) := by unfold putM; rw [HMT.out, Bool.false_and, if_pos rfl]
    rw [hp]
    exact ⟨_, rfl, World.ownsRow_nil _ _ _ _, HK1.out⟩
  · go_wp2_with (refine wpList_ld rfl _ _ rfl _ 0 rfl _ HF1.out.all _ Try.underlying57 rfl (by rw [fcs_len HSIX.out]; exact infF) ?_)
    refine (mayCarry_yes f _ _ _ _ HI1.out HMT.out).mono ?_
    rintro e w2 ⟨rfl, hk⟩
    have HF2 := Lib.hid (HF1.out.kept hk (fun hf => hf))
    have HI2 := Lib.hid (HI1.out.kept hk)
    have HK2 := Lib.hid (HK1.out.then hk)
    clear hk HF1 HI1 HK1
    obtain ⟨mc, hmc⟩ : ∃ mc, carryM f = mc := ⟨_, rfl⟩
    rw [hmc]
    have HMC := Lib.hid hmc
    clear hmc
    cases mc
    · go_wp2
      go_ret2
      have hp : putM f = ([], 1) := by unfold putM; rw [HMC.out, Bool.and_false, if_pos rfl]
      rw [hp]
      exact ⟨_, rfl, World.ownsRow_nil _ _ _ _, HK2.out⟩
    · have hbt : bytesM f.t = bytTs f.t := Stk.bytes ((mayL_iff f.t).1 HMT.out)
      have HWM := Lib.hid (show withM f.d f.s f.t (headM f) = aheadM f by unfold withM aheadM; rw [hbt])
      have hput : putM f = if 65539 < (aheadM f).length + nb + nr then ([], 3) else (aheadM f ++ f.b ++ f.r, 0) := by
        unfold putM
        rw [HMT.out, HMC.out, HBL.out, HRL.out]
        rfl
      have hal : (aheadM f).length ≤ 5000 := by
        have := HTL.out
        have := HHL.out
        have := HSIX.out.d
        have := HSIX.out.s
        unfold aheadM
        rw [List.length_append, List.length_append, List.length_append, bytTs_len]
        omega
      have HPUT := Lib.hid hput
      have HAL := Lib.hid hal
      clear hbt hput hal
      have HT2 := Lib.hid (show Tags w2 At nt ct f.t by obtain ⟨A, n, c, e, ht⟩ := HI2.out.t; cases e; exact ht)
      have HS2 := Lib.hid (show w.heap.size ≤ w2.heap.size from HK2.out.size)
      go_wp2
      refine wp_region_acts Nil [7, 8] (fun i vl => (#[], 0)) (fun i => undef) (withI w.heap.size (headM f) (aheadM f)) (fun i v => if i = 7 then ∃ A c, v = .slice A (headM f).length c else ∃ A c, v = .slice A (aheadM f).length c) 9 (by kernel_rfl) (by kernel_rfl) (withI_keeps _ _ _) ⟨HS2.out, trivial⟩ ?_
      simp only [List.take_succ_cons, List.take_zero, List.drop_succ_cons, List.drop_zero]
      refine tLex_quiets 7 rfl (by kernel_rfl) ?_
      simp only [List.take_succ_cons, List.take_zero, List.drop_succ_cons, List.drop_zero]
      apply Exists.intro
      refine ⟨?hq, ?hv, ?ht⟩
      case hq =>
        intro V hV
        have e12 := fun d os => ((HF2.out.kept hV (fun hf => hf)).kept (kept_grown' V d os) (fun hf => hf)).ct HSIX.out
        go_big_quiet_step (fail)
        refine wpQuiet_ld rfl _ _ rfl w.heap.size 0 rfl (bys f.d) (fun w' hw => row_grown ((HF2.out.kept hV (fun hf => hf)).rd) hw) _ Try.underlying26 rfl (by rw [bys_len, HSIX.out.d]; exact infm) ?_
        simp only [Act.put, List.setIfInBounds_toArray, List.set_cons_succ, List.set_cons_zero]
        go_big_quiet_step (fail)
        refine wpQuiet_ld rfl _ _ rfl w.heap.size 6 rfl (bys f.s) (fun w' hw => row_grown ((HF2.out.kept hV (fun hf => hf)).rs HSIX.out) hw) _ Try.underlying26 rfl (by rw [bys_len, HSIX.out.s]; exact infm) ?_
        simp only [Act.put, List.setIfInBounds_toArray, List.set_cons_succ, List.set_cons_zero]
        go_big_quiet_step (fail)
        go_big_quiet_step (fail)
        refine wpQuiet_ld rfl _ _ rfl w.heap.size 0 rfl (fcs f (.slice At nt ct) (.slice Ab nb cb) (.slice Ar nr cr)) (fun w' hw => row_grown ((HF2.out.kept hV (fun hf => hf)).all) hw) _ Try.underlying57 rfl (by rw [fcs_len HSIX.out]; exact infF) ?_
        simp only [Act.put, List.setIfInBounds_toArray, List.set_cons_succ, List.set_cons_zero]
        exact wpQuiet_nil rfl
      case hv => exact ⟨trivial, trivial, trivial, trivial, trivial, trivial, trivial, trivial⟩
      case ht =>
        refine tLex_act 49 #[frv f (.slice At nt ct) (.slice Ab nb cb) (.slice Ar nr cr)] (fun u => ?he) rfl rfl (.slice none (headM f).length 0) ⟨_, _, rfl⟩ ?hc ?_
        case he => simp [execOp, go_sem]; rfl
        case hc =>
          intro D u hu hI hd
          refine (ahead_yes f _ _ _ u (HI2.out.kept hu) HMC.out).mono ?_
          rintro e w' ⟨v, rfl, hm⟩
          obtain ⟨A3, c3, hv3⟩ := own_form hm.1
          exact ⟨v, rfl, ⟨A3, c3, hv3⟩, hu.then hm.2, ⟨Nat.le_trans hI.1 hm.2.size, own_mono hm.1 hI.1⟩, hm.2.size, fun k _ hk => hm.2.block k hk (fun hf => hf)⟩
        rintro v ⟨A3, c3, rfl⟩
        simp only [Act.put, List.setIfInBounds_toArray, List.set_cons_succ, List.set_cons_zero]
        refine tLex_act 48 #[.agg (bys f.d).toArray, .agg (bys f.s).toArray, .slice At nt ct, .slice A3 (headM f).length c3] (fun u => ?he2) rfl rfl (.slice none (aheadM f).length 0) ⟨_, _, rfl⟩ ?hc2 ?_
        case he2 => simp [execOp, go_sem]
        case hc2 =>
          intro D u hu hI hd
          obtain ⟨hI1, hI2⟩ := hI
          have hI2' : u.ownsRow w.heap.size 5 1 (.slice A3 (headM f).length c3) (headM f).length (bys (headM f)) := hI2
          obtain ⟨A4, c4, e4, hy4, _⟩ := Byt.of_own hI2'
          cases e4
          refine (with_yes f.d f.s HSIX.out.d HSIX.out.s At nt ct f.t A3 _ c3 (headM f) u (HT2.out.kept hu (fun _ _ hf => hf)) hy4 htn (by have := HHL.out; omega)).mono ?_
          rintro e w' ⟨v, rfl, hm⟩
          rw [HWM.out] at hm
          obtain ⟨A5, c5, hv5⟩ := own_form hm.1
          exact ⟨v, rfl, ⟨A5, c5, hv5⟩, hu.then hm.2, ⟨Nat.le_trans hI1 hm.2.size, own_mono hm.1 hI1⟩, hm.2.size, fun k _ hk => hm.2.block k hk (fun hf => hf)⟩
        rintro v ⟨A5, c5, rfl⟩
        simp only [Act.put, List.setIfInBounds_toArray, List.set_cons_succ, List.set_cons_zero]
        intro w3 hs
        have hown : w3.ownsRow w.heap.size 5 1 (.slice A5 (aheadM f).length c5) (aheadM f).length (bys (aheadM f)) := hs.know.2
        obtain ⟨A6, c6, e6, hy6, _⟩ := Byt.of_own hown
        cases e6
        have HY := Lib.hid hy6
        have HF3 := Lib.hid (HF2.out.kept hs.kept (fun hf => hf))
        have HI3 := Lib.hid (HI2.out.kept hs.kept)
        have HK3 := Lib.hid (HK2.out.then hs.kept)
        have c21 := HF3.out.cb HSIX.out
        have c22 := HF3.out.cr HSIX.out
        clear hown hy6 hs HF2 HI2 HK2 HT2
        obtain ⟨q, hq⟩ : ∃ q, (aheadM f).length = q := ⟨_, rfl⟩
        rw [hq] at HY HAL ⊢
        have hq5 := HAL.out
        have HPUT2 := Lib.hid (by have := HPUT.out; rw [hq] at this; exact this)
        have HQ := Lib.hid hq
        clear hq HPUT
        have hw1 : IntKind.wrap .i64 ((q : Int) + (nb : Int)) = (q : Int) + (nb : Int) := by rw [IntKind.wrap_i64]; omega
        have hw2 : IntKind.wrap .i64 ((q : Int) + (nb : Int) + (nr : Int)) = (q : Int) + (nb : Int) + (nr : Int) := by rw [IntKind.wrap_i64]; omega
        by_cases hbig : 65539 < q + nb + nr
        · have hbig' : (65539 : Int) < (q : Int) + (nb : Int) + (nr : Int) := by omega
          have HP := Lib.hid (by have := HPUT2.out; rw [if_pos hbig] at this; exact this)
          clear hbig HPUT2
          go_wp2
          go_ret2
          rw [HP.out]
          exact ⟨_, rfl, World.ownsRow_nil _ _ _ _, HK3.out⟩
        · have hbig' : ¬ (65539 : Int) < (q : Int) + (nb : Int) + (nr : Int) := by omega
          have HP := Lib.hid (by have := HPUT2.out; rw [if_neg hbig] at this; exact this)
          clear hbig HPUT2
          have hB := Blo.new w3 31 #[.slice A5 q c5, .slice Ab nb cb, .slice Ar nr cr]
          have HB := Lib.hid hB
          have hka := (Kept.refl Nil w3).alloc (.cells #[.slice A5 q c5, .slice Ab nb cb, .slice Ar nr cr] 31)
          have HKA := Lib.hid hka
          have HTOT := Lib.hid (show [aheadM f, f.b, f.r].flatten.length ≤ 1099511627776 by simp [HQ.out, HBL.out, HRL.out]; omega)
          clear hB hka
          go_wp2_with fail
          refine (concat_b w3.heap.size 3 31 [.slice A5 q c5, .slice Ab nb cb, .slice Ar nr cr] [aheadM f, f.b, f.r] _ HB.out rfl rfl (by decide) ?_ HTOT.out).mono ?_
          · intro i h1 h2
            match i, h1 with
            | 0, _ => exact ⟨_, _, _, rfl, HY.out.kept HKA.out (fun _ _ hf => hf)⟩
            | 1, _ => obtain ⟨A, n, c, e, ht⟩ := HI3.out.b; cases e; exact ⟨_, _, _, rfl, ht.kept HKA.out (fun _ _ hf => hf)⟩
            | 2, _ => obtain ⟨A, n, c, e, ht⟩ := HI3.out.r; cases e; exact ⟨_, _, _, rfl, ht.kept HKA.out (fun _ _ hf => hf)⟩
          rintro e w4 ⟨v, rfl, hm⟩
          rw [show [aheadM f, f.b, f.r].flatten = aheadM f ++ f.b ++ f.r by simp] at hm
          have HM := Lib.hid hm
          clear hm
          go_wp2
          go_ret2
          rw [HP.out]
          exact ⟨_, rfl, own_mono HM.out.1 (Nat.le_trans HK3.out.size HKA.out.size), (HK3.out.then HKA.out).then HM.out.2⟩
end Go.Proofs.Ythjfeanmgaidcaa
