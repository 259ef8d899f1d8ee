/- Package ether: contract of readCarried. -/
import Derived.Test.YthjfeanmgaidcaaMg30
namespace Go.Proofs.Ythjfeanmgaidcaa
open Go.RowKit Go.Sort
set_option linter.unusedVariables false

theorem llc_six (c r : List UInt8) : (llcM c r).1.six := by
  unfold llcM
  split
  · exact Fr.zero_six
  · split
    · split
      · exact Fr.zero_six
      · exact ⟨rfl, rfl, by simp; omega, by simp; omega⟩
    · exact ⟨rfl, rfl, by simp; omega, rfl⟩
theorem llc_r (c r : List UInt8) : ((llcM c r).2 = 0 ∧ (llcM c r).1.r = r) ∨ ((llcM c r).2 ≠ 0 ∧ (llcM c r).1 = Fr.zero) := by
  unfold llcM
  split
  · exact .inr ⟨by simp, rfl⟩
  · split
    · split
      · exact .inr ⟨by simp, rfl⟩
      · exact .inl ⟨rfl, rfl⟩
    · exact .inl ⟨rfl, rfl⟩
/-- A frame told of, with its error; its slices are new. -/
def ToldC (w w' : World) (R : Fr × Int) (v : Value) : Prop :=
  ∃ vb vr, v = .tuple #[frv R.1 nilv vb vr, .int .i64 R.2] ∧ NewB w w' vb R.1.b ∧ NewB w w' vr R.1.r
theorem ToldC.zero (w w' : World) (e : Int) : ToldC w w' (Fr.zero, e) (.tuple #[frv Fr.zero nilv nilv nilv, .int .i64 e]) := ⟨nilv, nilv, rfl, NewB.nil _ _, NewB.nil _ _⟩
set_option maxRecDepth 100000 in
set_option maxHeartbeats 4000000 in
theorem carried_yes (A : Option Addr) (n c : Nat) (l : List UInt8) (w : World) (h : Byt w A n c l) (hn : n ≤ 140737488355328) :
    Calls Try.prog 77 #[.slice A n c] w fun e w' => ∃ v, e = .returned v ∧ ToldC w w' (carM l) v ∧ Kept Nil w w' := by
  have hF4 := FB.new w 57 Fr.zero nilv nilv nilv
  have hk0 := (Kept.refl Nil w).alloc (.cells (fcs Fr.zero nilv nilv nilv).toArray 57)
  have hb := h.kept hk0 (fun _ _ hf => hf)
  have hln := h.1
  have HF4 := Lib.hid hF4
  have HK0 := Lib.hid hk0
  have HB := Lib.hid hb
  have HLN := Lib.hid hln
  clear hF4 hk0 hb h hln
  go_enter Try.func77, Try.ntmps77
  go_wp2_with fail
  refine (new_yes _ _ _ _ _ HB.out hn).mono ?_
  rintro e w1 ⟨g, A1, c1, rfl, hc, hk, hg, hi⟩
  have HC1 := Lib.hid hc
  have HK1 := Lib.hid (HK0.out.then hk)
  have HF41 := Lib.hid (HF4.out.kept hk (fun hf => hf))
  have HG := Lib.hid (show w.heap.size ≠ g by simp at hg; omega)
  have HGL := Lib.hid (show w.heap.size ≤ g by simp at hg; omega)
  clear hc hk hg hi HF4 HK0 HB
  go_wp2_with fail
  refine (Two_yes _ _ _ _ _ _ HC1.out).mono ?_
  rintro e w2 ⟨rfl, hc, hk⟩
  have HC2 := Lib.hid hc
  have HK2 := Lib.hid (HK1.out.fresh hk (fun i hi => by cases hi; exact HGL.out))
  have HF42 := Lib.hid (HF41.out.kept hk (fun hf => HG.out hf))
  clear hc hk HC1 HK1 HF41
  by_cases h2 : l.length < 2
  · have e2 := takeM_short l 0 2 (by omega) (by omega)
    rw [show ((2 : Nat) : Int) = 2 from rfl] at e2
    rw [e2] at HC2 ⊢
    have HR := Lib.hid (show carM l = (Fr.zero, 4) by unfold carM; rw [if_pos h2])
    clear e2 h2
    simp only [numM, List.foldl_nil]
    go_wp2_with fail
    refine (err_yes _ _ _ HC2.out.c0 HC2.out.c3).mono ?_
    rintro e w3 ⟨rfl, rfl⟩
    go_wp2_with fail
    refine (err_yes _ _ _ HC2.out.c0 HC2.out.c3).mono ?_
    rintro e w3 ⟨rfl, rfl⟩
    go_wp2_with (refine wpList_st rfl _ _ _ rfl _ 0 rfl (fcs Fr.zero nilv nilv nilv) _ rfl rfl infF 57 _ HF42.out (by rw [fcs_len Fr.zero_six]; omega) (fcs_one rfl rfl rfl) ?_; intro w4 hb4 hk4 hz4)
    have HF44 := Lib.hid (FB.of_all (f' := Fr.zero) Fr.zero_six Fr.zero_six hb4)
    refine bodyPost_ret (res_cell1 Try.results77 rfl rfl HF44.out.all Try.underlying57 rfl infF) rfl ?_
    rw [HR.out]
    exact ⟨_, rfl, ToldC.zero _ _ _, HK2.out.fresh hk4 (fun i hi => by cases hi; exact Nat.le_refl _)⟩
  · have e2 := takeM_ok l 0 2 (by omega)
    rw [show ((2 : Nat) : Int) = 2 from rfl] at e2
    simp only [List.drop_zero, Nat.zero_add] at e2
    rw [e2] at HC2 ⊢
    simp only at HC2 ⊢
    have hN := numM_take2 l
    have hcar : carM l = if 1536 ≤ numM (l.take 2) then (⟨z6, z6, [], 1, (numM (l.take 2) : Int), z3, z3, l.drop 2, []⟩, 0) else
        if 1500 < numM (l.take 2) then (Fr.zero, 5) else if l.length < 2 + numM (l.take 2) then (Fr.zero, 4) else llcM ((l.drop 2).take (numM (l.take 2))) (l.drop (2 + numM (l.take 2))) := by
      rw [carM, if_neg h2]
    generalize numM (l.take 2) = N at *
    have HCAR := Lib.hid hcar
    have H2 := Lib.hid h2
    clear hcar h2 e2
    go_wp2_with fail
    refine (err_yes _ _ _ HC2.out.c0 HC2.out.c3).mono ?_
    rintro e w3 ⟨rfl, rfl⟩
    by_cases ha : 1536 ≤ N
    · have HR := Lib.hid (by have := HCAR.out; rw [if_pos ha] at this; exact this)
      have ha' : (1536 : Int) ≤ (N : Int) := by omega
      clear ha HCAR
      go_wp2_with fail
      refine (Rest_yes _ _ _ _ _ _ HC2.out hn).mono ?_
      rintro e w3 ⟨vb, rfl, ho, hc, hk⟩
      rw [rest_of l 2 (by have := H2.out; omega)] at ho
      have HO3 := Lib.hid (NewB.of_own (w0 := w2) ho (Nat.le_refl _))
      have HK3 := Lib.hid (HK2.out.fresh hk (fun i hi => by cases hi; exact HGL.out))
      have HF43 := Lib.hid (HF42.out.kept hk (fun hf => HG.out hf))
      have HSZ := Lib.hid HK2.out.size
      have HL4 := Lib.hid HF42.out.lt
      obtain ⟨A3, n3, c3, rfl, hy3, hi3⟩ := HO3.out
      clear hc hk ho hy3 hi3
      go_wp2_with (refine wpList_st rfl _ _ _ rfl _ 0 rfl (fcs ⟨z6, z6, [], 1, (N : Int), z3, z3, l.drop 2, []⟩ nilv (.slice A3 n3 c3) nilv) _ rfl rfl infF 57 _ HF43.out (by rw [fcs_len Fr.zero_six, fcs_len ⟨rfl, rfl, rfl, rfl⟩]; omega) (fcs_one rfl rfl rfl) ?_; intro w4 hb4 hk4 hz4)
      have HF44 := Lib.hid (FB.of_all (f' := ⟨z6, z6, [], 1, (N : Int), z3, z3, l.drop 2, []⟩) Fr.zero_six ⟨rfl, rfl, rfl, rfl⟩ hb4)
      refine bodyPost_ret (res_cell1 Try.results77 rfl rfl HF44.out.all Try.underlying57 rfl (by rw [fcs_len ⟨rfl, rfl, rfl, rfl⟩]; exact infF)) rfl ?_
      rw [HR.out]
      exact ⟨_, rfl, ⟨_, _, rfl, (HO3.out.far hk4 HL4.out).base HSZ.out, NewB.nil _ _⟩, HK3.out.fresh hk4 (fun i hi => by cases hi; exact Nat.le_refl _)⟩
    · have ha' : ¬ (1536 : Int) ≤ (N : Int) := by omega
      by_cases hb : 1500 < N
      · have HR := Lib.hid (by have := HCAR.out; rw [if_neg ha, if_pos hb] at this; exact this)
        have hb' : (1500 : Int) < (N : Int) := by omega
        clear ha hb HCAR
        go_wp2_with (refine wpList_st rfl _ _ _ rfl _ 0 rfl (fcs Fr.zero nilv nilv nilv) _ rfl rfl infF 57 _ HF42.out (by rw [fcs_len Fr.zero_six]; omega) (fcs_one rfl rfl rfl) ?_; intro w4 hb4 hk4 hz4)
        have HF44 := Lib.hid (FB.of_all (f' := Fr.zero) Fr.zero_six Fr.zero_six hb4)
        refine bodyPost_ret (res_cell1 Try.results77 rfl rfl HF44.out.all Try.underlying57 rfl infF) rfl ?_
        rw [HR.out]
        exact ⟨_, rfl, ToldC.zero _ _ _, HK2.out.fresh hk4 (fun i hi => by cases hi; exact Nat.le_refl _)⟩
      · have hb' : ¬ (1500 : Int) < (N : Int) := by omega
        have HCB := Lib.hid (by have := HCAR.out; rw [if_neg ha, if_neg hb] at this; exact this)
        have HBN := Lib.hid hb
        clear ha hb HCAR
        by_cases hd : l.length < 2 + N
        · have e3 := takeM_short l 2 N (by have := H2.out; omega) hd
          have e4 := rest_err ⟨l, 2, 4⟩ (by simp)
          have HR := Lib.hid (by have := HCB.out; rw [if_pos hd] at this; exact this)
          have E3 := Lib.hid e3
          have E4 := Lib.hid e4
          clear e3 e4 hd HCB
          go_wp2_with fail
          refine (Take_yes _ _ _ _ _ (N : Int) _ HC2.out (by omega) hn).mono ?_
          rintro e w3 ⟨vc, rfl, ho, hc, hk⟩
          rw [E3.out] at ho hc
          obtain ⟨Ac, cc, rfl, hyc, hic⟩ := Byt.of_own ho
          have HC3 := Lib.hid hc
          have HK3 := Lib.hid (HK2.out.fresh hk (fun i hi => by cases hi; exact HGL.out))
          have HF43 := Lib.hid (HF42.out.kept hk (fun hf => HG.out hf))
          clear hc hk ho hyc hic
          go_wp2_with fail
          refine (Rest_yes _ _ _ _ _ _ HC3.out hn).mono ?_
          rintro e w4 ⟨vr, rfl, ho, hc, hk⟩
          rw [E4.out] at ho hc
          obtain ⟨Ar, cr, rfl, hyr, hir⟩ := Byt.of_own ho
          have HC4 := Lib.hid hc
          have HK4 := Lib.hid (HK3.out.fresh hk (fun i hi => by cases hi; exact HGL.out))
          have HF44 := Lib.hid (HF43.out.kept hk (fun hf => HG.out hf))
          clear hc hk ho hyr hir
          go_wp2_with fail
          refine (err_yes _ _ _ HC4.out.c0 HC4.out.c3).mono ?_
          rintro e w5 ⟨rfl, rfl⟩
          go_wp2_with fail
          refine (err_yes _ _ _ HC4.out.c0 HC4.out.c3).mono ?_
          rintro e w6 ⟨rfl, rfl⟩
          go_wp2_with (refine wpList_st rfl _ _ _ rfl _ 0 rfl (fcs Fr.zero nilv nilv nilv) _ rfl rfl infF 57 _ HF44.out (by rw [fcs_len Fr.zero_six]; omega) (fcs_one rfl rfl rfl) ?_; intro w7 hb7 hk7 hz7)
          have HF47 := Lib.hid (FB.of_all (f' := Fr.zero) Fr.zero_six Fr.zero_six hb7)
          refine bodyPost_ret (res_cell1 Try.results77 rfl rfl HF47.out.all Try.underlying57 rfl infF) rfl ?_
          rw [HR.out]
          exact ⟨_, rfl, ToldC.zero _ _ _, HK4.out.fresh hk7 (fun i hi => by cases hi; exact Nat.le_refl _)⟩
        · have e3 := takeM_ok l 2 N (by omega)
          have e4 := rest_of l (2 + N) (by omega)
          have hlc : ((l.drop 2).take N).length ≤ 140737488355328 := by have := HLN.out; simp; omega
          have HR := Lib.hid (by have := HCB.out; rw [if_neg hd] at this; exact this)
          have E3 := Lib.hid e3
          have E4 := Lib.hid e4
          have HLC := Lib.hid hlc
          clear e3 e4 hd HCB hlc
          go_wp2_with fail
          refine (Take_yes _ _ _ _ _ (N : Int) _ HC2.out (by omega) hn).mono ?_
          rintro e w3 ⟨vc, rfl, ho, hc, hk⟩
          rw [E3.out] at ho hc
          generalize (l.drop 2).take N = cl at *
          generalize l.drop (2 + N) = rl at *
          obtain ⟨Ac, cc, rfl, hyc, hic⟩ := Byt.of_own ho
          have HC3 := Lib.hid hc
          have HYC := Lib.hid hyc
          have HIC := Lib.hid hic
          have HK3 := Lib.hid (HK2.out.fresh hk (fun i hi => by cases hi; exact HGL.out))
          have HF43 := Lib.hid (HF42.out.kept hk (fun hf => HG.out hf))
          clear hc hk ho hyc hic
          go_wp2_with fail
          refine (Rest_yes _ _ _ _ _ _ HC3.out hn).mono ?_
          rintro e w4 ⟨vr, rfl, ho, hc, hk⟩
          rw [E4.out] at ho hc
          obtain ⟨Ar, cr, rfl, hyr, hir⟩ := Byt.of_own ho
          have HC4 := Lib.hid hc
          have HYR := Lib.hid hyr
          have HIR := Lib.hid (show ∀ i, Lies Ar rl.length i → w.heap.size < i from fun i hi => Nat.lt_of_lt_of_le HF43.out.lt (hir i hi))
          have HGC := Lib.hid (HC2.out.blo.lt)
          have HYC4 := Lib.hid (HYC.out.kept hk (fun i hi hf => by cases hf; have := HIC.out _ hi; have := HGC.out; omega))
          have HK4 := Lib.hid (HK3.out.fresh hk (fun i hi => by cases hi; exact HGL.out))
          have HF44 := Lib.hid (HF43.out.kept hk (fun hf => HG.out hf))
          clear hc hk ho hyr hir
          go_wp2_with fail
          refine (err_yes _ _ _ HC4.out.c0 HC4.out.c3).mono ?_
          rintro e w5 ⟨rfl, rfl⟩
          go_wp2_with fail
          refine (counted_yes _ _ _ _ _ _ _ rl _ HYC4.out HLC.out).mono ?_
          rintro e w6 ⟨v6, rfl, ⟨vb, rfl, hnb⟩, hk⟩
          have hsix := llc_six cl rl
          have hlr := llc_r cl rl
          generalize hM : llcM cl rl = M at *
          obtain ⟨F, er⟩ := M
          simp only at hnb hsix hlr ⊢
          have HK6 := Lib.hid (HK4.out.then hk)
          have HF46 := Lib.hid (HF44.out.kept hk (fun hf => hf))
          have HYR6 := Lib.hid (HYR.out.kept hk (fun _ _ hf => hf))
          have HNB := Lib.hid hnb
          have HSIX := Lib.hid hsix
          have HLR := Lib.hid hlr
          have HM := Lib.hid hM
          have HS4 := Lib.hid HK4.out.size
          have HL4 := Lib.hid HF44.out.lt
          obtain ⟨vr, hvr⟩ : ∃ v, (if er = 0 then Value.slice Ar rl.length cr else nilv) = v := ⟨_, rfl⟩
          have hvr1 : vr.oneCell' = true := by rw [← hvr]; split <;> rfl
          rw [hvr]
          have HVR := Lib.hid hvr
          have HVR1 := Lib.hid hvr1
          clear hk hnb hsix hlr hM hvr hvr1
          go_wp2_with (refine wpList_st rfl _ _ _ rfl _ 0 rfl (fcs F nilv vb vr) _ rfl rfl (by rw [fcs_len HSIX.out]; exact infF) 57 _ HF46.out (by rw [fcs_len Fr.zero_six, fcs_len HSIX.out]; omega) (fcs_one rfl HNB.out.one HVR1.out) ?_; intro w7 hb7 hk7 hz7)
          have HF47 := Lib.hid (FB.of_all (f' := F) Fr.zero_six HSIX.out hb7)
          refine bodyPost_ret (res_cell1 Try.results77 rfl rfl HF47.out.all Try.underlying57 rfl (by rw [fcs_len HSIX.out]; exact infF)) rfl ?_
          rw [HR.out]
          refine ⟨_, rfl, ⟨vb, vr, rfl, (HNB.out.far hk7 HL4.out).base HS4.out, ?_⟩, HK6.out.fresh hk7 (fun i hi => by cases hi; exact Nat.le_refl _)⟩
          rcases HLR.out with ⟨h0, h1⟩ | ⟨h0, h1⟩
          · rw [h1, ← HVR.out, if_pos h0]
            exact ⟨_, _, _, rfl, HYR6.out.kept hk7 (fun i hi hf => by cases hf; exact Nat.lt_irrefl _ (HIR.out _ hi)), fun i hi => Nat.le_of_lt (HIR.out i hi)⟩
          · rw [h1, ← HVR.out, if_neg h0]
            exact NewB.nil _ _
end Go.Proofs.Ythjfeanmgaidcaa
