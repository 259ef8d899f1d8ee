/- tolllaw10.BpduTells: the walk. -/
import Derived.Test.YtbkjobmjapbmpaaMg18
import Derived.Test.YtbkjobmjapbmpaaMg24
import Derived.Test.YtbkjobmjapbmpaaBrB
import Derived.Test.YtbkjobmjapbmpaaBrD
import Derived.Test.YtbkjobmjapbmpaaMg32
import Derived.Test.YtbkjobmjapbmpaaEthU
namespace Go.Proofs.Ytbkjobmjapbmpaa
open Go.RowKit Go.Sort
set_option linter.unusedVariables false

theorem min100B (n : Nat) : ∃ m : Nat, (if (100 : Int) < (n : Int) then (100 : Int) else (n : Int)) = (m : Int) ∧ min (n : Int) 100 = (m : Int) ∧ m ≤ n ∧ m ≤ 100 := ⟨min 100 n, by split <;> omega, by omega, by omega, by omega⟩
theorem sgn_self (a b : Bp) (ha : a.ok) (hb : b.ok) : sgn (cmpB a b) = cmpB a b := by rw [sgn_cmp a b ha hb, cmp_key a b ha hb]
theorem inf_tg (v : Value) : (Try.prog.info? 29).map (·.size) = some [v].length := by show _ = some 1; kernel_rfl
theorem inf_slB (v : Value) : (Try.prog.info? 31).map (·.size) = some [v].length := by show _ = some 1; kernel_rfl
def tlG (F : Fr) (ub ur : Value) (i : Nat) (v : Value) (u : World) : Prop := True
theorem tlG_kept {F : Fr} {ub ur : Value} (i : Nat) (v : Value) (u u' : World) (h : tlG F ub ur i v u) (k : Kept Nil u u') : tlG F ub ur i v u' := trivial
theorem one_sl (v : Value) (h : v.oneCell' = true) : ∀ u ∈ [v], u.oneCell' = true := by intro u hu; simp at hu; subst hu; exact h
set_option maxRecDepth 100000 in
set_option maxHeartbeats 8000000 in
theorem btells_yes (m n : Bp) (x : FrA) (w : World) (hm : m.ok) (hn : n.ok) (hx : x.In w) : Calls Try.prog 3 #[bpv m, bpv n, frv x.f x.vt x.vb x.vr] w fun e w' => e = .returned (.bool true) ∧ Below w.heap.size w w' := by
  obtain ⟨f, vt, vb, vr⟩ := x
  obtain ⟨hok, ht, ⟨A, kb, c, e, hb⟩, hr⟩ := hx
  simp only at hok ht e hb hr ⊢
  subst e
  have hkc := hb.2.1
  have hcc := hb.2.2.1
  have hM := ((BPB.new w 26 m).kept ((Kept.refl Nil _).alloc (.cells (bpl n).toArray 26)) (fun hf => hf)).kept ((Kept.refl Nil _).alloc (.cells (fcs f vt (.slice A kb c) vr).toArray 33)) (fun hf => hf)
  have hN := (BPB.new (w.alloc (.cells (bpl m).toArray 26)) 26 n).kept ((Kept.refl Nil _).alloc (.cells (fcs f vt (.slice A kb c) vr).toArray 33)) (fun hf => hf)
  have hF := FB.new ((w.alloc (.cells (bpl m).toArray 26)).alloc (.cells (bpl n).toArray 26)) 33 f vt (.slice A kb c) vr
  simp only [World.size_alloc] at hN hF
  obtain ⟨N, hm1, hm2, hN1, hN2⟩ := min100B kb
  have hsl := run_cut_hi (P := Try.prog) Try.underlying31 inf5.1 A kb c N (N : Int) rfl (by omega)
  have HOM := Lib.hid hm
  have HON := Lib.hid hn
  have HOF := Lib.hid hok
  have HS := Lib.hid hok.six
  have HB := Lib.hid (hb.pre (hi := N) hN1)
  have HN2 := Lib.hid hN2
  have HBL := Lib.hid (show ∀ i, Lies A N i → i < w.heap.size from fun i hi => HB.out.lt i hi)
  clear hm hn hok ht hr hb hN2
  go_enter Try.func3, Try.ntmps3
  go_upto_region 1 with (fail)
  refine wp_nameE (fun W => BPB W w.heap.size 26 m ∧ BPB W (w.heap.size + 1) 26 n ∧ FB W (w.heap.size + 1 + 1) 33 f vt (.slice A kb c) vr ∧ Kept Nil w W) ⟨hM, hN, hF, (((Kept.refl Nil w).alloc _).alloc _).alloc _⟩ ?_
  clear hM hN hF
  rintro W ⟨hM, hN, hF, hk⟩
  obtain ⟨g3, hg3⟩ : ∃ y, w.heap.size = y := ⟨_, rfl⟩
  obtain ⟨g4, hg4⟩ : ∃ y, g3 + 1 = y := ⟨_, rfl⟩
  obtain ⟨g5, hg5⟩ : ∃ y, g4 + 1 = y := ⟨_, rfl⟩
  rw [hg3] at hM hN hF ⊢
  rw [hg4] at hN hF ⊢
  rw [hg5] at hF ⊢
  have HM := Lib.hid hM
  have HN := Lib.hid hN
  have HF := Lib.hid hF
  have HK := Lib.hid hk
  have HB := Lib.hid (HB.out.kept hk (fun _ _ hf => hf))
  have HG := Lib.hid (show w.heap.size = g3 ∧ g3 < g5 ∧ g4 < g5 ∧ w.heap.size ≤ g5 ∧ (∀ i, Lies A N i → i < g5) by
    refine ⟨hg3, by omega, by omega, by omega, fun i hi => ?_⟩
    have := HBL.out i hi
    omega)
  have cb := HF.out.cb HS.out
  clear hM hN hF hk hg3 hg4 hg5
  go_upto_region 2 with (first
    | (refine wpList_st rfl 31 (.tmp 18) _ rfl g5 21 rfl [.slice A N c] _ rfl rfl (inf_slB _) 33 _ HF.out (by rw [fcs_len HS.out]; show 21 + 1 ≤ 23; decide) (one_sl _ rfl) ?_; intro W1 hb1 hk1 hz1; simp only [Act.put, List.setIfInBounds_toArray, List.set_cons_succ, List.set_cons_zero])
    | (refine wpList_st rfl 31 (.tmp 19) _ rfl g5 22 rfl [.slice none 0 0] _ rfl rfl (inf_slB _) 33 _ (FB.set_e (.slice A N c) vr HS.out (.inl ⟨rfl, rfl, rfl⟩) hb1) (by rw [fcs_len HS.out]; show 22 + 1 ≤ 23; decide) (one_sl _ rfl) ?_; intro W2 hb2 hk2 hz2; simp only [Act.put, List.setIfInBounds_toArray, List.set_cons_succ, List.set_cons_zero])
    | (refine wpList_st rfl 29 (.tmp 20) _ rfl g5 12 rfl [.slice none 0 0] _ rfl rfl (inf_tg _) 33 _ (FB.set_e (.slice A N c) (.slice none 0 0) HS.out (.inr ⟨rfl, rfl, rfl⟩) hb2) (by rw [fcs_len HS.out]; show 12 + 1 ≤ 23; decide) (one_sl _ rfl) ?_; intro W3 hb3 hk3 hz3; simp only [Act.put, List.setIfInBounds_toArray, List.set_cons_succ, List.set_cons_zero])
    | fail)
  have hF3 := FB.set_m (.slice none 0 0) f.k f.y HS.out (.inl ⟨rfl, rfl, rfl, rfl⟩) hb3
  obtain ⟨F, hFe⟩ : ∃ F : Fr, ({ f with t := [], b := f.b.take N, r := [] } : Fr) = F := ⟨_, rfl⟩
  have hF3 : FB W3 g5 33 F (.slice none 0 0) (.slice A N c) (.slice none 0 0) := by rw [← hFe]; exact hF3
  have h123 := (hk1.same hk2).same hk3
  have HM := Lib.hid (HM.out.kept h123 (fun hf => absurd hf (by have := HG.out; unfold One; omega)))
  have HN := Lib.hid (HN.out.kept h123 (fun hf => absurd hf (by have := HG.out; unfold One; omega)))
  have HB := Lib.hid (HB.out.kept h123 (fun i hi hf => by have := HG.out.2.2.2.2 i hi; cases hf; omega))
  have HK := Lib.hid (HK.out.fresh h123 (fun i hi => by cases hi; exact HG.out.2.2.2.1))
  have HFB := Lib.hid (show F.b = f.b.take N from by rw [← hFe])
  have hFok : F.ok := by rw [← hFe]; exact ⟨HOF.out.d, HOF.out.s, fun t ht => (by cases ht), HOF.out.k, HOF.out.y, HOF.out.l, HOF.out.o⟩
  have HFI := Lib.hid (show FrIn W3 F (.slice none 0 0) (.slice A N c) (.slice none 0 0) from ⟨hFok, ⟨none, 0, 0, rfl, by rw [← hFe]; exact Tags.nil W3⟩, ⟨A, N, c, rfl, by rw [HFB.out]; exact HB.out⟩, ⟨none, 0, 0, rfl, by rw [← hFe]; exact Byt.none _⟩, by rw [← hFe]; simp, by rw [HFB.out, List.length_take]; have := HN2.out; omega, by rw [← hFe]; simp⟩)
  have HFS := Lib.hid hFok.six
  have HF := Lib.hid hF3
  clear hb1 hk1 hz1 hb2 hk2 hz2 hb3 hk3 hz3 hF3 h123 hFok hFe cb hm1 hm2 hsl HB HFB
  go_wp2_with (first | (refine wpList_ld rfl _ _ rfl g3 0 rfl (bpl m) HM.out.all _ Try.underlying26 rfl (infBp _) ?_) | fail)
  refine (put_yes m HOM.out _).mono ?_
  rintro e xw1 ⟨xv1, rfl, hmd⟩
  have HF := Lib.hid (HF.out.kept hmd.2 (fun hf => hf))
  have HFI := Lib.hid (HFI.out.kept hmd.2)
  have HM := Lib.hid (HM.out.kept hmd.2 (fun hf => hf))
  have HN := Lib.hid (HN.out.kept hmd.2 (fun hf => hf))
  have HK := Lib.hid (HK.out.then hmd.2)
  have HPE := Lib.hid (show putB m = ((putB m).1, (putB m).2) from rfl)
  generalize (putB m).1 = PL at *
  generalize (putB m).2 = PE at *
  obtain ⟨PA, pc1, rfl, hy1, -⟩ := byt_own hmd
  have HY1 := Lib.hid hy1
  clear hmd hy1
  dsimp only
  go_wp2_with (first | (refine wpList_ld rfl _ _ rfl g3 0 rfl (bpl m) HM.out.all _ Try.underlying26 rfl (infBp _) ?_) | fail)
  refine (bput_yes m HOM.out _).mono ?_
  rintro e xw2 ⟨xv2, rfl, hmd⟩
  rw [HPE.out] at hmd ⊢
  have HF := Lib.hid (HF.out.kept hmd.2 (fun hf => hf))
  have HFI := Lib.hid (HFI.out.kept hmd.2)
  have HM := Lib.hid (HM.out.kept hmd.2 (fun hf => hf))
  have HN := Lib.hid (HN.out.kept hmd.2 (fun hf => hf))
  have HY1 := Lib.hid (HY1.out.kept hmd.2 (fun _ _ hf => hf))
  have HK := Lib.hid (HK.out.then hmd.2)
  obtain ⟨PB, pc2, rfl, hy2, -⟩ := byt_own hmd
  have HY2 := Lib.hid hy2
  clear hmd hy2
  dsimp only
  go_upto_region 4 with (fail)
  have hsg : ∀ u, Calls Try.prog 13 #[.int .i64 (cmpB m n)] u fun e w' => e = .returned (.int .i64 (cmpB m n)) ∧ Kept Nil u w' := fun u => by have := sign_yes (cmpB m n) u; rwa [sgn_self m n HOM.out HON.out] at this
  have hcm := fun u => compare_yes m n u
  have hrc := fun u => rcmp_yes m n HOM.out HON.out u
  have his := fun vt u => is_yes F HFS.out vt (.slice A N c) (.slice none 0 0) u
  have hri := fun vt u => ris_yes F HFS.out vt (.slice A N c) (.slice none 0 0) u
  have HSG := Lib.hid hsg
  have HCM := Lib.hid hcm
  have HRC := Lib.hid hrc
  have HIS := Lib.hid his
  have HRI := Lib.hid hri
  clear hsg hcm hrc his hri
  generalize cmpB m n = C at *
  generalize isF F = IF at *
  have hgf : ∀ i v u u', (fun (_ : Nat) (_ : Value) (_ : World) => True) i v u → Kept Nil u u' → (fun (_ : Nat) (_ : Value) (_ : World) => True) i v u' := fun _ _ _ _ _ _ => trivial
  refine wp_region_acts Nil [24] (fun i vl => (#[], 0)) (fun i => if i = 13 then .int .i64 C else if i = 14 then .int .i64 C else if i = 17 then .int .i64 C else if i = 22 then .bool IF else if i = 25 then .bool IF else .bool true) (actI (fun _ _ _ => True)) (fun i v => ∃ t1, v = frv F t1 (.slice A N c) (.slice none 0 0)) 32 (by kernel_rfl) (by kernel_rfl) (actI_keeps hgf) actI_nil ?_
  simp only [List.take_succ_cons, List.take_zero, List.drop_succ_cons, List.drop_zero]
  refine tLex_quiets 24 rfl (by kernel_rfl) ?_
  simp only [List.take_succ_cons, List.take_zero, List.drop_succ_cons, List.drop_zero]
  apply Exists.intro
  refine ⟨?hq, ?hv, ?ht⟩
  case hq =>
    intro V hV
    have tx := fun d os => ((HY1.out.kept hV (fun _ _ hf => hf)).kept (kept_grown' V d os) (fun _ _ hf => hf)).text (P := Try.prog) Try.underlying31 Try.underlying5 Try.underlying9
    have ty := fun d os => ((HY2.out.kept hV (fun _ _ hf => hf)).kept (kept_grown' V d os) (fun _ _ hf => hf)).text (P := Try.prog) Try.underlying31 Try.underlying5 Try.underlying9
    go_big_quiet_step (fail)
    go_big_quiet_step (fail)
    go_big_quiet_step (fail)
    go_big_quiet_step (fail)
    go_big_quiet_step (fail)
    go_big_quiet_step (fail)
    go_big_quiet_step (fail)
    go_big_quiet_step (fail)
    go_big_quiet_step (fail)
    go_big_quiet_step (fail)
    go_big_quiet_step (fail)
    refine wpQuiet_ld rfl _ _ rfl g3 0 rfl (bpl m) (fun w' hw => row_grown (((HM.out.kept hV (fun hf => hf)) : BPB V g3 26 m).all) hw) _ Try.underlying26 rfl (infBp _) ?_; simp only [Act.put, List.setIfInBounds_toArray, List.set_cons_succ, List.set_cons_zero]
    refine wpQuiet_ld rfl _ _ rfl g4 0 rfl (bpl n) (fun w' hw => row_grown (((HN.out.kept hV (fun hf => hf)) : BPB V g4 26 n).all) hw) _ Try.underlying26 rfl (infBp _) ?_; simp only [Act.put, List.setIfInBounds_toArray, List.set_cons_succ, List.set_cons_zero]
    go_big_quiet_step (exact quietK (HCM.out _))
    go_big_quiet_step (exact quietK (HSG.out _))
    refine wpQuiet_ld rfl _ _ rfl g3 0 rfl (bpl m) (fun w' hw => row_grown (((HM.out.kept hV (fun hf => hf)) : BPB V g3 26 m).all) hw) _ Try.underlying26 rfl (infBp _) ?_; simp only [Act.put, List.setIfInBounds_toArray, List.set_cons_succ, List.set_cons_zero]
    refine wpQuiet_ld rfl _ _ rfl g4 0 rfl (bpl n) (fun w' hw => row_grown (((HN.out.kept hV (fun hf => hf)) : BPB V g4 26 n).all) hw) _ Try.underlying26 rfl (infBp _) ?_; simp only [Act.put, List.setIfInBounds_toArray, List.set_cons_succ, List.set_cons_zero]
    go_big_quiet_step (exact quietK (HRC.out _))
    go_big_quiet_step (fail)
    go_big_quiet_step (fail)
    go_big_quiet_step (fail)
    refine wpQuiet_ld rfl _ _ rfl g5 0 rfl (fcs F (.slice none 0 0) (.slice A N c) (.slice none 0 0)) (fun w' hw => row_grown ((HF.out.kept hV (fun hf => hf)).all) hw) _ Try.underlying33 rfl (infFr _ _ _ _ HFS.out) ?_; simp only [Act.put, List.setIfInBounds_toArray, List.set_cons_succ, List.set_cons_zero]
    go_big_quiet_step (exact quietK (HIS.out _ _))
    refine wpQuiet_ld rfl _ _ rfl g5 0 rfl (fcs F (.slice none 0 0) (.slice A N c) (.slice none 0 0)) (fun w' hw => row_grown ((HF.out.kept hV (fun hf => hf)).all) hw) _ Try.underlying33 rfl (infFr _ _ _ _ HFS.out) ?_; simp only [Act.put, List.setIfInBounds_toArray, List.set_cons_succ, List.set_cons_zero]
    exact wpQuiet_nil rfl
  case hv => exact ⟨trivial, trivial, trivial, trivial, trivial, trivial, trivial, trivial, trivial, trivial, trivial, trivial, trivial, rfl, rfl, trivial, trivial, rfl, trivial, trivial, trivial, trivial, rfl, trivial, trivial⟩
  case ht =>
    refine tLex_act 18 #[frv F (.slice none 0 0) (.slice A N c) (.slice none 0 0)] (fun u => ?he) rfl rfl (frv F (.slice none 0 0) (.slice A N c) (.slice none 0 0)) ⟨_, rfl⟩ ?hc ?_
    case he => simp [execOp, go_sem]; rfl
    case hc =>
      intro D u hu hI hd
      refine (frOf_yes F (.slice none 0 0) (.slice A N c) (.slice none 0 0) u (HFI.out.kept hu)).mono ?_
      rintro e w' ⟨v, rfl, hnt, hk⟩
      exact ⟨_, rfl, ⟨v, rfl⟩, hu.then hk, actI_snoc hgf hI hk 0 rfl trivial, hk.size, fun k _ h2 => hk.block k h2 (fun hf => hf)⟩
    rintro xv7 ⟨t7, rfl⟩
    simp only [Act.put, List.setIfInBounds_toArray, List.set_cons_succ, List.set_cons_zero]
    refine tLex_quiets 7 rfl (by kernel_rfl) ?_
    simp only [List.take_succ_cons, List.take_zero, List.drop_succ_cons, List.drop_zero]
    apply Exists.intro
    refine ⟨?hq2, ?hv2, ?ht2⟩
    case hq2 =>
      intro V hV
      go_big_quiet_step (exact quietK (HRI.out _ _))
      go_big_quiet_step (fail)
      go_big_quiet_step (fail)
      go_big_quiet_step (fail)
      go_big_quiet_step (exact quietK (rows_yes _))
      repeat (go_big_quiet_step (fail))
      exact wpQuiet_nil rfl
    case hv2 => exact ⟨rfl, trivial, trivial, trivial, rfl, trivial, trivial, trivial⟩
    case ht2 =>
      intro xw9 hs
      have HKZ := Lib.hid (HK.out.then hs.kept)
      clear hs
      go_wp2
      go_ret
      exact ⟨rfl, HKZ.out.below (Nat.le_refl _) (fun _ hf => hf.elim)⟩
end Go.Proofs.Ytbkjobmjapbmpaa
