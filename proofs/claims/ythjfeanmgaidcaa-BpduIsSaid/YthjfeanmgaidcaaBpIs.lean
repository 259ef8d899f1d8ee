/- tolllaw10.BpduIs: the walk. -/
import Derived.Test.YthjfeanmgaidcaaMg29
import Derived.Test.YthjfeanmgaidcaaMg30
import Derived.Test.YthjfeanmgaidcaaEthE
import Derived.Test.YthjfeanmgaidcaaEthI
import Derived.Test.YthjfeanmgaidcaaRegA
import Derived.Test.YthjfeanmgaidcaaMg5
namespace Go.Proofs.Ythjfeanmgaidcaa
open Go.RowKit Go.Sort
set_option linter.unusedVariables false

theorem min100B (n : Nat) : ∃ m : Nat, (if (100 : Int) < (n : Int) then (100 : Int) else (n : Int)) = (m : Int) ∧ min (n : Int) 100 = (m : Int) ∧ m ≤ n ∧ m ≤ 100 := ⟨min 100 n, by split <;> omega, by omega, by omega, by omega⟩
theorem inf_b6I (l : List UInt8) (h : l.length = 6) : (Try.prog.info? 25).map (·.size) = some (bys l).length := by rw [bys_len, h]; kernel_rfl
theorem infIi : (Try.prog.info? 3).map (·.size) = some 1 := by kernel_rfl
theorem infU8 : (Try.prog.info? 5).map (·.size) = some 1 := by kernel_rfl
theorem bd_mac (w : World) : (Instr.build 26 #[(0, .int .u8 1), (1, .int .u8 128), (2, .int .u8 194)]).run Try.prog w = .ok (.agg (bys brd).toArray) w := by kernel_rfl
theorem bd_b3 (w : World) : (Instr.build 55 #[(0, .int .u8 66), (1, .int .u8 66), (2, .int .u8 3)]).run Try.prog w = .ok (.agg (bys lcb).toArray) w := by kernel_rfl
theorem bd_frI (w : World) (a b c d e f : UInt8) (g q : Nat) (A : Option Addr) (n k : Nat) (B : List UInt8) : (Instr.build 57 #[(0, .agg (bys brd).toArray), (1, .agg #[.int .u8 (a.toNat : Int), .int .u8 (b.toNat : Int), .int .u8 (c.toNat : Int), .int .u8 (d.toNat : Int), .int .u8 (e.toNat : Int), .int .u8 (f.toNat : Int)]), (2, .slice (some ⟨g, 0, none⟩) 1 1), (3, .int .i64 2), (5, .agg (bys lcb).toArray), (7, .slice A n k)]).run Try.prog w = .ok (frv (frI [a, b, c, d, e, f] q B) (.slice (some ⟨g, 0, none⟩) 1 1) (.slice A n k) (.slice none 0 0)) w := by kernel_rfl
set_option maxRecDepth 100000 in
set_option maxHeartbeats 8000000 in
theorem bis_yes (s : List UInt8) (A1 : Option Addr) (n1 c1 : Nat) (bh : List UInt8) (q0 a0 : Int) (w : World) (hs : s.length = 6) (hb : Byt w A1 n1 c1 bh) (hq' : (Lit.int .u16 q0).wf = true) (ha' : (Lit.int .u8 a0).wf = true) : Calls Try.prog 5 #[.agg (bys s).toArray, .slice A1 n1 c1, .int .u16 q0, .int .u8 a0] w fun e w' => e = .returned (.bool true) ∧ Below w.heap.size w w' := by
  have hq : 0 ≤ q0 ∧ q0 ≤ 65535 := by simp [Lit.wf, IntKind.min, IntKind.max, IntKind.signed, IntKind.bits] at hq'; omega
  have ha : 0 ≤ a0 ∧ a0 ≤ 255 := by simp [Lit.wf, IntKind.min, IntKind.max, IntKind.signed, IntKind.bits] at ha'; omega
  clear hq' ha'
  obtain ⟨s0, s1, s2, s3, s4, s5, rfl⟩ := six_of s hs
  have hP := Blo.new w 25 (bys [s0, s1, s2, s3, s4, s5]).toArray
  have hk0 := (Kept.refl Nil w).alloc (.cells (bys [s0, s1, s2, s3, s4, s5]).toArray 25)
  have HBH := Lib.hid hb
  have HA0 := Lib.hid ha
  have HQ0 := Lib.hid hq
  clear hb ha hq hs
  go_enter Try.func5, Try.ntmps5
  obtain ⟨hq1, hq2⟩ := HQ0.out
  obtain ⟨Q, hQ, hQ4⟩ : ∃ Q : Nat, q0 % 4096 = (Q : Int) ∧ Q < 4096 := ⟨(q0 % 4096).toNat, by omega, by omega⟩
  have hbc := HBH.out.2.1
  have hbcc := HBH.out.2.2.1
  obtain ⟨N, hm1, hm2, hN1, hN2⟩ := min100B n1
  have hsl := run_cut_hi (P := Try.prog) Try.underlying31 inf5.1 A1 n1 c1 N (N : Int) rfl (by omega)
  go_upto_region 1 with (fail)
  refine wp_nameE (fun W => Blo W w.heap.size 25 (bys [s0, s1, s2, s3, s4, s5]).toArray ∧ Kept Nil w W) ⟨hP, hk0⟩ ?_
  clear hP hk0
  rintro W ⟨hP, hk⟩
  obtain ⟨g4, hg4⟩ : ∃ y, w.heap.size = y := ⟨_, rfl⟩
  rw [hg4] at hP ⊢
  have HP := Lib.hid (show Row W g4 0 (bys [s0, s1, s2, s3, s4, s5]) from Blo.row [] (bys [s0, s1, s2, s3, s4, s5]) [] (by simpa using hP))
  have HPL := Lib.hid (show Blo W g4 25 (bys [s0, s1, s2, s3, s4, s5]).toArray from hP)
  have HK := Lib.hid hk
  have HW0 := Lib.hid (show w.heap.size ≤ W.heap.size from hk.size)
  have HBN := Lib.hid ((HBH.out.kept hk (fun _ _ hf => hf)).pre (hi := N) hN1)
  have HBL := Lib.hid (show (bh.take N).length ≤ 100 by rw [List.length_take]; omega)
  obtain ⟨r, hre⟩ : ∃ r, bh.take N = r := ⟨_, rfl⟩
  rw [hre] at HBN HBL
  have HBLT := Lib.hid (fun i hi => HBN.out.lt i hi)
  have HQ4 := Lib.hid hQ4
  clear hre hN2 HBH hP hk hg4 hQ4
  refine wp_region_acts (fun _ => False) [] (fun i vl => if i = 5 then ((tgc (tgI1 Q)).toArray, 67) else ((fcs Fr.zero (.slice none 0 0) (.slice none 0 0) (.slice none 0 0)).toArray, 57)) (fun i => if i = 4 then tgv (tgI1 Q) else if i = 9 then .int .i64 (n1 : Int) else .int .i64 (N : Int)) (fun _ _ _ => True) (fun i v => True) 14 (by kernel_rfl) (by kernel_rfl) ⟨fun _ _ _ _ _ _ => trivial, fun _ _ _ _ _ => trivial⟩ trivial ?_
  simp only [List.take_succ_cons, List.take_zero, List.drop_succ_cons, List.drop_zero]
  refine tLex_quiets 5 rfl (by kernel_rfl) ?_
  simp only [List.take_succ_cons, List.take_zero, List.drop_succ_cons, List.drop_zero]
  apply Exists.intro
  refine ⟨?hq1, ?hv1, ?ht1⟩
  case hq1 =>
    intro V hV
    refine wpQuiet_bd rfl 26 _ rfl #[(0, .int .u8 1), (1, .int .u8 128), (2, .int .u8 194)] rfl _ (fun w' => bd_mac w') ?_; simp only [Act.put, List.setIfInBounds_toArray, List.set_cons_succ, List.set_cons_zero]
    refine wpQuiet_ld rfl _ _ rfl g4 0 rfl [.int .u8 s0.toNat, .int .u8 s1.toNat, .int .u8 s2.toNat, .int .u8 s3.toNat, .int .u8 s4.toNat, .int .u8 s5.toNat] (fun w' hw => row_grown (HPL.out.kept hV (fun hf => hf) |> fun h => Blo.row [] (bys [s0, s1, s2, s3, s4, s5]) [] (by simpa using h)) hw) _ Try.underlying25 rfl (inf_b6I [s0, s1, s2, s3, s4, s5] rfl) ?_; simp only [Act.put, List.setIfInBounds_toArray, List.set_cons_succ, List.set_cons_zero]
    clear hV
    go_big_quiet_step (fail)
    go_big_quiet_step (fail)
    go_big_quiet_step (exact quietK (plain_yes Q _))
    exact wpQuiet_nil rfl
  case hv1 => exact ⟨trivial, trivial, trivial, trivial, rfl, trivial⟩
  case ht1 =>
  refine tLex_make ((tgc (tgI1 Q)).toArray, 67) rfl rfl rfl rfl (fun u => ?hm1) ?_
  case hm1 => simp [execOp, mkVal, Instr.buildSlice, go_sem]; rfl
  intro gt hgt hLt
  simp only [Act.put, mkVal, List.setIfInBounds_toArray, List.set_cons_succ, List.set_cons_zero]
  refine tLex_quiets 7 rfl (by kernel_rfl) ?_
  simp only [List.take_succ_cons, List.take_zero, List.drop_succ_cons, List.drop_zero]
  apply Exists.intro
  refine ⟨?hq2, ?hv2, ?ht2⟩
  case hq2 =>
    intro V hV
    clear hV
    refine wpQuiet_bd rfl 55 _ rfl #[(0, .int .u8 66), (1, .int .u8 66), (2, .int .u8 3)] rfl _ (fun w' => bd_b3 w') ?_; simp only [Act.put, List.setIfInBounds_toArray, List.set_cons_succ, List.set_cons_zero]
    go_big_quiet_step (fail)
    go_big_quiet_step (fail)
    go_big_quiet_step (fail)
    go_big_quiet_step (fail)
    go_big_quiet_step (fail)
    refine wpQuiet_bd rfl 57 _ rfl #[(0, .agg (bys brd).toArray), (1, .agg #[.int .u8 (s0.toNat : Int), .int .u8 (s1.toNat : Int), .int .u8 (s2.toNat : Int), .int .u8 (s3.toNat : Int), .int .u8 (s4.toNat : Int), .int .u8 (s5.toNat : Int)]), (2, .slice (some ⟨gt, 0, none⟩) 1 1), (3, .int .i64 2), (5, .agg (bys lcb).toArray), (7, .slice A1 N c1)] rfl _ (fun w' => bd_frI w' s0 s1 s2 s3 s4 s5 gt Q A1 N c1 r) ?_; simp only [Act.put, List.setIfInBounds_toArray, List.set_cons_succ, List.set_cons_zero]
    exact wpQuiet_nil rfl
  case hv2 => exact ⟨trivial, trivial, trivial, rfl, rfl, trivial, trivial, trivial⟩
  case ht2 =>
  refine tLex_make ((fcs Fr.zero (.slice none 0 0) (.slice none 0 0) (.slice none 0 0)).toArray, 57) rfl rfl rfl rfl (fun u => ?hm3) ?_
  case hm3 => kernel_rfl
  intro g9 hg9 hL9
  simp only [Act.put, mkVal, List.setIfInBounds_toArray, List.set_cons_succ, List.set_cons_zero]
  intro xw1 hs1
  have h9 := hs1.made g9 _ (mput_same _ _ _)
  have hng : gt ≠ g9 := by
    intro e
    rw [← e, mput_same] at hL9
    cases hL9
  have ht := hs1.made gt _ (by rw [mput_ne _ _ hng]; exact mput_same _ _ _)
  have hk1 : Kept Nil W xw1 := hs1.kept.mono (fun _ _ hf => hf)
  have HNG := Lib.hid hng
  have HT9 := Lib.hid (show FB xw1 g9 57 Fr.zero (.slice none 0 0) (.slice none 0 0) (.slice none 0 0) from h9.2)
  have HTT := Lib.hid (show Blo xw1 gt 67 (tgc (tgI1 Q)).toArray from ht.2)
  have HBN := Lib.hid (HBN.out.kept hk1 (fun _ _ hf => hf))
  have HK := Lib.hid (HK.out.then hk1)
  have HG9 := Lib.hid h9.1
  have HFO := Lib.hid (fri_ok [s0, s1, s2, s3, s4, s5] rfl Q HQ4.out r)
  have HFP := Lib.hid (fri_put [s0, s1, s2, s3, s4, s5] rfl Q HQ4.out r HBL.out)
  have HFG := Lib.hid (fri_get [s0, s1, s2, s3, s4, s5] rfl Q HQ4.out r HBL.out)
  have HIF := Lib.hid (fri_isF [s0, s1, s2, s3, s4, s5] Q r)
  have HIG := Lib.hid (isF_g [s0, s1, s2, s3, s4, s5] Q r)
  have HIH := Lib.hid (isF_h [s0, s1, s2, s3, s4, s5] Q r)
  have HII := Lib.hid (isF_i [s0, s1, s2, s3, s4, s5] Q r)
  have HSG := Lib.hid (fun w g vt vb vr => set_dI (w := w) (g := g) (T := 57) (s := [s0, s1, s2, s3, s4, s5]) (q := Q) (b := r) (vt := vt) (vb := vb) (vr := vr))
  have HSH := Lib.hid (fun w g vt vb vr => set_lI (w := w) (g := g) (T := 57) (s := [s0, s1, s2, s3, s4, s5]) rfl (q := Q) (b := r) (vt := vt) (vb := vb) (vr := vr))
  have HFD := Lib.hid (show (frI [s0, s1, s2, s3, s4, s5] Q r).d = brd from rfl)
  have HFL := Lib.hid (show (frI [s0, s1, s2, s3, s4, s5] Q r).l = lcb from rfl)
  have HFT := Lib.hid (show (frI [s0, s1, s2, s3, s4, s5] Q r).t = [tgI1 Q] from rfl)
  have HFB := Lib.hid (show (frI [s0, s1, s2, s3, s4, s5] Q r).b = r from rfl)
  have HFR := Lib.hid (show (frI [s0, s1, s2, s3, s4, s5] Q r).r = [] from rfl)
  obtain ⟨F, hF⟩ : ∃ F, frI [s0, s1, s2, s3, s4, s5] Q r = F := ⟨_, rfl⟩
  simp only [hF] at HFO HFP HFG HIF HIG HIH HII HSG HSH HFD HFL HFT HFB HFR ⊢
  have HF6 := Lib.hid HFO.out.six
  clear hs1 h9 ht hk1 hL9 hng hg9 hF hgt hLt
  go_upto_region 2 with (first
    | (refine wpList_st rfl 57 (.tmp 9) _ rfl _ 0 rfl (fcs F (.slice (some ⟨gt, 0, none⟩) 1 1) (.slice A1 N c1) (.slice none 0 0)) _ rfl rfl (infFr _ _ _ _ HF6.out) 57 _ HT9.out (by rw [fcs_len HF6.out, fcs_len Fr.zero_six]; decide) (fcs_one rfl rfl rfl) ?_; intro xw2 hb2 hk2 hz2; simp only [Act.put, List.setIfInBounds_toArray, List.set_cons_succ, List.set_cons_zero])
    | fail)
  have H9 := Lib.hid (FB.of_all Fr.zero_six HF6.out hb2)
  have HTT := Lib.hid (HTT.out.kept hk2 (fun hf => HNG.out hf))
  have HK := Lib.hid (HK.out.fresh hk2 (fun i hi => by cases hi; have := HW0.out; have := HG9.out; omega))
  have HBN := Lib.hid (HBN.out.kept hk2 (fun i hi hf => by have := HBLT.out i hi; have := HG9.out; cases hf; omega))
  clear hb2 hk2 hz2 HT9
  have HGA := Lib.hid (fun (g : Nat) (h : xw2.heap.size ≤ g) => (⟨by have := H9.out.lt; omega, by have := HTT.out.lt; omega, by have := HK.out.size; omega, fun i hi => by have := HBN.out.lt i hi; omega⟩ : g9 < g ∧ gt < g ∧ w.heap.size ≤ g ∧ ∀ i, Lies A1 N i → i < g))
  refine wp_region_own3 Nil (fun _ => none) (fun _ => (fcs Fr.zero (.slice none 0 0) (.slice none 0 0) (.slice none 0 0)).toArray) 3 (fun i => undef) (by kernel_rfl) (by kernel_rfl) (by kernel_rfl) ⟨Kept.refl _ _, fun _ _ _ _ h => by cases h⟩ ?_
  apply Exists.intro
  refine And.intro ?hqa ?hta
  case hqa =>
    intro V hV
    dsimp only [List.take]
    iterate 3 (refine wpQuiet_ld rfl _ _ rfl g9 0 rfl (fcs F (.slice (some ⟨gt, 0, none⟩) 1 1) (.slice A1 N c1) (.slice none 0 0)) (fun w1 hw => row_grown (Row.kept H9.out.all hV (fun hf => hf)) hw) _ Try.underlying57 rfl (infFr _ _ _ _ HF6.out) ?_; simp only [Act.put, List.setIfInBounds_toArray, List.set_cons_succ, List.set_cons_zero])
    exact wpQuiet_nil rfl
  case hta =>
  intro vs hvs
  dsimp only [List.drop]
  refine sLex_alloc 57 rfl rfl (fun _ _ => by kernel_rfl) ?_
  intro g10 hg10 hL10
  refine sLex_alloc 57 rfl rfl (fun _ _ => by kernel_rfl) ?_
  intro g11 hg11 hL11
  have hn1 : g11 ≠ g10 := by intro e; simp [upd, e] at hL11
  refine sLex_alloc 57 rfl rfl (fun _ _ => by kernel_rfl) ?_
  intro g12 hg12 hL12
  have hn2 : g12 ≠ g11 := by intro e; simp [upd, e] at hL12
  have hn3 : g12 ≠ g10 := by intro e; simp [upd, e, hn1.symm] at hL12
  refine sLex_store 57 (.tmp 10) (.tmp 30) rfl rfl rfl g10 (fcs Fr.zero (.slice none 0 0) (.slice none 0 0) (.slice none 0 0)).toArray (fcs F (.slice (some ⟨gt, 0, none⟩) 1 1) (.slice A1 N c1) (.slice none 0 0)).toArray (by rfl) (by simp [upd, hn1.symm, hn3.symm]) (by rfl) (by rw [List.size_toArray, List.size_toArray, fcs_len HF6.out, fcs_len Fr.zero_six]) (by rw [List.size_toArray]; exact infFr _ _ _ _ HF6.out) (by simpa using fcs_one rfl rfl rfl) ?_
  refine sLex_store 57 (.tmp 11) (.tmp 31) rfl rfl rfl g11 (fcs Fr.zero (.slice none 0 0) (.slice none 0 0) (.slice none 0 0)).toArray (fcs F (.slice (some ⟨gt, 0, none⟩) 1 1) (.slice A1 N c1) (.slice none 0 0)).toArray (by rfl) (by simp [upd, hn1, hn2.symm]) (by rfl) (by rw [List.size_toArray, List.size_toArray, fcs_len HF6.out, fcs_len Fr.zero_six]) (by rw [List.size_toArray]; exact infFr _ _ _ _ HF6.out) (by simpa using fcs_one rfl rfl rfl) ?_
  refine sLex_store 57 (.tmp 12) (.tmp 32) rfl rfl rfl g12 (fcs Fr.zero (.slice none 0 0) (.slice none 0 0) (.slice none 0 0)).toArray (fcs F (.slice (some ⟨gt, 0, none⟩) 1 1) (.slice A1 N c1) (.slice none 0 0)).toArray (by rfl) (by simp [upd, hn2, hn3]) (by rfl) (by rw [List.size_toArray, List.size_toArray, fcs_len HF6.out, fcs_len Fr.zero_six]) (by rw [List.size_toArray]; exact infFr _ _ _ _ HF6.out) (by simpa using fcs_one rfl rfl rfl) ?_
  simp only [Act.put, List.setIfInBounds_toArray, List.set_cons_succ, List.set_cons_zero]
  intro xw3 hh
  have hq10 : FB xw3 g10 57 F (.slice (some ⟨gt, 0, none⟩) 1 1) (.slice A1 N c1) (.slice none 0 0) := (hh.own g10 true _ 57 (by simp [upd, hn1.symm, hn3.symm])).2
  have hq11 : FB xw3 g11 57 F (.slice (some ⟨gt, 0, none⟩) 1 1) (.slice A1 N c1) (.slice none 0 0) := (hh.own g11 true _ 57 (by simp [upd, hn1, hn2.symm])).2
  have hq12 : FB xw3 g12 57 F (.slice (some ⟨gt, 0, none⟩) 1 1) (.slice A1 N c1) (.slice none 0 0) := (hh.own g12 true _ 57 (by simp [upd, hn2, hn3])).2
  have hk := hh.kept
  have H10 := Lib.hid hq10
  have H11 := Lib.hid hq11
  have H12 := Lib.hid hq12
  have H9 := Lib.hid (H9.out.kept hk (fun hf => hf))
  have HTT := Lib.hid (HTT.out.kept hk (fun hf => hf))
  have HBN := Lib.hid (HBN.out.kept hk (fun _ _ hf => hf))
  have HK := Lib.hid (HK.out.then hk)
  have HN1 := Lib.hid hn1
  have HN2 := Lib.hid hn2
  have HN3 := Lib.hid hn3
  have HA10 := Lib.hid (HGA.out g10 hg10)
  have HA11 := Lib.hid (HGA.out g11 hg11)
  have HA12 := Lib.hid (HGA.out g12 hg12)
  clear HGA
  clear hh hq10 hq11 hq12 hk hn1 hn2 hn3 hL10 hL11 hL12 hvs hg10 hg11 hg12
  obtain ⟨ha1, ha2⟩ := HA0.out
  obtain ⟨K, hK, hK6⟩ : ∃ K : Nat, a0 % 6 = (K : Int) ∧ K < 6 := ⟨(a0 % 6).toNat, by omega, by omega⟩
  obtain ⟨J, hJ, hJ3⟩ : ∃ J : Nat, a0 % 3 = (J : Int) ∧ J < 3 := ⟨(a0 % 3).toNat, by omega, by omega⟩
  obtain ⟨X, hX, hX0⟩ : ∃ X : UInt8, 1 + a0 / 6 = (X.toNat : Int) ∧ X ≠ 0 := by
    refine ⟨UInt8.ofNat (1 + a0 / 6).toNat, ?_, ?_⟩
    · rw [UInt8.toNat_ofNat']
      omega
    · intro e
      have := congrArg UInt8.toNat e
      rw [UInt8.toNat_ofNat', UInt8.toNat_zero] at this
      omega
  obtain ⟨db, hdb⟩ : ∃ d, brd.getD K 0 = d := ⟨_, rfl⟩
  obtain ⟨lb, hlb⟩ : ∃ d, lcb.getD J 0 = d := ⟨_, rfl⟩
  obtain ⟨Y, hY⟩ : ∃ d, db ^^^ X = d := ⟨_, rfl⟩
  obtain ⟨Z, hZ⟩ : ∃ d, lb ^^^ X = d := ⟨_, rfl⟩
  have hxv := xor_8i db X
  have hxw := xor_8i lb X
  rw [hY] at hxv
  rw [hZ] at hxw
  have hcell : xw3.cell? ⟨g10, K, none⟩ = some (.int .u8 (db.toNat : Int)) := by
    have := H10.out.rd
    rw [HFD.out] at this
    have h := this K (.int .u8 ((brd.getD K 0).toNat : Int)) (by
      match K, hK6 with
      | 0, _ => rfl
      | 1, _ => rfl
      | 2, _ => rfl
      | 3, _ => rfl
      | 4, _ => rfl
      | 5, _ => rfl)
    rwa [Nat.zero_add, hdb] at h
  have HXV := Lib.hid (And.intro hxv hxw)
  have HDB := Lib.hid (And.intro hdb hlb)
  have HYZ := Lib.hid (And.intro hY hZ)
  have HK6 := Lib.hid hK6
  have HJ3 := Lib.hid hJ3
  have HJJ := Lib.hid hJ
  have HX0 := Lib.hid hX0
  have hK6' : (K : Int) < 6 := by omega
  clear hX0 hxw hdb hlb hY hZ hJ hJ3
  go_upto_region 4 with (first
    | (refine wpList_st rfl 5 (.tmp 43) _ rfl g10 K rfl [.int .u8 (Y.toNat : Int)] _ rfl rfl infU8 57 _ H10.out (by rw [fcs_len HF6.out]; have := HK6.out; show K + 1 ≤ 23; omega) (by intro u hu; obtain rfl := List.mem_singleton.1 hu; rfl) ?_; intro xw4 hb hk hz; simp only [Act.put, List.setIfInBounds_toArray, List.set_cons_succ, List.set_cons_zero])
    | fail)
  have hb' := HSG.out xw4 g10 _ _ _ K HK6.out X (by rw [HDB.out.1, HYZ.out.1]; exact hb)
  have H10 := Lib.hid hb'
  have H11 := Lib.hid (H11.out.kept hk (fun hf => HN1.out hf))
  have hcel2 : xw4.cell? ⟨g11, 15 + J, none⟩ = some (.int .u8 (lb.toNat : Int)) := by
    have := H11.out.rl HF6.out
    rw [HFL.out] at this
    have h := this J (.int .u8 ((lcb.getD J 0).toNat : Int)) (by
      match J, HJ3.out with
      | 0, _ => rfl
      | 1, _ => rfl
      | 2, _ => rfl)
    rwa [HDB.out.2] at h
  have H12 := Lib.hid (H12.out.kept hk (fun hf => HN3.out hf))
  have H9 := Lib.hid (H9.out.kept hk (fun hf => by have h1 := HA10.out.1; cases hf; omega))
  have HTT := Lib.hid (HTT.out.kept hk (fun hf => by have h1 := HA10.out.2.1; cases hf; omega))
  have HBN := Lib.hid (HBN.out.kept hk (fun i hi hf => by have h1 := HA10.out.2.2.2 i hi; cases hf; omega))
  have HK := Lib.hid (HK.out.fresh hk (fun i hi => by have h1 := HA10.out.2.2.1; cases hi; exact h1))
  clear hb hb' hk hz hcell hxv hK hK6'
  obtain ⟨hJ, hJ3', hxw⟩ : a0 % 3 = (J : Int) ∧ (J : Int) < 3 ∧ bits .xor .u8 (lb.toNat : Int) (X.toNat : Int) = (Z.toNat : Int) := ⟨HJJ.out, by have := HJ3.out; omega, HXV.out.2⟩
  go_upto_region 5 with (first
    | (refine wpList_st rfl 5 (.tmp 54) _ rfl g11 (15 + J) rfl [.int .u8 (Z.toNat : Int)] _ rfl rfl infU8 57 _ H11.out (by rw [fcs_len HF6.out]; have := HJ3.out; show 15 + J + 1 ≤ 23; omega) (by intro u hu; obtain rfl := List.mem_singleton.1 hu; rfl) ?_; intro xw5 hb hk hz; simp only [Act.put, List.setIfInBounds_toArray, List.set_cons_succ, List.set_cons_zero])
    | fail)
  have hb' := HSH.out xw5 g11 _ _ _ J HJ3.out X (by rw [HDB.out.2, HYZ.out.2]; exact hb)
  have H11 := Lib.hid hb'
  have H10 := Lib.hid (H10.out.kept hk (fun hf => HN1.out hf.symm))
  have H12 := Lib.hid (H12.out.kept hk (fun hf => HN2.out hf))
  have H9 := Lib.hid (H9.out.kept hk (fun hf => by have h1 := HA11.out.1; cases hf; omega))
  have HTT := Lib.hid (HTT.out.kept hk (fun hf => by have h1 := HA11.out.2.1; cases hf; omega))
  have HBN := Lib.hid (HBN.out.kept hk (fun i hi hf => by have h1 := HA11.out.2.2.2 i hi; cases hf; omega))
  have HK := Lib.hid (HK.out.fresh hk (fun i hi => by have h1 := HA11.out.2.2.1; cases hi; exact h1))
  clear hb hb' hk hz hcel2 hxw hJ hJ3' hX HDB HYZ HXV
  go_upto_region 6 with (first
    | (refine wpList_st rfl 3 (.tmp 55) _ rfl g12 13 rfl [.int .i64 1] _ rfl rfl infIi 57 _ H12.out (by rw [fcs_len HF6.out]; decide) (by intro u hu; obtain rfl := List.mem_singleton.1 hu; rfl) ?_; intro xw6 hb hk hz; have H12b := Lib.hid (FB.set_m _ 1 F.y HF6.out (.inr (.inl ⟨rfl, rfl, rfl, rfl⟩)) hb); simp only [Act.put, List.setIfInBounds_toArray, List.set_cons_succ, List.set_cons_zero])
    | (refine wpList_st rfl 3 (.tmp 56) _ rfl g12 14 rfl [.int .i64 2048] _ rfl rfl infIi 57 _ H12b.out (by rw [fcs_len (f := { F with k := 1, y := F.y }) ⟨HF6.out.d, HF6.out.s, HF6.out.l, HF6.out.o⟩]; decide) (by intro u hu; obtain rfl := List.mem_singleton.1 hu; rfl) ?_; intro xw7 hb7 hk7 hz7; simp only [Act.put, List.setIfInBounds_toArray, List.set_cons_succ, List.set_cons_zero])
    | fail)
  have h12 := FB.set_m (f := { F with k := 1, y := F.y }) _ 1 2048 ⟨HF6.out.d, HF6.out.s, HF6.out.l, HF6.out.o⟩ (.inr (.inr ⟨rfl, rfl, rfl, rfl⟩)) hb7
  have H12 := Lib.hid (show FB xw7 g12 57 { F with k := 1, y := 2048 } _ _ _ from h12)
  have hk := hk.trans hk7 (fun i _ hi => hi)
  have H10 := Lib.hid (H10.out.kept hk (fun hf => HN3.out hf.symm))
  have H11 := Lib.hid (H11.out.kept hk (fun hf => HN2.out hf.symm))
  have H9 := Lib.hid (H9.out.kept hk (fun hf => by have h1 := HA12.out.1; cases hf; omega))
  have HTT := Lib.hid (HTT.out.kept hk (fun hf => by have h1 := HA12.out.2.1; cases hf; omega))
  have HBN := Lib.hid (HBN.out.kept hk (fun i hi hf => by have h1 := HA12.out.2.2.2 i hi; cases hf; omega))
  have HK := Lib.hid (HK.out.fresh hk (fun i hi => by have h1 := HA12.out.2.2.1; cases hi; exact h1))
  clear hb hk hz hb7 hk7 hz7 h12 H12b HA10 HA11 HA12 HN1 HN2 HN3
  have HFI := Lib.hid (show FrIn xw7 F (.slice (some ⟨gt, 0, none⟩) 1 1) (.slice A1 N c1) (.slice none 0 0) from ⟨HFO.out, ⟨_, 1, 1, rfl, by rw [HFT.out]; exact ⟨rws_blo [tgc (tgI1 Q)] (by simp [tgc]) (by show 1 ≤ 9223372036854775807; decide) HTT.out (by simp) 1 rfl, fun t ht => HFO.out.t t (by rw [HFT.out]; exact ht)⟩⟩, ⟨A1, N, c1, rfl, by rw [HFB.out]; exact HBN.out⟩, ⟨none, 0, 0, rfl, by rw [HFR.out]; exact ⟨rfl, Nat.le_refl _, by decide, fun h => absurd h (Nat.lt_irrefl _)⟩⟩, by rw [HFT.out]; show 1 ≤ 1000; decide, by rw [HFB.out]; have := HBL.out; omega, by rw [HFR.out]; exact Nat.zero_le _⟩)
  clear HTT HBN
  go_wp2_with (first
    | (refine wpList_ld rfl _ _ rfl g9 0 rfl (fcs F (.slice (some ⟨gt, 0, none⟩) 1 1) (.slice A1 N c1) (.slice none 0 0)) H9.out.all _ Try.underlying57 rfl (infFr _ _ _ _ HF6.out) ?_; simp only [Act.put, List.setIfInBounds_toArray, List.set_cons_succ, List.set_cons_zero])
    | fail)
  refine (put_yes F _ _ _ xw7 HFI.out).mono ?_
  rintro e xw8 ⟨xv8, rfl, hmd⟩
  rw [HFP.out.1]
  have H9 := Lib.hid (H9.out.kept hmd.2 (fun hf => hf))
  have H10 := Lib.hid (H10.out.kept hmd.2 (fun hf => hf))
  have H11 := Lib.hid (H11.out.kept hmd.2 (fun hf => hf))
  have H12 := Lib.hid (H12.out.kept hmd.2 (fun hf => hf))
  have HK := Lib.hid (HK.out.then hmd.2)
  obtain ⟨XA, xc, rfl, hy, -⟩ := byt_own hmd
  have HXY := Lib.hid hy
  have HXL := Lib.hid HFP.out.2
  have HXG := Lib.hid HFG.out
  clear hmd hy HFP HFG HFI
  obtain ⟨XX, hXX⟩ : ∃ x, (putM F).1 = x := ⟨_, rfl⟩
  rw [hXX] at HXY HXL HXG ⊢
  clear hXX
  dsimp only
  go_upto_region 7 with (fail)
  go_wp2_with (fail)
  refine (eget_yes XA XX.length xc XX _ HXY.out (by have := HXL.out; omega)).mono ?_
  rintro e xw9 ⟨yt, yb, yr, rfl, hnf, hk⟩
  rw [HXG.out.1] at hnf ⊢
  rw [HXG.out.2]
  have HNF := Lib.hid hnf
  have H9 := Lib.hid (H9.out.kept hk (fun hf => hf))
  have H10 := Lib.hid (H10.out.kept hk (fun hf => hf))
  have H11 := Lib.hid (H11.out.kept hk (fun hf => hf))
  have H12 := Lib.hid (H12.out.kept hk (fun hf => hf))
  have HK := Lib.hid (HK.out.then hk)
  clear hnf hk HXY HXL HXG
  have hT := FB.new xw9 57 Fr.zero (.slice none 0 0) (.slice none 0 0) (.slice none 0 0)
  dsimp only
  go_upto_region 8 with (first
    | (refine wpList_st rfl 57 (.tmp 15) _ rfl _ 0 rfl (fcs F yt yb yr) _ rfl rfl (infFr _ _ _ _ HF6.out) 57 _ hT (by rw [fcs_len HF6.out, fcs_len Fr.zero_six]; decide) HNF.out.ones ?_; intro xw10 hb hk hz; simp only [Act.put, List.setIfInBounds_toArray, List.set_cons_succ, List.set_cons_zero])
    | fail)
  have hk := ((Kept.refl Nil xw9).alloc (.cells (fcs Fr.zero (.slice none 0 0) (.slice none 0 0) (.slice none 0 0)).toArray 57)).fresh hk (fun i hi => by cases hi; exact Nat.le_refl _)
  have H15 := Lib.hid (FB.of_all Fr.zero_six HF6.out hb)
  have H9 := Lib.hid (H9.out.kept hk (fun hf => hf))
  have H10 := Lib.hid (H10.out.kept hk (fun hf => hf))
  have H11 := Lib.hid (H11.out.kept hk (fun hf => hf))
  have H12 := Lib.hid (H12.out.kept hk (fun hf => hf))
  have HK := Lib.hid (HK.out.then hk)
  obtain ⟨g15, hg15⟩ : ∃ x, xw9.heap.size = x := ⟨_, rfl⟩
  rw [hg15] at H15 ⊢
  clear hb hk hz hT hg15 HNF
  have HX10 := Lib.hid (show Fr.six { F with d := dI K X } from ⟨dI_len K X, HF6.out.s, HF6.out.l, HF6.out.o⟩)
  have HX11 := Lib.hid (show Fr.six { F with l := lI J X } from ⟨HF6.out.d, HF6.out.s, lI_len J X, HF6.out.o⟩)
  have HX12 := Lib.hid (show Fr.six { F with k := 1, y := 2048 } from ⟨HF6.out.d, HF6.out.s, HF6.out.l, HF6.out.o⟩)
  have HIF2 := Lib.hid HIF.out
  go_wp2_with (first
    | (refine wpList_ld rfl _ _ rfl g9 0 rfl (fcs F (.slice (some ⟨gt, 0, none⟩) 1 1) (.slice A1 N c1) (.slice none 0 0)) H9.out.all _ Try.underlying57 rfl (infFr _ _ _ _ HF6.out) ?_; simp only [Act.put, List.setIfInBounds_toArray, List.set_cons_succ, List.set_cons_zero])
    | fail)
  refine (is_yes _ HF6.out _ _ _ _).mono ?_
  rintro e xw11 ⟨rfl, hk⟩
  rw [HIF.out]
  have H10 := Lib.hid (H10.out.kept hk (fun hf => hf))
  have H11 := Lib.hid (H11.out.kept hk (fun hf => hf))
  have H12 := Lib.hid (H12.out.kept hk (fun hf => hf))
  have H15 := Lib.hid (H15.out.kept hk (fun hf => hf))
  have HK := Lib.hid (HK.out.then hk)
  clear hk
  dsimp only
  go_wp2_with (first
    | (refine wpList_ld rfl _ _ rfl g10 0 rfl (fcs { F with d := dI K X } (.slice (some ⟨gt, 0, none⟩) 1 1) (.slice A1 N c1) (.slice none 0 0)) H10.out.all _ Try.underlying57 rfl (infFr _ _ _ _ HX10.out) ?_; simp only [Act.put, List.setIfInBounds_toArray, List.set_cons_succ, List.set_cons_zero])
    | fail)
  refine (is_yes _ HX10.out _ _ _ _).mono ?_
  rintro e xw12 ⟨rfl, hk⟩
  rw [HIG.out K HK6.out X HX0.out]
  have H11 := Lib.hid (H11.out.kept hk (fun hf => hf))
  have H12 := Lib.hid (H12.out.kept hk (fun hf => hf))
  have H15 := Lib.hid (H15.out.kept hk (fun hf => hf))
  have HK := Lib.hid (HK.out.then hk)
  clear hk
  dsimp only
  go_wp2_with (first
    | (refine wpList_ld rfl _ _ rfl g11 0 rfl (fcs { F with l := lI J X } (.slice (some ⟨gt, 0, none⟩) 1 1) (.slice A1 N c1) (.slice none 0 0)) H11.out.all _ Try.underlying57 rfl (infFr _ _ _ _ HX11.out) ?_; simp only [Act.put, List.setIfInBounds_toArray, List.set_cons_succ, List.set_cons_zero])
    | fail)
  refine (is_yes _ HX11.out _ _ _ _).mono ?_
  rintro e xw13 ⟨rfl, hk⟩
  rw [HIH.out J HJ3.out X HX0.out]
  have H12 := Lib.hid (H12.out.kept hk (fun hf => hf))
  have H15 := Lib.hid (H15.out.kept hk (fun hf => hf))
  have HK := Lib.hid (HK.out.then hk)
  clear hk
  dsimp only
  go_wp2_with (first
    | (refine wpList_ld rfl _ _ rfl g12 0 rfl (fcs { F with k := 1, y := 2048 } (.slice (some ⟨gt, 0, none⟩) 1 1) (.slice A1 N c1) (.slice none 0 0)) H12.out.all _ Try.underlying57 rfl (infFr _ _ _ _ HX12.out) ?_; simp only [Act.put, List.setIfInBounds_toArray, List.set_cons_succ, List.set_cons_zero])
    | fail)
  refine (is_yes _ HX12.out _ _ _ _).mono ?_
  rintro e xw14 ⟨rfl, hk⟩
  rw [HII.out]
  have H15 := Lib.hid (H15.out.kept hk (fun hf => hf))
  have HK := Lib.hid (HK.out.then hk)
  clear hk
  dsimp only
  go_wp2_with (first
    | (refine wpList_ld rfl _ _ rfl g15 0 rfl (fcs F yt yb yr) H15.out.all _ Try.underlying57 rfl (infFr _ _ _ _ HF6.out) ?_; simp only [Act.put, List.setIfInBounds_toArray, List.set_cons_succ, List.set_cons_zero])
    | fail)
  refine (is_yes _ HF6.out _ _ _ _).mono ?_
  rintro e xw15 ⟨rfl, hk⟩
  rw [HIF2.out]
  have HK := Lib.hid (HK.out.then hk)
  clear hk
  dsimp only
  go_wp2_with (fail)
  refine (rows_yes _).mono ?_
  rintro e xw16 ⟨rfl, hk⟩
  have HK := Lib.hid (HK.out.then hk)
  clear hk
  dsimp only
  go_wp2_with (fail)
  go_ret
  exact ⟨rfl, HK.out.below (Nat.le_refl _) (fun _ hf => hf.elim)⟩
end Go.Proofs.Ythjfeanmgaidcaa
