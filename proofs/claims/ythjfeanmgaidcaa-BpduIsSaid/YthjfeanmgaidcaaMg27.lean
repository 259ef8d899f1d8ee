/- Texts that belong together, one behind the other: Bd, BpP. Conditions: those of each. -/
import Derived.Test.YthjfeanmgaidcaaMg1
import Derived.Test.YthjfeanmgaidcaaMg26
import Derived.Test.YthjfeanmgaidcaaBpE
/- A struct built in a region that only reads. Nothing of the program is named here. -/
namespace Go.Proofs.Ythjfeanmgaidcaa
open Go.RowKit Go.Sort
set_option linter.unusedVariables false

theorem wpQuiet_bd {P : Program} {ops : Array Oper} {C : World → Prop} {Q : Act → Prop} {o : Oper} {rest : List Oper} {a : Act} (hgd : Region.wanted o (yielded ops a.tmps) = true) (ty : TypeId) (ps : Array (Nat × Operand)) (ho : o.op = .build ty ps) (xs : Array (Nat × Value)) (hxs : (ps.toList.map fun x => (x.1, a.eval x.2)) = xs.toList) (v : Value)
    (hv : ∀ w, (Instr.build ty xs).run P w = .ok v w) (h : wpQuiet P ops C Q rest (a.put o.dst v)) : wpQuiet P ops C Q (o :: rest) a := by
  have e : (ps.map fun x => (x.1, a.eval x.2)) = xs := Array.toList_inj.1 (by rw [Array.toList_map]; exact hxs)
  unfold wpQuiet
  rw [if_pos hgd]
  refine ⟨v, fun w hw => ?_, h⟩
  unfold Oper.quietAt execOp
  simp only [ho, e, Sem.run_bind, Sem.run_pure, hv, Result.andThen_ok]
  exact ⟨rfl, rfl⟩
end Go.Proofs.Ythjfeanmgaidcaa
/- Package bpdu: Frame. -/
namespace Go.Proofs.Ythjfeanmgaidcaa
open Go.RowKit Go.Sort
set_option linter.unusedVariables false

def frmB (s : List UInt8) (m : Bp) : Fr := if (putB m).2 = 0 then ⟨brd, s, [], 2, 0, lcb, z3, (putB m).1, []⟩ else Fr.zero
theorem al_fr (u : World) : (Instr.alloc 57 true (.tuple #[])).run Try.prog u = .ok (.pointer (some ⟨u.heap.size, 0, none⟩)) (u.alloc (.cells (fcs Fr.zero (.slice none 0 0) (.slice none 0 0) (.slice none 0 0)).toArray 57)) := by kernel_rfl
theorem bd_fr (w : World) (a b c d e f : UInt8) (A : Option Addr) (n k : Nat) (B : List UInt8) : (Instr.build 57 #[(0, .agg (bys brd).toArray), (1, .agg #[.int .u8 (a.toNat : Int), .int .u8 (b.toNat : Int), .int .u8 (c.toNat : Int), .int .u8 (d.toNat : Int), .int .u8 (e.toNat : Int), .int .u8 (f.toNat : Int)]), (3, .int .i64 2), (5, .agg (bys lcb).toArray), (7, .slice A n k)]).run Try.prog w = .ok (frv ⟨brd, [a, b, c, d, e, f], [], 2, 0, lcb, z3, B, []⟩ (.slice none 0 0) (.slice A n k) (.slice none 0 0)) w := by kernel_rfl
set_option maxRecDepth 100000 in
set_option maxHeartbeats 4000000 in
theorem frame_yes (s : List UInt8) (hs : s.length = 6) (m : Bp) (hm : m.ok) (w : World) : Calls Try.prog 14 #[.agg (bys s).toArray, bpv m] w fun e w' => ∃ vb, e = .returned (.tuple #[frv (frmB s m) (.slice none 0 0) vb (.slice none 0 0), .int .i64 (putB m).2]) ∧ Made w w' vb (putB m).1 := by
  obtain ⟨s0, s1, s2, s3, s4, s5, rfl⟩ := six_of s hs
  have hA := Blo.new w 26 (bys [s0, s1, s2, s3, s4, s5]).toArray
  have hB := BPB.new (w.alloc (.cells (bys [s0, s1, s2, s3, s4, s5]).toArray 26)) 52 m
  have hC := FB.new ((w.alloc (.cells (bys [s0, s1, s2, s3, s4, s5]).toArray 26)).alloc (.cells (bpl m).toArray 52)) 57 Fr.zero (.slice none 0 0) (.slice none 0 0) (.slice none 0 0)
  simp only [World.size_alloc] at hB hC
  have HOK := Lib.hid hm
  clear hm hs
  go_enter Try.func14, Try.ntmps14
  go_upto_region 1 with (fail)
  refine wp_nameE (fun W => Blo W w.heap.size 26 (bys [s0, s1, s2, s3, s4, s5]).toArray ∧ BPB W (w.heap.size + 1) 52 m ∧ FB W (w.heap.size + 1 + 1) 57 Fr.zero (.slice none 0 0) (.slice none 0 0) (.slice none 0 0) ∧ Kept Nil w W) ⟨(hA.kept ((Kept.refl Nil _).alloc _) (fun hf => hf)).kept ((Kept.refl Nil _).alloc _) (fun hf => hf), hB.kept ((Kept.refl Nil _).alloc _) (fun hf => hf), hC, (((Kept.refl Nil w).alloc _).alloc _).alloc _⟩ ?_
  clear hA hB hC
  rintro W ⟨hA, hB, hC, hk⟩
  obtain ⟨g2, hg2⟩ : ∃ y, w.heap.size = y := ⟨_, rfl⟩
  obtain ⟨g3, hg3⟩ : ∃ y, g2 + 1 = y := ⟨_, rfl⟩
  obtain ⟨g4, hg4⟩ : ∃ y, g3 + 1 = y := ⟨_, rfl⟩
  rw [hg2] at hA hB hC ⊢
  rw [hg3] at hB hC ⊢
  rw [hg4] at hC ⊢
  have HA := Lib.hid (Blo.row [] (bys [s0, s1, s2, s3, s4, s5]) [] (by simpa using hA))
  have HB := Lib.hid hB
  have HC := Lib.hid hC
  have HK := Lib.hid hk
  have HG := Lib.hid (show w.heap.size ≤ g4 by omega)
  have HCL := Lib.hid (show g4 < W.heap.size from hC.lt)
  clear hA hB hC hk hg2 hg3 hg4
  go_wp2_with (first | (refine wpList_ld rfl _ _ rfl g3 0 rfl (bpl m) HB.out.all _ Try.underlying52 rfl (infBp _) ?_) | fail)
  refine (bpput_yes m HOK.out _).mono ?_
  rintro e xw1 ⟨xv1, rfl, hmd⟩
  have HF := Lib.hid (show frmB [s0, s1, s2, s3, s4, s5] m = if (putB m).2 = 0 then ⟨brd, [s0, s1, s2, s3, s4, s5], [], 2, 0, lcb, z3, (putB m).1, []⟩ else Fr.zero from rfl)
  have HE := Lib.hid (show (putB m).2 ≠ 0 → (putB m).1 = [] from by unfold putB; split; simp; simp)
  have HPE := Lib.hid (show putB m = ((putB m).1, (putB m).2) from rfl)
  generalize (putB m).1 = PL at *
  generalize (putB m).2 = PE at *
  obtain ⟨A1, c1, rfl, hy1, -⟩ := byt_own hmd
  have HMD := Lib.hid hmd
  have HA := Lib.hid (HA.out.kept hmd.2 (fun hf => hf))
  have HC := Lib.hid (HC.out.kept hmd.2 (fun hf => hf))
  clear hy1 hmd HB
  dsimp only
  by_cases h0 : PE = 0
  · subst h0
    rw [if_pos rfl] at HF
    go_upto_region 4 with (fail)
    refine wp_region_tail 5 (by kernel_rfl) (by kernel_rfl) ?_
    simp only [List.take_succ_cons, List.take_zero, List.drop_succ_cons, List.drop_zero]
    go_big_quiet_step (exact quietK (bridges_yes _))
    refine wpQuiet_ld rfl _ _ rfl g2 0 rfl [.int .u8 s0.toNat, .int .u8 s1.toNat, .int .u8 s2.toNat, .int .u8 s3.toNat, .int .u8 s4.toNat, .int .u8 s5.toNat] (fun w' hw => row_grown HA.out hw) _ Try.underlying26 rfl infA6 ?_; simp only [Act.put, List.setIfInBounds_toArray, List.set_cons_succ, List.set_cons_zero]
    go_big_quiet_step (exact quietK (llc_yes _))
    go_big_quiet_step (fail)
    refine wpQuiet_bd rfl 57 _ rfl #[(0, .agg (bys brd).toArray), (1, .agg #[.int .u8 (s0.toNat : Int), .int .u8 (s1.toNat : Int), .int .u8 (s2.toNat : Int), .int .u8 (s3.toNat : Int), .int .u8 (s4.toNat : Int), .int .u8 (s5.toNat : Int)]), (3, .int .i64 2), (5, .agg (bys lcb).toArray), (7, .slice A1 PL.length c1)] rfl _ (fun w' => bd_fr w' s0 s1 s2 s3 s4 s5 A1 PL.length c1 PL) ?_; simp only [Act.put, List.setIfInBounds_toArray, List.set_cons_succ, List.set_cons_zero]
    refine wpQuiet_nil ?_
    rintro u ⟨nq, hw⟩
    have hku : Kept Nil xw1 u := by rw [hw]; exact kept_grown _ _
    have HC := Lib.hid (HC.out.kept hku (fun hf => hf))
    have HKU := Lib.hid hku
    have h6 : (⟨brd, [s0, s1, s2, s3, s4, s5], [], 2, 0, lcb, z3, PL, []⟩ : Fr).six := ⟨rfl, rfl, rfl, rfl⟩
    clear hw hku HA
    go_wp2_with (first
      | (refine wpList_st rfl 57 (.tmp 4) _ rfl _ 0 rfl (fcs ⟨brd, [s0, s1, s2, s3, s4, s5], [], 2, 0, lcb, z3, PL, []⟩ (.slice none 0 0) (.slice A1 PL.length c1) (.slice none 0 0)) _ rfl rfl (infFr _ _ _ _ h6) 57 _ HC.out (by rw [fcs_len h6, fcs_len Fr.zero_six]; decide) (fcs_one rfl rfl rfl) ?_; intro xw2 hb2 hk2 hz2)
      | fail)
    have h2 := FB.of_all Fr.zero_six h6 hb2
    refine bodyPost_ret (res_cell1 Try.results14 rfl rfl h2.all Try.underlying57 rfl (infFr _ _ _ _ h6)) rfl ⟨.slice A1 PL.length c1, by rw [HF.out, HPE.out]; rfl, ?_⟩
    rw [HPE.out]
    have hkf := (HK.out.then (HMD.out.2.then HKU.out)).fresh hk2 (fun i hi => by cases hi; exact HG.out)
    refine ⟨own_mono (own_kept (own_kept HMD.out.1 HKU.out (fun _ _ hf => hf)) hk2 (fun k hk hf => ?_)) HK.out.size, hkf⟩
    have h1 := (HMD.out.1.lt k hk).1
    have h2 := HCL.out
    cases hf
    omega
  · have b0 : (PE != 0) = true := by simp [h0]
    rw [if_neg h0] at HF
    have hnil := HE.out h0
    subst hnil
    clear h0
    go_wp2_with (first
      | (refine wpList_st rfl 57 (.tmp 4) _ rfl _ 0 rfl (fcs Fr.zero (.slice none 0 0) (.slice none 0 0) (.slice none 0 0)) _ rfl rfl (infFr _ _ _ _ Fr.zero_six) 57 _ HC.out (by rw [fcs_len Fr.zero_six]; decide) (fcs_one rfl rfl rfl) ?_; intro xw2 hb2 hk2 hz2)
      | fail)
    have h2 := FB.of_all Fr.zero_six Fr.zero_six hb2
    refine bodyPost_ret (res_cell1 Try.results14 rfl rfl h2.all Try.underlying57 rfl (infFr _ _ _ _ Fr.zero_six)) rfl ⟨.slice none 0 0, by rw [HF.out, HPE.out]; rfl, ?_⟩
    rw [HPE.out]
    refine ⟨World.ownsRow_nil _ _ _ _, ?_⟩
    exact (HK.out.then HMD.out.2).fresh hk2 (fun i hi => by cases hi; exact HG.out)
end Go.Proofs.Ythjfeanmgaidcaa
