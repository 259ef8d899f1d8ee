/- Package inet: contracts of Get and Cut. -/
import Derived.Test.YtkpelaojjfcpfaaInR
import Derived.Lib.Strings
import Derived.Lib.Walk
import Derived.Lib.ConvBytes
import Derived.Laws.Strings3
import Derived.BigCall
import Derived.WalkSpells
import Derived.WalkLawsBesides
import Derived.Deep.QuietTactic
import Derived.BigQuiet
import Derived.BigRegion
namespace Go.Proofs.Ytkpelaojjfcpfaa
open Go.RowKit Go.Sort
set_option linter.unusedVariables false

/-- What a copy of bytes keeps up. -/
def cloY (n0 : Nat) (l : List UInt8) (D : Nat → Prop) (s : List Value) (u : World) : Prop := n0 ≤ u.heap.size ∧ match s with
  | [] => True
  | v :: _ => u.ownsRow n0 5 1 v l.length (bys l)
theorem cloY_keeps (n0 : Nat) (l : List UInt8) : Keeps (cloY n0 l) where
  quiet := fun D s u u' ⟨h1, h2⟩ hk => ⟨Nat.le_trans h1 hk.size, by
    cases s with
    | nil => trivial
    | cons v s => exact own_kept h2 hk (fun _ _ hf => hf)⟩
  make := fun D s u o ⟨h1, h2⟩ => ⟨by simp; omega, by
    cases s with
    | nil => trivial
    | cons v s => exact own_kept h2 ((Kept.refl Nil u).alloc o) (fun _ _ hf => hf)⟩
theorem hdM_o (l : List UInt8) : 0 ≤ (hdM l).o ∧ (hdM l).o ≤ 8191 := by unfold hdM; simp only; omega
/-- Bytes cut out, wherever they lie. -/
theorem read_bad (l : List UInt8) (wh : Bool) (h : (readP l).2.2 ≠ 0) : readHM l wh = (Hd.zero, [], (readP l).2.2) := by rw [read_by, if_pos h]

set_option maxRecDepth 100000 in
set_option maxHeartbeats 16000000 in
theorem iget_yes (A : Option Addr) (n c : Nat) (l : List UInt8) (w : World) (h : Byt w A n c l) (hn : n ≤ 1099511627776) : Calls Try.prog 56 #[.slice A n c] w fun e w' => GetIs w e w' (readHM l true) := by
  have hnc := h.2.1
  have hcc := h.2.2.1
  have hll := h.1
  have HBY := Lib.hid h
  have HB0 := Lib.hid (HB.new w 47 Hd.zero none 0 0)
  have HK0 := Lib.hid ((Kept.refl Nil w).alloc (.cells (hcs Hd.zero none 0 0).toArray 47))
  have HNC := Lib.hid hnc
  have HLL := Lib.hid hll
  have hbad := read_bad l true
  have hok := readP_ok l
  have hby := read_by l true
  clear h hll
  go_enter Try.func56, Try.ntmps56
  go_wp2_with (fail)
  refine (iread_yes A n c l _ (HBY.out.kept HK0.out (fun _ _ hf => hf)) hn).mono ?_
  rintro e w1 ⟨A1, n1, c1, rfl, hx, hk⟩
  obtain ⟨gh, hgh⟩ : ∃ gh, w.heap.size = gh := ⟨_, rfl⟩
  have HB1 := Lib.hid (HB0.out.kept hk (fun hf => hf))
  have HLO := Lib.hid (show w.heap.size ≤ gh by omega)
  have HK1 := Lib.hid (HK0.out.then hk)
  have HX1 := Lib.hid hx.1
  have HXL := Lib.hid (show ∀ i, Lies A1 n1 i → w.heap.size ≤ i ∧ i ≠ gh from fun i hi => by have := hx.2 i hi; simp at this; omega)
  rw [hgh] at HB1 ⊢
  clear hx hk hgh HB0 HK0
  obtain ⟨⟨F, S, E⟩, hR⟩ : ∃ r, readP l = r := ⟨_, rfl⟩
  rw [hR] at hbad hok hby HX1 ⊢
  simp only at hbad hok hby HX1 ⊢
  go_upto_region 2 with (first
    | (refine wpList_st rfl _ (.tmp 2) _ rfl gh 0 rfl (hcs F A1 n1 c1) _ rfl rfl (infHi _ _ _ _) 47 _ HB1.out (by rw [hcs_len, hcs_len]; omega) (hcs_one _ _ _ _) ?_; intro w2 hb2 hk2 hz2; simp only [Act.put])
    | fail)
  have HB2 := Lib.hid (show HB w2 gh 47 F A1 n1 c1 from HB.of_all hb2)
  have HX2 := Lib.hid (HX1.out.kept hk2 (fun i hi hf => (HXL.out i hi).2 hf))
  have HK2 := Lib.hid (HK1.out.fresh hk2 (fun i hi => by cases hi; exact HLO.out))
  clear hb2 hk2 hz2 HB1 HX1 HK1
  by_cases hE : E = 0
  · subst hE
    obtain ⟨rfl, rfl, k1, k2, k3, k4⟩ := hok rfl
    rw [if_neg (by simp)] at hby
    obtain ⟨N, hN⟩ : ∃ N, hlenM l = N := ⟨_, rfl⟩
    obtain ⟨S, hS⟩ : ∃ S, allM l = S := ⟨_, rfl⟩
    obtain ⟨F, hF⟩ : ∃ F, hdM l = F := ⟨_, rfl⟩
    have ho := hdM_o l
    have h60 := hlen_60 l
    have hS16 : S ≤ 65535 := by rw [← hS]; have := numM_lt ((l.drop 2).take 2); have h3 : (256 : Nat) ^ ((l.drop 2).take 2).length ≤ 256 ^ 2 := Nat.pow_le_pow_right (by omega) (by simp; omega); unfold allM; omega
    rw [hN, hS, hF] at hby
    rw [hF] at k4 ho HB2 HX2 ⊢
    rw [hS] at k1 ⊢
    rw [hN] at k1 k2 k3 k4 h60
    clear hbad hok hR
    have hn1 : n1 = F.x.length := HX2.out.1.symm
    have HSZ := Lib.hid (show ∀ u, Calls Try.prog 37 #[.agg (hcs F A1 n1 c1).toArray] u fun e u' => e = .returned (.int .i64 (N : Int)) ∧ Kept Nil u u' from fun u => by
      have := isize_yes F A1 n1 c1 (by omega) u
      rw [show 20 + n1 = N by omega] at this
      exact this)
    rw [HLL.out] at k2 hby
    have HBYE := Lib.hid hby
    have HO := Lib.hid ho
    clear hby k3 k4 hn1 hN hS hF ho
    by_cases hlong : S ≤ n
    · have hlong' : ¬ (n : Int) < (S : Int) := by omega
      have HBYF := Lib.hid (show readHM l true = if fitsM F (S - N) = false then (Hd.zero, [], 5) else (F, (l.take S).drop N, 0) by
        rw [HBYE.out, if_pos hlong]
        cases fitsM F (S - N) <;> simp)
      have hslN := run_cut (P := Try.prog) Try.underlying22 inf5.1 inf5.2 A n c N S (N : Int) (S : Int) rfl rfl k1 (by omega)
      have HBC := Lib.hid (HBY.out.cut k1 hlong)
      have HFI := Lib.hid (ihold_yes F A1 n1 c1 (S - N) HO.out (by omega))
      have hSN : ((S - N : Nat) : Int) = (S : Int) - (N : Int) := by omega
      have HSN := Lib.hid hSN
      have hbl : ((l.take S).drop N).length = S - N := by rw [List.length_drop, List.length_take, HLL.out]; omega
      generalize (l.take S).drop N = bd at *
      generalize hMB : S - N = MB at *
      have HBL := Lib.hid hbl
      have HMB := Lib.hid (show MB ≤ 65535 by omega)
      have HMC := Lib.hid (show MB ≤ c - N by omega)
      generalize cutA A c N = A2 at *
      generalize c - N = c2 at *
      clear HBYE hSN hMB hbl k1 k2 hlong
      go_wp2_with (first
        | (refine wpList_ld rfl _ _ rfl gh 0 rfl (hcs F A1 n1 c1) HB2.out.all _ Try.underlying47 rfl (infHi _ _ _ _) ?_; simp only [Act.put, List.setIfInBounds_toArray, List.set_cons_succ, List.set_cons_zero])
        | fail)
      refine (HSZ.out _).mono ?_
      rintro e w3 ⟨rfl, hk⟩
      have HB3 := Lib.hid (HB2.out.kept hk (fun hf => hf))
      have HX3 := Lib.hid (HX2.out.kept hk (fun _ _ hf => hf))
      have HK3 := Lib.hid (HK2.out.then hk)
      clear hk HB2 HX2 HK2
      go_wp2_with (first
        | (refine wpList_ld rfl _ _ rfl gh 0 rfl (hcs F A1 n1 c1) HB3.out.all _ Try.underlying47 rfl (infHi _ _ _ _) ?_; simp only [Act.put, List.setIfInBounds_toArray, List.set_cons_succ, List.set_cons_zero])
        | fail)
      refine (HFI.out _).mono ?_
      rintro e w4 ⟨rfl, hk⟩
      have HB4 := Lib.hid (HB3.out.kept hk (fun hf => hf))
      have HX4 := Lib.hid (HX3.out.kept hk (fun _ _ hf => hf))
      have HK4 := Lib.hid (HK3.out.then hk)
      clear hk HB3 HX3 HK3 HFI
      cases hft : fitsM F MB
      · have HRR := Lib.hid (show readHM l true = (Hd.zero, [], 5) by rw [HBYF.out, if_pos hft])
        clear hft HBYF
        go_wp2_with (first
          | (refine wpList_st rfl _ (.tmp 2) _ rfl gh 0 rfl (hcs Hd.zero none 0 0) _ rfl rfl (infHi _ _ _ _) 47 _ HB4.out (by rw [hcs_len, hcs_len]; omega) (hcs_one _ _ _ _) ?_; intro w40 hb9 hk9 hz9; simp only [Act.put])
          | fail)
        have h2 : HB w40 gh 47 Hd.zero none 0 0 := HB.of_all hb9
        refine bodyPost_ret (res_cell2 Try.results56 rfl rfl rfl h2.all Try.underlying47 rfl (infHi _ _ _ _)) rfl ?_
        rw [HRR.out]
        exact ⟨none, 0, 0, none, 0, 0, rfl, newB_none _ _, newB_none _ _, (HK4.out).fresh hk9 (fun i hi => by cases hi; exact HLO.out)⟩
      · have HRR := Lib.hid (show readHM l true = (F, bd, 0) by rw [HBYF.out, if_neg (by rw [hft]; decide)])
        clear hft HBYF
        go_upto_region 9 with (fail)
        refine wp_region_acts Nil [2] (fun i vl => (#[], 0)) (fun i => undef) (cloY w4.heap.size bd) (fun i v => ∃ A c, v = .slice A MB c) 3 (by kernel_rfl) (by kernel_rfl) (cloY_keeps _ _) ⟨Nat.le_refl _, trivial⟩ ?_
        simp only [List.take_succ_cons, List.take_zero, List.drop_succ_cons, List.drop_zero]
        refine tLex_quiets 2 rfl (by kernel_rfl) ?_
        simp only [List.take_succ_cons, List.take_zero, List.drop_succ_cons, List.drop_zero]
        apply Exists.intro
        refine ⟨?hq, ?hv, ?ht⟩
        case hq =>
          intro V hV
          have hbV : Hid (HB V gh 47 F A1 n1 c1) := HB4.out.kept hV (fun hf => hf)
          clear hV
          repeat (first
            | (refine wpQuiet_ld rfl _ _ rfl gh 0 rfl (hcs F A1 n1 c1) (fun w1 hw => row_grown hbV.out.all hw) _ Try.underlying47 rfl (infHi _ _ _ _) ?_; simp only [Act.put, List.setIfInBounds_toArray, List.set_cons_succ, List.set_cons_zero])
            | (go_big_quiet_step (fail)))
          exact wpQuiet_nil rfl
        case hv => exact ⟨trivial, trivial, trivial⟩
        case ht =>
          refine tLex_act 26 #[.slice A2 MB c2] (fun u => ?he) rfl rfl (.slice none MB 0) ⟨_, _, rfl⟩ ?hc ?_
          case he => simp [execOp, go_sem]
          case hc =>
            intro D u hu hI hd
            refine (sclone A2 MB c2 bd u ((HBC.out.kept HK4.out (fun _ _ hf => hf)).kept hu (fun _ _ hf => hf)) (by have := HMB.out; omega)).mono ?_
            rintro e w' ⟨v, rfl, hm⟩
            obtain ⟨A3, c3, hv3⟩ := own_form hm.1
            refine ⟨v, rfl, ⟨A3, c3, by rw [hv3, HBL.out]⟩, hu.then hm.2, ⟨Nat.le_trans hu.size hm.2.size, ?_⟩, hm.2.size, fun k _ hk => hm.2.block k hk (fun hf => hf)⟩
            exact own_mono hm.1 hu.size
          rintro v ⟨A3, cap3, rfl⟩
          intro w5 hs
          have HB5 := Lib.hid (HB4.out.kept hs.kept (fun hf => hf))
          have HX5 := Lib.hid (HX4.out.kept hs.kept (fun _ _ hf => hf))
          have HK5 := Lib.hid (HK4.out.then hs.kept)
          have HO5 := Lib.hid hs.know.2
          have HGL := Lib.hid HB4.out.lt
          clear hs
          simp only [Act.put, List.setIfInBounds_toArray, List.set_cons_succ, List.set_cons_zero]
          go_wp2_with (first
            | (refine wpList_st rfl _ (.tmp 2) _ rfl gh 0 rfl (hcs F A1 n1 c1) _ rfl rfl (infHi _ _ _ _) 47 _ HB5.out (by rw [hcs_len]; omega) (hcs_one _ _ _ _) ?_; intro w40 hb9 hk9 hz9; simp only [Act.put])
            | fail)
          have h2 : HB w40 gh 47 F A1 n1 c1 := HB.of_all hb9
          refine bodyPost_ret (res_cell2 Try.results56 rfl rfl rfl h2.all Try.underlying47 rfl (infHi _ _ _ _)) rfl ?_
          rw [HRR.out]
          have ho6 := own_kept HO5.out hk9 (fun i hi hf => by have := (HO5.out.lt i hi).1; have := HGL.out; cases hf; omega)
          obtain ⟨A4, c4, e4, hy4, hl4⟩ := Byt.of_own (l := bd) ho6
          cases e4
          refine ⟨A1, n1, c1, A3, _, cap3, rfl, ⟨HX5.out.kept hk9 (fun i hi hf => (HXL.out i hi).2 hf), fun i hi => (HXL.out i hi).1⟩, ?_, HK5.out.fresh hk9 (fun i hi => by cases hi; exact HLO.out)⟩
          exact ⟨hy4, fun i hi => by have := hl4 i hi; have := HK4.out.size; omega⟩
    · have hlong' : (n : Int) < (S : Int) := by omega
      have HRR := Lib.hid (show readHM l true = (Hd.zero, [], 4) by rw [HBYE.out, if_neg hlong]; simp)
      clear hlong HBYE
      go_wp2_with (first
        | (refine wpList_st rfl _ (.tmp 2) _ rfl gh 0 rfl (hcs Hd.zero none 0 0) _ rfl rfl (infHi _ _ _ _) 47 _ HB2.out (by rw [hcs_len, hcs_len]; omega) (hcs_one _ _ _ _) ?_; intro w40 hb9 hk9 hz9; simp only [Act.put])
        | fail)
      have h2 : HB w40 gh 47 Hd.zero none 0 0 := HB.of_all hb9
      refine bodyPost_ret (res_cell2 Try.results56 rfl rfl rfl h2.all Try.underlying47 rfl (infHi _ _ _ _)) rfl ?_
      rw [HRR.out]
      exact ⟨none, 0, 0, none, 0, 0, rfl, newB_none _ _, newB_none _ _, (HK2.out).fresh hk9 (fun i hi => by cases hi; exact HLO.out)⟩
  · have hE' : (E != 0) = true := by simp [hE]
    have HRR := Lib.hid (hbad hE)
    clear hok hby hbad hR hE
    go_wp2_with (first
      | (refine wpList_st rfl _ (.tmp 2) _ rfl gh 0 rfl (hcs Hd.zero none 0 0) _ rfl rfl (infHi _ _ _ _) 47 _ HB2.out (by rw [hcs_len, hcs_len]; omega) (hcs_one _ _ _ _) ?_; intro w40 hb9 hk9 hz9; simp only [Act.put])
      | fail)
    have h2 : HB w40 gh 47 Hd.zero none 0 0 := HB.of_all hb9
    refine bodyPost_ret (res_cell2 Try.results56 rfl rfl rfl h2.all Try.underlying47 rfl (infHi _ _ _ _)) rfl ?_
    rw [HRR.out]
    exact ⟨none, 0, 0, none, 0, 0, rfl, newB_none _ _, newB_none _ _, (HK2.out).fresh hk9 (fun i hi => by cases hi; exact HLO.out)⟩
set_option maxRecDepth 100000 in
set_option maxHeartbeats 16000000 in
theorem icut_yes (A : Option Addr) (n c : Nat) (l : List UInt8) (w : World) (h : Byt w A n c l) (hn : n ≤ 1099511627776) : Calls Try.prog 41 #[.slice A n c] w fun e w' => GetIs w e w' (readHM l false) := by
  have hnc := h.2.1
  have hcc := h.2.2.1
  have hll := h.1
  have HBY := Lib.hid h
  have HB0 := Lib.hid (HB.new w 47 Hd.zero none 0 0)
  have HK0 := Lib.hid ((Kept.refl Nil w).alloc (.cells (hcs Hd.zero none 0 0).toArray 47))
  have HNC := Lib.hid hnc
  have HLL := Lib.hid hll
  have hbad := read_bad l false
  have hok := readP_ok l
  have hby := read_by l false
  clear h hll
  go_enter Try.func41, Try.ntmps41
  go_wp2_with (fail)
  refine (iread_yes A n c l _ (HBY.out.kept HK0.out (fun _ _ hf => hf)) hn).mono ?_
  rintro e w1 ⟨A1, n1, c1, rfl, hx, hk⟩
  obtain ⟨gh, hgh⟩ : ∃ gh, w.heap.size = gh := ⟨_, rfl⟩
  have HB1 := Lib.hid (HB0.out.kept hk (fun hf => hf))
  have HLO := Lib.hid (show w.heap.size ≤ gh by omega)
  have HK1 := Lib.hid (HK0.out.then hk)
  have HX1 := Lib.hid hx.1
  have HXL := Lib.hid (show ∀ i, Lies A1 n1 i → w.heap.size ≤ i ∧ i ≠ gh from fun i hi => by have := hx.2 i hi; simp at this; omega)
  rw [hgh] at HB1 ⊢
  clear hx hk hgh HB0 HK0
  obtain ⟨⟨F, S, E⟩, hR⟩ : ∃ r, readP l = r := ⟨_, rfl⟩
  rw [hR] at hbad hok hby HX1 ⊢
  simp only at hbad hok hby HX1 ⊢
  go_upto_region 2 with (first
    | (refine wpList_st rfl _ (.tmp 2) _ rfl gh 0 rfl (hcs F A1 n1 c1) _ rfl rfl (infHi _ _ _ _) 47 _ HB1.out (by rw [hcs_len, hcs_len]; omega) (hcs_one _ _ _ _) ?_; intro w2 hb2 hk2 hz2; simp only [Act.put])
    | fail)
  have HB2 := Lib.hid (show HB w2 gh 47 F A1 n1 c1 from HB.of_all hb2)
  have HX2 := Lib.hid (HX1.out.kept hk2 (fun i hi hf => (HXL.out i hi).2 hf))
  have HK2 := Lib.hid (HK1.out.fresh hk2 (fun i hi => by cases hi; exact HLO.out))
  clear hb2 hk2 hz2 HB1 HX1 HK1
  by_cases hE : E = 0
  · subst hE
    obtain ⟨rfl, rfl, k1, k2, k3, k4⟩ := hok rfl
    rw [if_neg (by simp)] at hby
    obtain ⟨N, hN⟩ : ∃ N, hlenM l = N := ⟨_, rfl⟩
    obtain ⟨S, hS⟩ : ∃ S, allM l = S := ⟨_, rfl⟩
    obtain ⟨F, hF⟩ : ∃ F, hdM l = F := ⟨_, rfl⟩
    have ho := hdM_o l
    have h60 := hlen_60 l
    have hS16 : S ≤ 65535 := by rw [← hS]; have := numM_lt ((l.drop 2).take 2); have h3 : (256 : Nat) ^ ((l.drop 2).take 2).length ≤ 256 ^ 2 := Nat.pow_le_pow_right (by omega) (by simp; omega); unfold allM; omega
    rw [hN, hS, hF] at hby
    rw [hF] at k4 ho HB2 HX2 ⊢
    rw [hS] at k1 ⊢
    rw [hN] at k1 k2 k3 k4 h60
    clear hbad hok hR
    have hn1 : n1 = F.x.length := HX2.out.1.symm
    have HSZ := Lib.hid (show ∀ u, Calls Try.prog 37 #[.agg (hcs F A1 n1 c1).toArray] u fun e u' => e = .returned (.int .i64 (N : Int)) ∧ Kept Nil u u' from fun u => by
      have := isize_yes F A1 n1 c1 (by omega) u
      rw [show 20 + n1 = N by omega] at this
      exact this)
    rw [HLL.out] at k2 hby
    have HBYE := Lib.hid hby
    have HO := Lib.hid ho
    clear hby k3 k4 hn1 hN hS hF ho
    obtain ⟨q, hq, hqn, hqS⟩ : ∃ q : Nat, min S n = q ∧ q ≤ n ∧ N ≤ q := ⟨min S n, rfl, by omega, by omega⟩
    have hqI : min (S : Int) (n : Int) = (q : Int) := by omega
    have hqI2 : (if (n : Int) < (S : Int) then (n : Int) else (S : Int)) = (q : Int) := by split <;> omega
    have HRR := Lib.hid (show readHM l false = (F, (l.take q).drop N, 0) by
      rw [HBYE.out]
      by_cases hSn : S ≤ n
      · rw [if_pos hSn, if_neg (by simp), show q = S by omega]
      · rw [if_neg hSn, if_neg (by simp), List.take_of_length_le (by rw [HLL.out]; omega)])
    have hslN := run_cut (P := Try.prog) Try.underlying22 inf5.1 inf5.2 A n c N q (N : Int) (q : Int) rfl rfl hqS (by omega)
    have HBC := Lib.hid (HBY.out.cut hqS hqn)
    have hbl : ((l.take q).drop N).length = q - N := by rw [List.length_drop, List.length_take, HLL.out]; omega
    generalize (l.take q).drop N = bd at *
    generalize hMB : q - N = MB at *
    have HBL := Lib.hid hbl
    have HMB := Lib.hid (show MB ≤ 65535 by omega)
    generalize cutA A c N = A2 at *
    generalize c - N = c2 at *
    clear HBYE hMB hbl k1 k2 hq
    go_upto_region 4 with (fail)
    refine wp_region_acts Nil [9] (fun i vl => (#[], 0)) (fun i => if i = 3 then .int .i64 (N : Int) else if i = 6 then .int .i64 (n : Int) else if i = 7 then .int .i64 (q : Int) else undef) (cloY w2.heap.size bd) (fun i v => ∃ A c, v = .slice A MB c) 10 (by kernel_rfl) (by kernel_rfl) (cloY_keeps _ _) ⟨Nat.le_refl _, trivial⟩ ?_
    simp only [List.take_succ_cons, List.take_zero, List.drop_succ_cons, List.drop_zero]
    refine tLex_quiets 9 rfl (by kernel_rfl) ?_
    simp only [List.take_succ_cons, List.take_zero, List.drop_succ_cons, List.drop_zero]
    apply Exists.intro
    refine ⟨?hq, ?hv, ?ht⟩
    case hq =>
      intro V hV
      have hbV : Hid (HB V gh 47 F A1 n1 c1) := HB2.out.kept hV (fun hf => hf)
      clear hV
      repeat (first
        | (refine wpQuiet_ld rfl _ _ rfl gh 0 rfl (hcs F A1 n1 c1) (fun w1 hw => row_grown hbV.out.all hw) _ Try.underlying47 rfl (infHi _ _ _ _) ?_; simp only [Act.put, List.setIfInBounds_toArray, List.set_cons_succ, List.set_cons_zero])
        | (go_big_quiet_step (first | with_reducible exact quietK (HSZ.out _) | exact quietK (HSZ.out _))))
      exact wpQuiet_nil rfl
    case hv => exact ⟨trivial, trivial, trivial, rfl, trivial, trivial, rfl, rfl, trivial, trivial⟩
    case ht =>
      refine tLex_act 26 #[.slice A2 MB c2] (fun u => ?he) rfl rfl (.slice none MB 0) ⟨_, _, rfl⟩ ?hc ?_
      case he => simp [execOp, go_sem]
      case hc =>
        intro D u hu hI hd
        refine (sclone A2 MB c2 bd u ((HBC.out.kept HK2.out (fun _ _ hf => hf)).kept hu (fun _ _ hf => hf)) (by have := HMB.out; omega)).mono ?_
        rintro e w' ⟨v, rfl, hm⟩
        obtain ⟨A3, c3, hv3⟩ := own_form hm.1
        refine ⟨v, rfl, ⟨A3, c3, by rw [hv3, HBL.out]⟩, hu.then hm.2, ⟨Nat.le_trans hu.size hm.2.size, ?_⟩, hm.2.size, fun k _ hk => hm.2.block k hk (fun hf => hf)⟩
        exact own_mono hm.1 hu.size
      rintro v ⟨A3, cap3, rfl⟩
      intro w5 hs
      have HB5 := Lib.hid (HB2.out.kept hs.kept (fun hf => hf))
      have HX5 := Lib.hid (HX2.out.kept hs.kept (fun _ _ hf => hf))
      have HK5 := Lib.hid (HK2.out.then hs.kept)
      have HO5 := Lib.hid hs.know.2
      have HGL := Lib.hid HB2.out.lt
      clear hs
      simp only [Act.put, List.setIfInBounds_toArray, List.set_cons_succ, List.set_cons_zero]
      go_wp2_with (first
        | (refine wpList_st rfl _ (.tmp 2) _ rfl gh 0 rfl (hcs F A1 n1 c1) _ rfl rfl (infHi _ _ _ _) 47 _ HB5.out (by rw [hcs_len]; omega) (hcs_one _ _ _ _) ?_; intro w40 hb9 hk9 hz9; simp only [Act.put])
        | fail)
      have h2 : HB w40 gh 47 F A1 n1 c1 := HB.of_all hb9
      refine bodyPost_ret (res_cell2 Try.results41 rfl rfl rfl h2.all Try.underlying47 rfl (infHi _ _ _ _)) rfl ?_
      rw [HRR.out]
      have ho6 := own_kept HO5.out hk9 (fun i hi hf => by have := (HO5.out.lt i hi).1; have := HGL.out; cases hf; omega)
      obtain ⟨A4, c4, e4, hy4, hl4⟩ := Byt.of_own (l := bd) ho6
      cases e4
      refine ⟨A1, n1, c1, A3, _, cap3, rfl, ⟨HX5.out.kept hk9 (fun i hi hf => (HXL.out i hi).2 hf), fun i hi => (HXL.out i hi).1⟩, ?_, HK5.out.fresh hk9 (fun i hi => by cases hi; exact HLO.out)⟩
      exact ⟨hy4, fun i hi => by have := hl4 i hi; have := HK2.out.size; omega⟩
  · have hE' : (E != 0) = true := by simp [hE]
    have HRR := Lib.hid (hbad hE)
    clear hok hby hbad hR hE
    go_wp2_with (first
      | (refine wpList_st rfl _ (.tmp 2) _ rfl gh 0 rfl (hcs Hd.zero none 0 0) _ rfl rfl (infHi _ _ _ _) 47 _ HB2.out (by rw [hcs_len, hcs_len]; omega) (hcs_one _ _ _ _) ?_; intro w40 hb9 hk9 hz9; simp only [Act.put])
      | fail)
    have h2 : HB w40 gh 47 Hd.zero none 0 0 := HB.of_all hb9
    refine bodyPost_ret (res_cell2 Try.results41 rfl rfl rfl h2.all Try.underlying47 rfl (infHi _ _ _ _)) rfl ?_
    rw [HRR.out]
    exact ⟨none, 0, 0, none, 0, 0, rfl, newB_none _ _, newB_none _ _, (HK2.out).fresh hk9 (fun i hi => by cases hi; exact HLO.out)⟩
end Go.Proofs.Ytkpelaojjfcpfaa
