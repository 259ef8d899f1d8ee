/- tollref08: contract of Get. -/
import Derived.Test.YtkpelaojjfcpfaaIcH
import Derived.Test.YtkpelaojjfcpfaaRgD
import Derived.Test.YtkpelaojjfcpfaaBd
namespace Go.Proofs.Ytkpelaojjfcpfaa
open Go.RowKit Go.Sort
set_option linter.unusedVariables false

theorem buildR (a b : Int) (A : Option Addr) (n c : Nat) (w : World) : (Instr.build 29 #[(0, .int .u8 a), (1, .int .u8 b), (3, .slice A n c)]).run Try.prog w = .ok (.agg #[.int .u8 a, .int .u8 b, .int .u8 0, .int .u8 0, .int .u8 0, .int .u8 0, .slice A n c]) w := by kernel_rfl
/-- What the reference's reader answers: its body lies where it lay. -/
def MsR (w : World) (e : Ending) (w' : World) (r : Ms × Int) : Prop := ∃ A n c, e = .returned (.tuple #[.agg (ics r.1 A n c).toArray, .int .i64 r.2]) ∧ Byt w' A n c r.1.b ∧ Kept Nil w w'
theorem siz8 : (Try.prog.info? 5).map (·.size) = some 1 := by kernel_rfl
/-- A message of whose rest so many bytes stand. -/
def msK (t cd p q r s : UInt8) (b : List UInt8) : Nat → Ms
  | 0 => ⟨t, cd, 0, 0, 0, 0, b⟩
  | 1 => ⟨t, cd, p, 0, 0, 0, b⟩
  | 2 => ⟨t, cd, p, q, 0, 0, b⟩
  | 3 => ⟨t, cd, p, q, r, 0, b⟩
  | _ => ⟨t, cd, p, q, r, s, b⟩
set_option maxRecDepth 100000 in
set_option maxHeartbeats 16000000 in
theorem icref_yes (A : Option Addr) (n c : Nat) (l : List UInt8) (w : World) (h : Byt w A n c l) (hn : n ≤ 1099511627776) : Calls Try.prog 9 #[.slice A n c] w fun e w' => MsR w e w' (getI l) := by
  have hnc := h.2.1
  have hcc := h.2.2.1
  have hll := h.1
  have HBY := Lib.hid h
  have HBL := Lib.hid h.lt
  have HB0 := Lib.hid (MB.new w 29 Ms.zero none 0 0)
  have HK0 := Lib.hid ((Kept.refl Nil w).alloc (.cells (ics Ms.zero none 0 0).toArray 29))
  have HLL := Lib.hid hll
  have HRES := Lib.hid (show ∀ (er : Int) (u : World), getI l = (Ms.zero, er) → Kept Nil w u → MsR w (.returned (.tuple #[.agg (ics Ms.zero none 0 0).toArray, .int .i64 er])) u (getI l) from fun er u hg hk => by
    rw [hg]
    exact ⟨none, 0, 0, rfl, Byt.none _, hk⟩)
  have HSH := Lib.hid (getI_short l)
  have HSM := Lib.hid (getI_sum l)
  have HEI := Lib.hid (eight l)
  have HOK := Lib.hid getI_ok
  obtain ⟨R, hR⟩ : ∃ r, getI l = r := ⟨_, rfl⟩
  have HRE := Lib.hid hR
  rw [hR] at HSH HSM HRES ⊢
  clear h hll hR
  go_enter Try.func9, Try.ntmps9
  by_cases h8 : n < 8
  · have h8' : (n : Int) < 8 := by omega
    have HG := Lib.hid (HSH.out (by have := HLL.out; omega))
    clear h8 HSH HSM HEI HOK HBY
    go_wp2_with (first
      | (refine wpList_st rfl _ (.tmp 2) _ rfl w.heap.size 0 rfl (ics Ms.zero none 0 0) _ rfl rfl (infMr _ _ _ _) 29 _ HB0.out (by rw [ics_len]; omega) (ics_one _ _ _ _) ?_; intro w1 hb hk hz; simp only [Act.put])
      | fail)
    have h2 : MB w1 w.heap.size 29 Ms.zero none 0 0 := hb
    refine bodyPost_ret (res_cell1 Try.results9 rfl rfl h2.all Try.underlying29 rfl (infMr _ _ _ _)) rfl ?_
    exact HRES.out 4 _ HG.out (HK0.out.fresh hk (fun i hi => by cases hi; exact Nat.le_refl _))
  · have h8' : ¬ (n : Int) < 8 := by omega
    have HN8 := Lib.hid (show 8 ≤ n by omega)
    obtain ⟨sm, hsm⟩ : ∃ x, sumM l = x := ⟨_, rfl⟩
    have HSMM := Lib.hid hsm
    have HY0 := Lib.hid (HBY.out.kept HK0.out (fun _ _ hf => hf))
    go_wp2_with (fail)
    refine (gsum_yes A n c l _ HY0.out hn).mono ?_
    rintro e w1 ⟨rfl, hw1⟩
    rw [hsm]
    obtain ⟨g2, hg2⟩ : ∃ g, w.heap.size = g := ⟨_, rfl⟩
    have HLO := Lib.hid (show w.heap.size ≤ g2 by omega)
    have HLT := Lib.hid (show ∀ i, Lies A n i → i < g2 from fun i hi => by have := HBL.out i hi; omega)
    have HB1 := Lib.hid (show MB w1 g2 29 Ms.zero none 0 0 from by rw [← hw1, ← hg2]; exact HB0.out)
    have HK1 := Lib.hid (show Kept Nil w w1 from by rw [← hw1]; exact HK0.out)
    have HY1 := Lib.hid (show Byt w1 A n c l from by rw [← hw1]; exact HY0.out)
    rw [hg2]
    clear hw1 HB0 HK0 HY0 hg2 HSH hsm h8 HBY HBL
    by_cases hs : sm = 0
    · subst hs
      obtain ⟨t, cd, x, y, p, q, r, s, body, rfl⟩ := HEI.out (by have := HLL.out; have := HN8.out; omega)
      have HG := Lib.hid (HRE.out.symm.trans (HOK.out t cd x y p q r s body HSMM.out))
      obtain ⟨b, o, rfl, -⟩ := HY1.out.2.2.2 (by have := HN8.out; omega)
      have hsl9 := run_cut_lo (P := Try.prog) Try.underlying22 inf5.1 inf5.2 (some ⟨b, o, none⟩) n c 8 (8 : Int) rfl HN8.out
      have HCU := Lib.hid (show Byt w1 (cutA (some ⟨b, o, none⟩) c 8) (n - 8) (c - 8) body from by
        have := HY1.out.cut (lo := 8) (hi := n) HN8.out (Nat.le_refl _)
        rw [List.take_of_length_le (by rw [HLL.out]; exact Nat.le_refl _)] at this
        exact this)
      have HCL := Lib.hid (show ∀ i, Lies (cutA (some ⟨b, o, none⟩) c 8) (n - 8) i → i < g2 from fun i hi => by
        obtain ⟨h1, ad, h2, h3⟩ := Lies.cut i hi
        exact HLT.out i ⟨by have := HN8.out; omega, ad, h2, h3⟩)
      clear HEI HOK HSM HSMM HRES HRE
      generalize cutA (some ⟨b, o, none⟩) c 8 = A8 at *
      generalize c - 8 = c8 at *
      generalize n - 8 = n8 at *
      have n1 : 1 < n := by have := HN8.out; omega
      go_upto_region 5 with (fail)
      refine wp_region_own3 Nil (fun _ => none) (fun _ => (ics Ms.zero none 0 0).toArray) 9 (fun i => undef) (by kernel_rfl) (by kernel_rfl) (by kernel_rfl) ⟨Kept.refl _ _, fun _ _ _ _ h => by cases h⟩ ?_
      apply Exists.intro
      refine And.intro ?hqa ?hta
      case hqa =>
        intro V hV
        have hYV := HY1.out.kept hV (fun _ _ hf => hf)
        have y0 := fun d os => byt_ge (hYV.kept (kept_grown' V d os) (fun _ _ hf => hf)) 0 t rfl
        have y1 := fun d os => byt_ge (hYV.kept (kept_grown' V d os) (fun _ _ hf => hf)) 1 cd rfl
        simp only [Nat.add_zero] at y0
        have n0 : 0 < n := by omega
        clear hYV hV
        dsimp only [List.take]
        iterate 8 (go_big_quiet_step (fail))
        refine wpQuiet_bd rfl _ _ rfl #[(0, .int .u8 (t.toNat : Int)), (1, .int .u8 (cd.toNat : Int)), (3, .slice A8 n8 c8)] rfl (.agg (ics ⟨t, cd, 0, 0, 0, 0, body⟩ A8 n8 c8).toArray) (fun w => buildR _ _ _ _ _ w) ?_
        exact wpQuiet_nil rfl
      case hta =>
        intro vt hvt
        dsimp only [List.drop]
        refine sLex_alloc 29 rfl rfl (fun _ _ => by kernel_rfl) ?_
        intro g4 hg4 hL4
        refine sLex_store 29 (.tmp 4) (.tmp 22) rfl rfl rfl g4 (ics Ms.zero none 0 0).toArray (ics ⟨t, cd, 0, 0, 0, 0, body⟩ A8 n8 c8).toArray (by rfl) (by simp [upd]) (by rfl) (by rfl) (by rw [List.size_toArray]; exact infMr _ _ _ _) (by simpa using ics_one ⟨t, cd, 0, 0, 0, 0, body⟩ A8 n8 c8) ?_
        simp only [Act.put, List.setIfInBounds_toArray, List.set_cons_succ, List.set_cons_zero]
        intro w5 hh
        have hq5 : MB w5 g4 29 ⟨t, cd, 0, 0, 0, 0, body⟩ A8 n8 c8 := (hh.own g4 true _ 29 (by simp [upd])).2
        have hk5 := hh.kept
        have HT5 := Lib.hid hq5
        have HB5 := Lib.hid (HB1.out.kept hk5 (fun hf => hf))
        have HY5 := Lib.hid (HY1.out.kept hk5 (fun _ _ hf => hf))
        have HC5 := Lib.hid (HCU.out.kept hk5 (fun _ _ hf => hf))
        have HK5 := Lib.hid (HK1.out.then hk5)
        have HG5 := Lib.hid (show g2 < g4 by have := HB1.out.lt; omega)
        clear hq5 hk5 hh hvt hg4 hL4 HB1 HY1 HCU HK1
        have HN12 := Lib.hid (show 7 < n from HN8.out)
        go_wp2
        go_loopw [5] (fun i wr => ∃ k : Nat, k ≤ 4 ∧ i = .int .i64 (k : Int) ∧ MB wr g4 29 (msK t cd p q r s body k) A8 n8 c8 ∧ MB wr g2 29 Ms.zero none 0 0 ∧ Byt wr (some ⟨b, o, none⟩) n c (t :: cd :: x :: y :: p :: q :: r :: s :: body) ∧ Byt wr A8 n8 c8 body ∧ Kept Nil w wr) (fun i _ => 4 - (intOf i).toNat)
        case atStart => exact ⟨0, by omega, rfl, HT5.out, HB5.out, HY5.out, HC5.out, HK5.out⟩
        case round =>
          obtain ⟨k, hk4, rfl, hm, hb, hy, hc, hkp⟩ := hrel
          have HM := Lib.hid hm
          have HB := Lib.hid hb
          have HY := Lib.hid hy
          have HC := Lib.hid hc
          have HK := Lib.hid hkp
          have hn7 := HN12.out
          clear hm hb hy hc hkp HT5 HB5 HY5 HC5 HK5
          rcases (show k = 0 ∨ k = 1 ∨ k = 2 ∨ k = 3 ∨ k = 4 by omega) with rfl | rfl | rfl | rfl | rfl
          · have y0 := byt_ge HY.out 4 p rfl
            have n0 : 4 < n := by omega
            go_wp2_with (first
              | (refine wpList_st rfl _ _ _ rfl g4 2 rfl [.int .u8 (p.toNat : Int)] _ rfl rfl siz8 29 _ HM.out (show 2 + 1 ≤ 7 from by decide) (by intro u hu; simp at hu; subst hu; rfl) ?_; intro w6 hb hks hz; simp only [Act.put])
              | fail)
            go_roundw
            case rel =>
              exact ⟨1, by omega, rfl, hb, HB.out.kept hks (fun hf => by have := HG5.out; cases hf; omega), HY.out.kept hks (fun i hi hf => by have := HLT.out i hi; have := HG5.out; cases hf; omega), HC.out.kept hks (fun i hi hf => by have := HCL.out i hi; have := HG5.out; cases hf; omega), HK.out.fresh hks (fun i hi => by have := HG5.out; have := HLO.out; cases hi; omega)⟩
            case measure => simp [intOf]
          · have y0 := byt_ge HY.out 5 q rfl
            have n0 : 5 < n := by omega
            go_wp2_with (first
              | (refine wpList_st rfl _ _ _ rfl g4 3 rfl [.int .u8 (q.toNat : Int)] _ rfl rfl siz8 29 _ HM.out (show 3 + 1 ≤ 7 from by decide) (by intro u hu; simp at hu; subst hu; rfl) ?_; intro w6 hb hks hz; simp only [Act.put])
              | fail)
            go_roundw
            case rel =>
              exact ⟨2, by omega, rfl, hb, HB.out.kept hks (fun hf => by have := HG5.out; cases hf; omega), HY.out.kept hks (fun i hi hf => by have := HLT.out i hi; have := HG5.out; cases hf; omega), HC.out.kept hks (fun i hi hf => by have := HCL.out i hi; have := HG5.out; cases hf; omega), HK.out.fresh hks (fun i hi => by have := HG5.out; have := HLO.out; cases hi; omega)⟩
            case measure => simp [intOf]
          · have y0 := byt_ge HY.out 6 r rfl
            have n0 : 6 < n := by omega
            go_wp2_with (first
              | (refine wpList_st rfl _ _ _ rfl g4 4 rfl [.int .u8 (r.toNat : Int)] _ rfl rfl siz8 29 _ HM.out (show 4 + 1 ≤ 7 from by decide) (by intro u hu; simp at hu; subst hu; rfl) ?_; intro w6 hb hks hz; simp only [Act.put])
              | fail)
            go_roundw
            case rel =>
              exact ⟨3, by omega, rfl, hb, HB.out.kept hks (fun hf => by have := HG5.out; cases hf; omega), HY.out.kept hks (fun i hi hf => by have := HLT.out i hi; have := HG5.out; cases hf; omega), HC.out.kept hks (fun i hi hf => by have := HCL.out i hi; have := HG5.out; cases hf; omega), HK.out.fresh hks (fun i hi => by have := HG5.out; have := HLO.out; cases hi; omega)⟩
            case measure => simp [intOf]
          · have y0 := byt_ge HY.out 7 s rfl
            have n0 : 7 < n := by omega
            go_wp2_with (first
              | (refine wpList_st rfl _ _ _ rfl g4 5 rfl [.int .u8 (s.toNat : Int)] _ rfl rfl siz8 29 _ HM.out (show 5 + 1 ≤ 7 from by decide) (by intro u hu; simp at hu; subst hu; rfl) ?_; intro w6 hb hks hz; simp only [Act.put])
              | fail)
            go_roundw
            case rel =>
              exact ⟨4, by omega, rfl, hb, HB.out.kept hks (fun hf => by have := HG5.out; cases hf; omega), HY.out.kept hks (fun i hi hf => by have := HLT.out i hi; have := HG5.out; cases hf; omega), HC.out.kept hks (fun i hi hf => by have := HCL.out i hi; have := HG5.out; cases hf; omega), HK.out.fresh hks (fun i hi => by have := HG5.out; have := HLO.out; cases hi; omega)⟩
            case measure => simp [intOf]
          · go_wp2_with (first
              | (refine wpList_ld rfl _ _ rfl g4 0 rfl (ics ⟨t, cd, p, q, r, s, body⟩ A8 n8 c8) (MB.all HM.out) _ Try.underlying29 rfl (infMr _ _ _ _) ?_; simp only [Act.put, List.setIfInBounds_toArray, List.set_cons_succ, List.set_cons_zero])
              | (refine wpList_st rfl _ (.tmp 2) _ rfl g2 0 rfl (ics ⟨t, cd, p, q, r, s, body⟩ A8 n8 c8) _ rfl rfl (infMr _ _ _ _) 29 _ HB.out (by rw [ics_len, ics_len]; omega) (ics_one _ _ _ _) ?_; intro w11 hb hks hz; simp only [Act.put])
              | fail)
            have h2 : MB w11 g2 29 ⟨t, cd, p, q, r, s, body⟩ A8 n8 c8 := hb
            refine bodyPost_ret (res_cell1 Try.results9 rfl rfl h2.all Try.underlying29 rfl (infMr _ _ _ _)) rfl ?_
            rw [HG.out]
            exact ⟨A8, n8, c8, rfl, HC.out.kept hks (fun i hi hf => by have := HCL.out i hi; cases hf; omega), HK.out.fresh hks (fun i hi => by cases hi; exact HLO.out)⟩
    · have hs' : ((sm : Int) != 0) = true := by simp [hs]
      have HG := Lib.hid (HSM.out (by have := HLL.out; have := HN8.out; omega) (by rw [HSMM.out]; exact hs))
      clear hs HEI HOK HSM HSMM
      go_wp2_with (first
        | (refine wpList_st rfl _ (.tmp 2) _ rfl g2 0 rfl (ics Ms.zero none 0 0) _ rfl rfl (infMr _ _ _ _) 29 _ HB1.out (by rw [ics_len]; omega) (ics_one _ _ _ _) ?_; intro w2 hb hk hz; simp only [Act.put])
        | fail)
      have h2 : MB w2 g2 29 Ms.zero none 0 0 := hb
      refine bodyPost_ret (res_cell1 Try.results9 rfl rfl h2.all Try.underlying29 rfl (infMr _ _ _ _)) rfl ?_
      exact HRES.out 21 _ HG.out (HK1.out.fresh hk (fun i hi => by cases hi; exact HLO.out))
end Go.Proofs.Ytkpelaojjfcpfaa
