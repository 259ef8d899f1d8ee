/- tollref10: contracts of number, Get. -/
import Derived.Test.YtbkjobmjapbmpaaBpA
import Derived.Test.YtbkjobmjapbmpaaCutC
import Derived.Test.YtbkjobmjapbmpaaLib
import Derived.IntWalk
import Derived.Lib.Hide
namespace Go.Proofs.Ytbkjobmjapbmpaa
open Go.RowKit Go.Sort
set_option linter.unusedVariables false

theorem bnum_yes (A : Option Addr) (n c : Nat) (l : List UInt8) (w : World) (h : Byt w A n c l) (hn : n ≤ 8) : Calls Try.prog 60 #[.slice A n c] w fun e w' => e = .returned (.int .u64 (numM l : Int)) ∧ w = w' := by
  have hnc := h.2.1
  have hcc := h.2.2.1
  have HL := Lib.hid h.1
  have HB := Lib.hid h
  clear h
  go_enter Try.func60, Try.ntmps60
  go_wp2
  go_loop [3, 4] (fun t i => ∃ k : Nat, k ≤ n ∧ i = .int .i64 (k : Int) ∧ t = .int .u64 (numM (l.take k) : Int)) (fun _ i => n - (intOf i).toNat)
  case atStart => exact ⟨0, Nat.zero_le _, rfl, rfl⟩
  case round =>
    obtain ⟨k, hk, rfl, rfl⟩ := hrel
    by_cases hlt : k < n
    · have hlt2 : numM (l.take k) < 72057594037927936 := by
        have h1 := numM_lt (l.take k)
        have h2 : (256 : Nat) ^ (l.take k).length ≤ 256 ^ 7 := Nat.pow_le_pow_right (by omega) (by simp; omega)
        omega
      have hkl : k < l.length := by rw [HL.out]; exact hlt
      obtain ⟨b, o, rfl, hcell⟩ := HB.out.at (i := k) hkl
      have HS := Lib.hid (show numM (l.take (k + 1)) = numM (l.take k) * 256 + l[k].toNat by rw [List.take_succ_eq_append_getElem hkl, numM_snoc])
      obtain ⟨x, hx⟩ : ∃ x, l[k] = x := ⟨_, rfl⟩
      have hxl := x.toNat_lt
      rw [hx] at hcell HS
      obtain ⟨N, hN⟩ : ∃ N, numM (l.take k) = N := ⟨_, rfl⟩
      rw [hN] at HS hlt2 ⊢
      clear hN hx
      go_wp2
      go_round
      case rel => exact ⟨k + 1, by omega, by go_num, by rw [HS.out]; go_num⟩
      case measure => simp [intOf]; omega
    · have hkm : k = n := by omega
      have ht : l.take k = l := by rw [List.take_of_length_le]; rw [HL.out]; omega
      rw [ht]
      clear ht
      go_wp2
      go_ret
      exact ⟨rfl, rfl⟩
/-- A number of the bytes from lo to hi. -/
def sgB (b : List UInt8) (lo hi : Nat) : Nat := numM ((b.take hi).drop lo)
def rdB (k : Int) (b : List UInt8) : Bp := ⟨k, sgB b 4 5, sgB b 5 13, sgB b 17 25, sgB b 13 17, sgB b 25 27, sgB b 27 29, sgB b 29 31, sgB b 31 33, sgB b 33 35⟩
def finB (k : Int) (many : Nat) (b : List UInt8) : Bp × Int := if b.length < many then (Bp.zero, 4) else if (rdB k b).ma ≤ (rdB k b).ag ∨ (many = 36 ∧ sgB b 35 36 ≠ 0) then (Bp.zero, 5) else (rdB k b, 0)
def getB (b : List UInt8) : Bp × Int :=
  if b.length < 4 then (Bp.zero, 4) else if sgB b 0 1 ≠ 0 ∨ sgB b 1 2 ≠ 0 then (Bp.zero, 5) else
    if sgB b 2 3 = 0 ∧ sgB b 3 4 = 128 then (Bp.chg, 0) else if sgB b 2 3 = 0 ∧ sgB b 3 4 = 0 then finB 1 35 b else if sgB b 2 3 = 2 ∧ sgB b 3 4 = 2 then finB 3 36 b else (Bp.zero, 5)
theorem sg_one (b : List UInt8) (k : Nat) (h : k < b.length) : (b[k].toNat : Int) = (sgB b k (k + 1) : Int) := by
  unfold sgB
  rw [List.take_succ_eq_append_getElem h, List.drop_append_of_le_length (by simp; omega), List.drop_of_length_le (by simp; omega), List.nil_append]
  simp [numM]
theorem sg_lt (b : List UInt8) (lo hi wd : Nat) (h : hi - lo ≤ wd) : sgB b lo hi < 256 ^ wd := by
  unfold sgB
  have h1 := numM_lt ((b.take hi).drop lo)
  have h2 : (256 : Nat) ^ ((b.take hi).drop lo).length ≤ 256 ^ wd := Nat.pow_le_pow_right (by omega) (by simp; omega)
  omega
theorem rdB_ok (k : Int) (b : List UInt8) (h0 : -9223372036854775808 ≤ k) (h1 : k ≤ 9223372036854775807) : (rdB k b).ok := ⟨h0, h1, sg_lt _ _ _ 1 (by decide), sg_lt _ _ _ 8 (by decide), sg_lt _ _ _ 8 (by decide), sg_lt _ _ _ 4 (by decide), sg_lt _ _ _ 2 (by decide), sg_lt _ _ _ 2 (by decide), sg_lt _ _ _ 2 (by decide), sg_lt _ _ _ 2 (by decide), sg_lt _ _ _ 2 (by decide)⟩
theorem getB_ok (b : List UInt8) : (getB b).1.ok := by
  have hf : ∀ k many, -9223372036854775808 ≤ k → k ≤ 9223372036854775807 → (finB k many b).1.ok := by
    intro k many h0 h1
    unfold finB
    split
    · exact Bp.zero_ok
    · split
      · exact Bp.zero_ok
      · exact rdB_ok k b h0 h1
  unfold getB
  split
  · exact Bp.zero_ok
  · split
    · exact Bp.zero_ok
    · split
      · exact Bp.chg_ok
      · split
        · exact hf 1 35 (by decide) (by decide)
        · split
          · exact hf 3 36 (by decide) (by decide)
          · exact Bp.zero_ok
theorem infI1 : (Try.prog.info? 5).map (·.size) = some [Value.int .u8 0].length := by kernel_rfl
theorem inf_w8 (v : Value) : (Try.prog.info? 5).map (·.size) = some [v].length := by show _ = some 1; kernel_rfl
theorem inf_w16 (v : Value) : (Try.prog.info? 24).map (·.size) = some [v].length := by show _ = some 1; kernel_rfl
theorem inf_w32 (v : Value) : (Try.prog.info? 23).map (·.size) = some [v].length := by show _ = some 1; kernel_rfl
theorem inf_w64 (v : Value) : (Try.prog.info? 22).map (·.size) = some [v].length := by show _ = some 1; kernel_rfl
theorem inf_wi (v : Value) : (Try.prog.info? 3).map (·.size) = some [v].length := by show _ = some 1; kernel_rfl
theorem one1 {v : Value} (h : v.oneCell' = true) : ∀ u ∈ [v], u.oneCell' = true := by intro u hu; simp at hu; subst hu; exact h

set_option maxRecDepth 100000 in
set_option maxHeartbeats 8000000 in
theorem bget_yes (A : Option Addr) (n c : Nat) (b : List UInt8) (w : World) (hy : Byt w A n c b) : Calls Try.prog 21 #[.slice A n c] w fun e w' => e = .returned (.tuple #[bpv (getB b).1, .int .i64 (getB b).2]) ∧ Kept Nil w w' := by
  have hZ := BPB.new w 39 Bp.zero
  have hY := hy.kept ((Kept.refl Nil w).alloc (.cells (bpl Bp.zero).toArray 39)) (fun _ _ hf => hf)
  go_enter Try.func21, Try.ntmps21
  go_upto_region 1 with (fail)
  refine wp_nameE (fun W => BPB W w.heap.size 39 Bp.zero ∧ Byt W A n c b ∧ Kept Nil w W) ⟨hZ, hY, (Kept.refl Nil w).alloc _⟩ ?_
  clear hZ hY hy
  rintro W ⟨hZ, hY, hk⟩
  have HZ := Lib.hid hZ
  have HY := Lib.hid hY
  have HK := Lib.hid hk
  obtain ⟨gz, hgz⟩ : ∃ x, w.heap.size = x := ⟨_, rfl⟩
  rw [hgz] at HZ ⊢
  have HGZ := Lib.hid hgz
  have HL := Lib.hid hY.1
  have HZW := Lib.hid (show gz < W.heap.size from HZ.out.lt)
  have HYW := Lib.hid (show ∀ i, Lies A n i → i < W.heap.size from fun i hi => hY.lt i hi)
  have hnc := hY.2.1
  have hcc := hY.2.2.1
  clear hZ hY hk hgz
  by_cases h4 : n < 4
  · have hi4 : (n : Int) < 4 := by omega
    have HG := Lib.hid (show getB b = (Bp.zero, 4) by unfold getB; rw [if_pos (by have := HL.out; omega)])
    clear h4
    go_wp2_with (first
      | (refine wpList_st rfl 39 (.tmp 2) _ rfl _ 0 rfl (bpl Bp.zero) _ rfl rfl (infBr _) 39 (bpl Bp.zero) HZ.out (by show 0 + 10 ≤ 10; decide) (bpl_one _) ?_; intro w30 hb30 hk30 hz30)
      | fail)
    have h2 := BPB.of_all (m := Bp.zero) (m' := Bp.zero) hb30
    refine bodyPost_ret (res_cell1 Try.results21 rfl rfl h2.all Try.underlying39 rfl (infBr _)) rfl ⟨by rw [HG.out]; rfl, ?_⟩
    exact HK.out.fresh hk30 (fun i hi => by cases hi; have := HGZ.out; omega)
  · have hi4 : ¬ (n : Int) < 4 := by omega
    have hL := HL.out
    have HG := Lib.hid (show getB b = if sgB b 0 1 ≠ 0 ∨ sgB b 1 2 ≠ 0 then (Bp.zero, 5) else if sgB b 2 3 = 0 ∧ sgB b 3 4 = 128 then (Bp.chg, 0) else if sgB b 2 3 = 0 ∧ sgB b 3 4 = 0 then finB 1 35 b else if sgB b 2 3 = 2 ∧ sgB b 3 4 = 2 then finB 3 36 b else (Bp.zero, 5) by rw [getB, if_neg (by omega)])
    obtain ⟨bk, oo, rfl, hcl⟩ := HY.out.2.2.2 (by omega)
    have n0 : 0 < n := by omega
    have n1 : 1 < n := by omega
    have n2 : 2 < n := by omega
    have n3 : 3 < n := by omega
    have l0 : W.cell? ⟨bk, oo, none⟩ = some (.int .u8 (sgB b 0 1 : Int)) := by have := hcl 0 (by omega); rwa [sg_one, Nat.add_zero] at this
    have l1 : W.cell? ⟨bk, oo + 1, none⟩ = some (.int .u8 (sgB b 1 2 : Int)) := by have := hcl 1 (by omega); rwa [sg_one] at this
    have l2 : W.cell? ⟨bk, oo + 2, none⟩ = some (.int .u8 (sgB b 2 3 : Int)) := by have := hcl 2 (by omega); rwa [sg_one] at this
    have l3 : W.cell? ⟨bk, oo + 3, none⟩ = some (.int .u8 (sgB b 3 4 : Int)) := by have := hcl 3 (by omega); rwa [sg_one] at this
    clear hcl hL
    generalize sgB b 0 1 = x0 at *
    generalize sgB b 1 2 = x1 at *
    generalize sgB b 2 3 = x2 at *
    generalize sgB b 3 4 = x3 at *
    by_cases h01 : x0 ≠ 0 ∨ x1 ≠ 0
    · rw [if_pos h01] at HG
      by_cases h0 : x0 = 0
      · have i0 : ((x0 : Int) != 0) = false := by simp [h0]
        have i1 : ((x1 : Int) != 0) = true := by simp; omega
        clear h01 h0
        go_wp2_with (first
          | (refine wpList_st rfl 39 (.tmp 2) _ rfl _ 0 rfl (bpl Bp.zero) _ rfl rfl (infBr _) 39 (bpl Bp.zero) HZ.out (by show 0 + 10 ≤ 10; decide) (bpl_one _) ?_; intro w30 hb30 hk30 hz30)
          | fail)
        have h2 := BPB.of_all (m := Bp.zero) (m' := Bp.zero) hb30
        refine bodyPost_ret (res_cell1 Try.results21 rfl rfl h2.all Try.underlying39 rfl (infBr _)) rfl ⟨by rw [HG.out]; rfl, ?_⟩
        exact HK.out.fresh hk30 (fun i hi => by cases hi; have := HGZ.out; omega)
      · have i0 : ((x0 : Int) != 0) = true := by simp; omega
        clear h01 h0
        go_wp2_with (first
          | (refine wpList_st rfl 39 (.tmp 2) _ rfl _ 0 rfl (bpl Bp.zero) _ rfl rfl (infBr _) 39 (bpl Bp.zero) HZ.out (by show 0 + 10 ≤ 10; decide) (bpl_one _) ?_; intro w30 hb30 hk30 hz30)
          | fail)
        have h2 := BPB.of_all (m := Bp.zero) (m' := Bp.zero) hb30
        refine bodyPost_ret (res_cell1 Try.results21 rfl rfl h2.all Try.underlying39 rfl (infBr _)) rfl ⟨by rw [HG.out]; rfl, ?_⟩
        exact HK.out.fresh hk30 (fun i hi => by cases hi; have := HGZ.out; omega)
    · have i0 : ((x0 : Int) != 0) = false := by simp; omega
      have i1 : ((x1 : Int) != 0) = false := by simp; omega
      rw [if_neg h01] at HG
      clear h01
      by_cases hch : x2 = 0 ∧ x3 = 128
      · rw [if_pos hch] at HG
        have i2 : ((x2 : Int) == 0) = true := by simp [hch.1]
        have i3 : ((x3 : Int) == 128) = true := by simp; omega
        clear hch
        go_wp2_with (first
          | (refine wpList_st rfl 39 (.tmp 2) _ rfl _ 0 rfl (bpl Bp.chg) _ rfl rfl (infBr _) 39 (bpl Bp.zero) HZ.out (by show 0 + 10 ≤ 10; decide) (bpl_one _) ?_; intro w30 hb30 hk30 hz30)
          | fail)
        have h2 := BPB.of_all (m := Bp.zero) (m' := Bp.chg) hb30
        refine bodyPost_ret (res_cell1 Try.results21 rfl rfl h2.all Try.underlying39 rfl (infBr _)) rfl ⟨by rw [HG.out]; rfl, ?_⟩
        exact HK.out.fresh hk30 (fun i hi => by cases hi; have := HGZ.out; omega)
      · rw [if_neg hch] at HG
        have hyps : (x2 = 0 ∧ x3 = 0) ∨ (x2 = 2 ∧ x3 = 2) ∨ (x2 = 0 ∧ x3 ≠ 0 ∧ x3 ≠ 128) ∨ (x2 = 2 ∧ x3 ≠ 2) ∨ (x2 ≠ 0 ∧ x2 ≠ 2) := by omega
        have HH := Lib.hid hch
        clear hch
        rcases hyps with ⟨rfl, rfl⟩ | ⟨rfl, rfl⟩ | ⟨rfl, q1, q2⟩ | ⟨rfl, q1⟩ | ⟨q1, q2⟩
        · have i2 : (((0 : Nat) : Int) == 0) = true := by decide
          have i3 : (((0 : Nat) : Int) == 128) = false := by decide
          replace HG := Lib.hid (show getB b = finB 1 35 b by rw [HG.out]; simp [])
          have hB := BPB.new W 39 Bp.zero
          go_upto_region 8 with (first
            | (refine wpList_st rfl 39 (.tmp 4) _ rfl _ 0 rfl (bpl Bp.zero) _ rfl rfl (infBr _) 39 (bpl Bp.zero) hB (by show 0 + 10 ≤ 10; decide) (bpl_one _) ?_; intro w1 hb1 hk1 hz1; simp only [Act.put, List.setIfInBounds_toArray, List.set_cons_succ, List.set_cons_zero])
            | fail)
          have HB := Lib.hid (BPB.of_all (m := Bp.zero) (m' := Bp.zero) hb1)
          have hk1 := ((Kept.refl Nil W).alloc (.cells (bpl Bp.zero).toArray 39)).fresh hk1 (fun i hi => by cases hi; exact Nat.le_refl _)
          have HZ := Lib.hid (HZ.out.kept hk1 (fun hf => hf))
          have hzl : gz < W.heap.size := HZW.out
          have HK0 := HK
          have HK := Lib.hid (HK.out.then hk1)
          have HY := Lib.hid (HY.out.kept hk1 (fun _ _ hf => hf))
          have l2 := hk1.cell l2 (fun hf => hf)
          have l3 := hk1.cell l3 (fun hf => hf)
          have HYL := Lib.hid (show ∀ i, Lies (some ⟨bk, oo, none⟩) n i → i < W.heap.size from HYW.out)
          have HW0 := Lib.hid (show w.heap.size ≤ W.heap.size from HK0.out.size)
          obtain ⟨g4, hg4⟩ : ∃ x, W.heap.size = x := ⟨_, rfl⟩
          rw [hg4] at HB hzl HYL HW0 ⊢
          have HZL := Lib.hid hzl
          clear hb1 hk1 hz1 hzl hB hg4 HK0
          go_upto_region 15 with (first
            | (refine wpList_st rfl 3 (.tmp 43) _ rfl g4 0 rfl [.int .i64 1] _ rfl rfl (inf_wi _) 39 (bpl Bp.zero) HB.out (by show 0 + 1 ≤ 10; decide) (one1 rfl) ?_; intro w2 hb2 hk2 hz2; simp only [Act.put, List.setIfInBounds_toArray, List.set_cons_succ, List.set_cons_zero])
            | fail)
          have HB := Lib.hid (show BPB w2 g4 39 ⟨1, 0, 0, 0, 0, 0, 0, 0, 0, 0⟩ from hb2)
          have HZ := Lib.hid (HZ.out.kept hk2 (fun hf => absurd hf (by have := HZL.out; unfold One; omega)))
          have HY := Lib.hid (HY.out.kept hk2 (fun i hi hf => by have := HYL.out i hi; cases hf; omega))
          have HK := Lib.hid (HK.out.fresh hk2 (fun i hi => by cases hi; exact HW0.out))
          clear hb2 hk2 hz2 l0 l1 l2 l3
          by_cases hmy : n < 35
          · have im : (n : Int) < 35 := by omega
            replace HG := Lib.hid (show getB b = (Bp.zero, 4) by rw [HG.out, finB, if_pos (by have := HL.out; omega)])
            clear hmy
            go_wp2_with (first
              | (refine wpList_st rfl 39 (.tmp 2) _ rfl _ 0 rfl (bpl Bp.zero) _ rfl rfl (infBr _) 39 (bpl Bp.zero) HZ.out (by show 0 + 10 ≤ 10; decide) (bpl_one _) ?_; intro w30 hb30 hk30 hz30)
              | fail)
            have h2 := BPB.of_all (m := Bp.zero) (m' := Bp.zero) hb30
            refine bodyPost_ret (res_cell1 Try.results21 rfl rfl h2.all Try.underlying39 rfl (infBr _)) rfl ⟨by rw [HG.out]; rfl, ?_⟩
            exact HK.out.fresh hk30 (fun i hi => by cases hi; have := HGZ.out; omega)
          · have im : ¬ (n : Int) < 35 := by omega
            replace HG := Lib.hid (show getB b = if (rdB 1 b).ma ≤ (rdB 1 b).ag ∨ (35 = 36 ∧ sgB b 35 36 ≠ 0) then (Bp.zero, 5) else (rdB 1 b, 0) by rw [HG.out, finB, if_neg (by have := HL.out; omega)])
            have HR := Lib.hid (show rdB 1 b = ⟨1, sgB b 4 5, sgB b 5 13, sgB b 17 25, sgB b 13 17, sgB b 25 27, sgB b 27 29, sgB b 29 31, sgB b 31 33, sgB b 33 35⟩ from rfl)
            have hcc4 : 35 ≤ c := by omega
            obtain ⟨bk2, oo2, hpe, hcl⟩ := HY.out.2.2.2 (by omega)
            cases hpe
            have l4 := hcl 4 (by have := HL.out; omega)
            rw [sg_one] at l4
            clear hcl
            have hf1 : sgB b 4 5 < 256 := sg_lt b 4 5 1 (by decide)
            obtain ⟨f1, hfe⟩ : ∃ x, sgB b 4 5 = x := ⟨_, rfl⟩
            rw [hfe] at l4 hf1
            have HF1 := Lib.hid hfe
            clear hfe
            go_upto_region 18 with (first
              | (refine wpList_st rfl 5 (.tmp 64) _ rfl g4 1 rfl [.int .u8 (f1 : Int)] _ rfl rfl (inf_w8 _) 39 (bpl ⟨1, 0, 0, 0, 0, 0, 0, 0, 0, 0⟩) HB.out (by show 1 + 1 ≤ 10; decide) (one1 rfl) ?_; intro w4 hb hk hz; simp only [Act.put, List.setIfInBounds_toArray, List.set_cons_succ, List.set_cons_zero])
              | fail)
            have HB := Lib.hid (show BPB w4 g4 39 ⟨1, f1, 0, 0, 0, 0, 0, 0, 0, 0⟩ from hb)
            have HZ := Lib.hid (HZ.out.kept hk (fun hf => absurd hf (by have := HZL.out; unfold One; omega)))
            have HY := Lib.hid (HY.out.kept hk (fun i hi hf => by have := HYL.out i hi; cases hf; omega))
            have HK := Lib.hid (HK.out.fresh hk (fun i hi => by cases hi; exact HW0.out))
            clear hb hk hz l4
            have hcut := run_cut (P := Try.prog) Try.underlying31 inf5.1 inf5.2 (some ⟨bk, oo, none⟩) n c 5 13 5 13 rfl rfl (by decide) (by omega)
            go_wp2_with (fail)
            refine (bnum_yes _ 8 _ ((b.take 13).drop 5) _ (HY.out.cut (lo := 5) (hi := 13) (by decide) (by omega)) (by decide)).mono ?_
            rintro e w5 ⟨rfl, rfl⟩
            have hf2 : sgB b 5 13 < 18446744073709551616 := sg_lt b 5 13 8 (by decide)
            rw [show numM ((b.take 13).drop 5) = sgB b 5 13 from rfl]
            obtain ⟨f2, hfe⟩ : ∃ x, sgB b 5 13 = x := ⟨_, rfl⟩
            rw [hfe] at hf2 ⊢
            have HF2 := Lib.hid hfe
            clear hfe hcut
            dsimp only
            go_upto_region 19 with (first
              | (refine wpList_st rfl 22 (.tmp 68) _ rfl g4 2 rfl [.int .u64 (f2 : Int)] _ rfl rfl (inf_w64 _) 39 (bpl ⟨1, f1, 0, 0, 0, 0, 0, 0, 0, 0⟩) HB.out (by show 2 + 1 ≤ 10; decide) (one1 rfl) ?_; intro w6 hb hk hz; simp only [Act.put, List.setIfInBounds_toArray, List.set_cons_succ, List.set_cons_zero])
              | fail)
            have HB := Lib.hid (show BPB w6 g4 39 ⟨1, f1, f2, 0, 0, 0, 0, 0, 0, 0⟩ from hb)
            have HZ := Lib.hid (HZ.out.kept hk (fun hf => absurd hf (by have := HZL.out; unfold One; omega)))
            have HY := Lib.hid (HY.out.kept hk (fun i hi hf => by have := HYL.out i hi; cases hf; omega))
            have HK := Lib.hid (HK.out.fresh hk (fun i hi => by cases hi; exact HW0.out))
            clear hb hk hz
            have hcut := run_cut (P := Try.prog) Try.underlying31 inf5.1 inf5.2 (some ⟨bk, oo, none⟩) n c 13 17 13 17 rfl rfl (by decide) (by omega)
            go_wp2_with (fail)
            refine (bnum_yes _ 4 _ ((b.take 17).drop 13) _ (HY.out.cut (lo := 13) (hi := 17) (by decide) (by omega)) (by decide)).mono ?_
            rintro e w7 ⟨rfl, rfl⟩
            have hf4 : sgB b 13 17 < 4294967296 := sg_lt b 13 17 4 (by decide)
            rw [show numM ((b.take 17).drop 13) = sgB b 13 17 from rfl]
            obtain ⟨f4, hfe⟩ : ∃ x, sgB b 13 17 = x := ⟨_, rfl⟩
            rw [hfe] at hf4 ⊢
            have HF4 := Lib.hid hfe
            clear hfe hcut
            dsimp only
            go_upto_region 20 with (first
              | (refine wpList_st rfl 23 (.tmp 73) _ rfl g4 4 rfl [.int .u32 (f4 : Int)] _ rfl rfl (inf_w32 _) 39 (bpl ⟨1, f1, f2, 0, 0, 0, 0, 0, 0, 0⟩) HB.out (by show 4 + 1 ≤ 10; decide) (one1 rfl) ?_; intro w8 hb hk hz; simp only [Act.put, List.setIfInBounds_toArray, List.set_cons_succ, List.set_cons_zero])
              | fail)
            have HB := Lib.hid (show BPB w8 g4 39 ⟨1, f1, f2, 0, f4, 0, 0, 0, 0, 0⟩ from hb)
            have HZ := Lib.hid (HZ.out.kept hk (fun hf => absurd hf (by have := HZL.out; unfold One; omega)))
            have HY := Lib.hid (HY.out.kept hk (fun i hi hf => by have := HYL.out i hi; cases hf; omega))
            have HK := Lib.hid (HK.out.fresh hk (fun i hi => by cases hi; exact HW0.out))
            clear hb hk hz
            have hcut := run_cut (P := Try.prog) Try.underlying31 inf5.1 inf5.2 (some ⟨bk, oo, none⟩) n c 17 25 17 25 rfl rfl (by decide) (by omega)
            go_wp2_with (fail)
            refine (bnum_yes _ 8 _ ((b.take 25).drop 17) _ (HY.out.cut (lo := 17) (hi := 25) (by decide) (by omega)) (by decide)).mono ?_
            rintro e w9 ⟨rfl, rfl⟩
            have hf3 : sgB b 17 25 < 18446744073709551616 := sg_lt b 17 25 8 (by decide)
            rw [show numM ((b.take 25).drop 17) = sgB b 17 25 from rfl]
            obtain ⟨f3, hfe⟩ : ∃ x, sgB b 17 25 = x := ⟨_, rfl⟩
            rw [hfe] at hf3 ⊢
            have HF3 := Lib.hid hfe
            clear hfe hcut
            dsimp only
            go_upto_region 21 with (first
              | (refine wpList_st rfl 22 (.tmp 77) _ rfl g4 3 rfl [.int .u64 (f3 : Int)] _ rfl rfl (inf_w64 _) 39 (bpl ⟨1, f1, f2, 0, f4, 0, 0, 0, 0, 0⟩) HB.out (by show 3 + 1 ≤ 10; decide) (one1 rfl) ?_; intro w10 hb hk hz; simp only [Act.put, List.setIfInBounds_toArray, List.set_cons_succ, List.set_cons_zero])
              | fail)
            have HB := Lib.hid (show BPB w10 g4 39 ⟨1, f1, f2, f3, f4, 0, 0, 0, 0, 0⟩ from hb)
            have HZ := Lib.hid (HZ.out.kept hk (fun hf => absurd hf (by have := HZL.out; unfold One; omega)))
            have HY := Lib.hid (HY.out.kept hk (fun i hi hf => by have := HYL.out i hi; cases hf; omega))
            have HK := Lib.hid (HK.out.fresh hk (fun i hi => by cases hi; exact HW0.out))
            clear hb hk hz
            have hcut := run_cut (P := Try.prog) Try.underlying31 inf5.1 inf5.2 (some ⟨bk, oo, none⟩) n c 25 27 25 27 rfl rfl (by decide) (by omega)
            go_wp2_with (fail)
            refine (bnum_yes _ 2 _ ((b.take 27).drop 25) _ (HY.out.cut (lo := 25) (hi := 27) (by decide) (by omega)) (by decide)).mono ?_
            rintro e w11 ⟨rfl, rfl⟩
            have hf5 : sgB b 25 27 < 65536 := sg_lt b 25 27 2 (by decide)
            rw [show numM ((b.take 27).drop 25) = sgB b 25 27 from rfl]
            obtain ⟨f5, hfe⟩ : ∃ x, sgB b 25 27 = x := ⟨_, rfl⟩
            rw [hfe] at hf5 ⊢
            have HF5 := Lib.hid hfe
            clear hfe hcut
            dsimp only
            go_upto_region 22 with (first
              | (refine wpList_st rfl 24 (.tmp 82) _ rfl g4 5 rfl [.int .u16 (f5 : Int)] _ rfl rfl (inf_w16 _) 39 (bpl ⟨1, f1, f2, f3, f4, 0, 0, 0, 0, 0⟩) HB.out (by show 5 + 1 ≤ 10; decide) (one1 rfl) ?_; intro w12 hb hk hz; simp only [Act.put, List.setIfInBounds_toArray, List.set_cons_succ, List.set_cons_zero])
              | fail)
            have HB := Lib.hid (show BPB w12 g4 39 ⟨1, f1, f2, f3, f4, f5, 0, 0, 0, 0⟩ from hb)
            have HZ := Lib.hid (HZ.out.kept hk (fun hf => absurd hf (by have := HZL.out; unfold One; omega)))
            have HY := Lib.hid (HY.out.kept hk (fun i hi hf => by have := HYL.out i hi; cases hf; omega))
            have HK := Lib.hid (HK.out.fresh hk (fun i hi => by cases hi; exact HW0.out))
            clear hb hk hz
            have hcut := run_cut (P := Try.prog) Try.underlying31 inf5.1 inf5.2 (some ⟨bk, oo, none⟩) n c 27 29 27 29 rfl rfl (by decide) (by omega)
            go_wp2_with (fail)
            refine (bnum_yes _ 2 _ ((b.take 29).drop 27) _ (HY.out.cut (lo := 27) (hi := 29) (by decide) (by omega)) (by decide)).mono ?_
            rintro e w13 ⟨rfl, rfl⟩
            have hf6 : sgB b 27 29 < 65536 := sg_lt b 27 29 2 (by decide)
            rw [show numM ((b.take 29).drop 27) = sgB b 27 29 from rfl]
            obtain ⟨f6, hfe⟩ : ∃ x, sgB b 27 29 = x := ⟨_, rfl⟩
            rw [hfe] at hf6 ⊢
            have HF6 := Lib.hid hfe
            clear hfe hcut
            dsimp only
            go_upto_region 23 with (first
              | (refine wpList_st rfl 24 (.tmp 87) _ rfl g4 6 rfl [.int .u16 (f6 : Int)] _ rfl rfl (inf_w16 _) 39 (bpl ⟨1, f1, f2, f3, f4, f5, 0, 0, 0, 0⟩) HB.out (by show 6 + 1 ≤ 10; decide) (one1 rfl) ?_; intro w14 hb hk hz; simp only [Act.put, List.setIfInBounds_toArray, List.set_cons_succ, List.set_cons_zero])
              | fail)
            have HB := Lib.hid (show BPB w14 g4 39 ⟨1, f1, f2, f3, f4, f5, f6, 0, 0, 0⟩ from hb)
            have HZ := Lib.hid (HZ.out.kept hk (fun hf => absurd hf (by have := HZL.out; unfold One; omega)))
            have HY := Lib.hid (HY.out.kept hk (fun i hi hf => by have := HYL.out i hi; cases hf; omega))
            have HK := Lib.hid (HK.out.fresh hk (fun i hi => by cases hi; exact HW0.out))
            clear hb hk hz
            have hcut := run_cut (P := Try.prog) Try.underlying31 inf5.1 inf5.2 (some ⟨bk, oo, none⟩) n c 29 31 29 31 rfl rfl (by decide) (by omega)
            go_wp2_with (fail)
            refine (bnum_yes _ 2 _ ((b.take 31).drop 29) _ (HY.out.cut (lo := 29) (hi := 31) (by decide) (by omega)) (by decide)).mono ?_
            rintro e w15 ⟨rfl, rfl⟩
            have hf7 : sgB b 29 31 < 65536 := sg_lt b 29 31 2 (by decide)
            rw [show numM ((b.take 31).drop 29) = sgB b 29 31 from rfl]
            obtain ⟨f7, hfe⟩ : ∃ x, sgB b 29 31 = x := ⟨_, rfl⟩
            rw [hfe] at hf7 ⊢
            have HF7 := Lib.hid hfe
            clear hfe hcut
            dsimp only
            go_upto_region 24 with (first
              | (refine wpList_st rfl 24 (.tmp 92) _ rfl g4 7 rfl [.int .u16 (f7 : Int)] _ rfl rfl (inf_w16 _) 39 (bpl ⟨1, f1, f2, f3, f4, f5, f6, 0, 0, 0⟩) HB.out (by show 7 + 1 ≤ 10; decide) (one1 rfl) ?_; intro w16 hb hk hz; simp only [Act.put, List.setIfInBounds_toArray, List.set_cons_succ, List.set_cons_zero])
              | fail)
            have HB := Lib.hid (show BPB w16 g4 39 ⟨1, f1, f2, f3, f4, f5, f6, f7, 0, 0⟩ from hb)
            have HZ := Lib.hid (HZ.out.kept hk (fun hf => absurd hf (by have := HZL.out; unfold One; omega)))
            have HY := Lib.hid (HY.out.kept hk (fun i hi hf => by have := HYL.out i hi; cases hf; omega))
            have HK := Lib.hid (HK.out.fresh hk (fun i hi => by cases hi; exact HW0.out))
            clear hb hk hz
            have hcut := run_cut (P := Try.prog) Try.underlying31 inf5.1 inf5.2 (some ⟨bk, oo, none⟩) n c 31 33 31 33 rfl rfl (by decide) (by omega)
            go_wp2_with (fail)
            refine (bnum_yes _ 2 _ ((b.take 33).drop 31) _ (HY.out.cut (lo := 31) (hi := 33) (by decide) (by omega)) (by decide)).mono ?_
            rintro e w17 ⟨rfl, rfl⟩
            have hf8 : sgB b 31 33 < 65536 := sg_lt b 31 33 2 (by decide)
            rw [show numM ((b.take 33).drop 31) = sgB b 31 33 from rfl]
            obtain ⟨f8, hfe⟩ : ∃ x, sgB b 31 33 = x := ⟨_, rfl⟩
            rw [hfe] at hf8 ⊢
            have HF8 := Lib.hid hfe
            clear hfe hcut
            dsimp only
            go_upto_region 25 with (first
              | (refine wpList_st rfl 24 (.tmp 97) _ rfl g4 8 rfl [.int .u16 (f8 : Int)] _ rfl rfl (inf_w16 _) 39 (bpl ⟨1, f1, f2, f3, f4, f5, f6, f7, 0, 0⟩) HB.out (by show 8 + 1 ≤ 10; decide) (one1 rfl) ?_; intro w18 hb hk hz; simp only [Act.put, List.setIfInBounds_toArray, List.set_cons_succ, List.set_cons_zero])
              | fail)
            have HB := Lib.hid (show BPB w18 g4 39 ⟨1, f1, f2, f3, f4, f5, f6, f7, f8, 0⟩ from hb)
            have HZ := Lib.hid (HZ.out.kept hk (fun hf => absurd hf (by have := HZL.out; unfold One; omega)))
            have HY := Lib.hid (HY.out.kept hk (fun i hi hf => by have := HYL.out i hi; cases hf; omega))
            have HK := Lib.hid (HK.out.fresh hk (fun i hi => by cases hi; exact HW0.out))
            clear hb hk hz
            have hcut := run_cut (P := Try.prog) Try.underlying31 inf5.1 inf5.2 (some ⟨bk, oo, none⟩) n c 33 35 33 35 rfl rfl (by decide) (by omega)
            go_wp2_with (fail)
            refine (bnum_yes _ 2 _ ((b.take 35).drop 33) _ (HY.out.cut (lo := 33) (hi := 35) (by decide) (by omega)) (by decide)).mono ?_
            rintro e w19 ⟨rfl, rfl⟩
            have hf9 : sgB b 33 35 < 65536 := sg_lt b 33 35 2 (by decide)
            rw [show numM ((b.take 35).drop 33) = sgB b 33 35 from rfl]
            obtain ⟨f9, hfe⟩ : ∃ x, sgB b 33 35 = x := ⟨_, rfl⟩
            rw [hfe] at hf9 ⊢
            have HF9 := Lib.hid hfe
            clear hfe hcut
            dsimp only
            go_upto_region 26 with (first
              | (refine wpList_st rfl 24 (.tmp 102) _ rfl g4 9 rfl [.int .u16 (f9 : Int)] _ rfl rfl (inf_w16 _) 39 (bpl ⟨1, f1, f2, f3, f4, f5, f6, f7, f8, 0⟩) HB.out (by show 9 + 1 ≤ 10; decide) (one1 rfl) ?_; intro w20 hb hk hz; simp only [Act.put, List.setIfInBounds_toArray, List.set_cons_succ, List.set_cons_zero])
              | fail)
            have HB := Lib.hid (show BPB w20 g4 39 ⟨1, f1, f2, f3, f4, f5, f6, f7, f8, f9⟩ from hb)
            have HZ := Lib.hid (HZ.out.kept hk (fun hf => absurd hf (by have := HZL.out; unfold One; omega)))
            have HY := Lib.hid (HY.out.kept hk (fun i hi hf => by have := HYL.out i hi; cases hf; omega))
            have HK := Lib.hid (HK.out.fresh hk (fun i hi => by cases hi; exact HW0.out))
            clear hb hk hz
            have HR := Lib.hid (show rdB 1 b = ⟨1, f1, f2, f3, f4, f5, f6, f7, f8, f9⟩ by rw [HR.out, HF1.out, HF2.out, HF3.out, HF4.out, HF5.out, HF6.out, HF7.out, HF8.out, HF9.out])
            replace HG := Lib.hid (show getB b = if f7 ≤ f6 ∨ (35 = 36 ∧ sgB b 35 36 ≠ 0) then (Bp.zero, 5) else (⟨1, f1, f2, f3, f4, f5, f6, f7, f8, f9⟩, 0) by rw [HG.out, HR.out]; try simp)
            have p6 := HB.out.c6
            have p7 := HB.out.c7
            by_cases hag : f7 ≤ f6
            · have ia : (f7 : Int) ≤ (f6 : Int) := by omega
              replace HG := Lib.hid (show getB b = (Bp.zero, 5) by rw [HG.out, if_pos (.inl hag)])
              clear hag
              go_wp2_with (first
                | (refine wpList_st rfl 39 (.tmp 2) _ rfl _ 0 rfl (bpl Bp.zero) _ rfl rfl (infBr _) 39 (bpl Bp.zero) HZ.out (by show 0 + 10 ≤ 10; decide) (bpl_one _) ?_; intro w30 hb30 hk30 hz30)
                | fail)
              have h2 := BPB.of_all (m := Bp.zero) (m' := Bp.zero) hb30
              refine bodyPost_ret (res_cell1 Try.results21 rfl rfl h2.all Try.underlying39 rfl (infBr _)) rfl ⟨by rw [HG.out]; rfl, ?_⟩
              exact HK.out.fresh hk30 (fun i hi => by cases hi; have := HGZ.out; omega)
            · have ia : ¬ (f7 : Int) ≤ (f6 : Int) := by omega
              replace HG := Lib.hid (show getB b = (⟨1, f1, f2, f3, f4, f5, f6, f7, f8, f9⟩, 0) by rw [HG.out, if_neg (by omega)])
              clear hag
              go_wp2_with (first
                | (refine wpList_ld rfl _ _ rfl g4 0 rfl (bpl ⟨1, f1, f2, f3, f4, f5, f6, f7, f8, f9⟩) HB.out.all _ Try.underlying39 rfl (infBr _) ?_)
                | (refine wpList_st rfl 39 (.tmp 2) _ rfl _ 0 rfl (bpl ⟨1, f1, f2, f3, f4, f5, f6, f7, f8, f9⟩) _ rfl rfl (infBr _) 39 (bpl Bp.zero) HZ.out (by show 0 + 10 ≤ 10; decide) (bpl_one _) ?_; intro w30 hb30 hk30 hz30)
                | fail)
              have h2 := BPB.of_all (m := Bp.zero) (m' := ⟨1, f1, f2, f3, f4, f5, f6, f7, f8, f9⟩) hb30
              refine bodyPost_ret (res_cell1 Try.results21 rfl rfl h2.all Try.underlying39 rfl (infBr _)) rfl ⟨by rw [HG.out]; rfl, ?_⟩
              exact HK.out.fresh hk30 (fun i hi => by cases hi; have := HGZ.out; omega)
        · have i2 : (((2 : Nat) : Int) == 0) = false := by decide
          have i3 : (((2 : Nat) : Int) == 2) = true := by decide
          replace HG := Lib.hid (show getB b = finB 3 36 b by rw [HG.out]; simp [])
          have hB := BPB.new W 39 Bp.zero
          go_upto_region 8 with (first
            | (refine wpList_st rfl 39 (.tmp 4) _ rfl _ 0 rfl (bpl Bp.zero) _ rfl rfl (infBr _) 39 (bpl Bp.zero) hB (by show 0 + 10 ≤ 10; decide) (bpl_one _) ?_; intro w1 hb1 hk1 hz1; simp only [Act.put, List.setIfInBounds_toArray, List.set_cons_succ, List.set_cons_zero])
            | fail)
          have HB := Lib.hid (BPB.of_all (m := Bp.zero) (m' := Bp.zero) hb1)
          have hk1 := ((Kept.refl Nil W).alloc (.cells (bpl Bp.zero).toArray 39)).fresh hk1 (fun i hi => by cases hi; exact Nat.le_refl _)
          have HZ := Lib.hid (HZ.out.kept hk1 (fun hf => hf))
          have hzl : gz < W.heap.size := HZW.out
          have HK0 := HK
          have HK := Lib.hid (HK.out.then hk1)
          have HY := Lib.hid (HY.out.kept hk1 (fun _ _ hf => hf))
          have l2 := hk1.cell l2 (fun hf => hf)
          have l3 := hk1.cell l3 (fun hf => hf)
          have HYL := Lib.hid (show ∀ i, Lies (some ⟨bk, oo, none⟩) n i → i < W.heap.size from HYW.out)
          have HW0 := Lib.hid (show w.heap.size ≤ W.heap.size from HK0.out.size)
          obtain ⟨g4, hg4⟩ : ∃ x, W.heap.size = x := ⟨_, rfl⟩
          rw [hg4] at HB hzl HYL HW0 ⊢
          have HZL := Lib.hid hzl
          clear hb1 hk1 hz1 hzl hB hg4 HK0
          go_upto_region 15 with (first
            | (refine wpList_st rfl 3 (.tmp 54) _ rfl g4 0 rfl [.int .i64 3] _ rfl rfl (inf_wi _) 39 (bpl Bp.zero) HB.out (by show 0 + 1 ≤ 10; decide) (one1 rfl) ?_; intro w2 hb2 hk2 hz2; simp only [Act.put, List.setIfInBounds_toArray, List.set_cons_succ, List.set_cons_zero])
            | fail)
          have HB := Lib.hid (show BPB w2 g4 39 ⟨3, 0, 0, 0, 0, 0, 0, 0, 0, 0⟩ from hb2)
          have HZ := Lib.hid (HZ.out.kept hk2 (fun hf => absurd hf (by have := HZL.out; unfold One; omega)))
          have HY := Lib.hid (HY.out.kept hk2 (fun i hi hf => by have := HYL.out i hi; cases hf; omega))
          have HK := Lib.hid (HK.out.fresh hk2 (fun i hi => by cases hi; exact HW0.out))
          clear hb2 hk2 hz2 l0 l1 l2 l3
          by_cases hmy : n < 36
          · have im : (n : Int) < 36 := by omega
            replace HG := Lib.hid (show getB b = (Bp.zero, 4) by rw [HG.out, finB, if_pos (by have := HL.out; omega)])
            clear hmy
            go_wp2_with (first
              | (refine wpList_st rfl 39 (.tmp 2) _ rfl _ 0 rfl (bpl Bp.zero) _ rfl rfl (infBr _) 39 (bpl Bp.zero) HZ.out (by show 0 + 10 ≤ 10; decide) (bpl_one _) ?_; intro w30 hb30 hk30 hz30)
              | fail)
            have h2 := BPB.of_all (m := Bp.zero) (m' := Bp.zero) hb30
            refine bodyPost_ret (res_cell1 Try.results21 rfl rfl h2.all Try.underlying39 rfl (infBr _)) rfl ⟨by rw [HG.out]; rfl, ?_⟩
            exact HK.out.fresh hk30 (fun i hi => by cases hi; have := HGZ.out; omega)
          · have im : ¬ (n : Int) < 36 := by omega
            replace HG := Lib.hid (show getB b = if (rdB 3 b).ma ≤ (rdB 3 b).ag ∨ (36 = 36 ∧ sgB b 35 36 ≠ 0) then (Bp.zero, 5) else (rdB 3 b, 0) by rw [HG.out, finB, if_neg (by have := HL.out; omega)])
            have HR := Lib.hid (show rdB 3 b = ⟨3, sgB b 4 5, sgB b 5 13, sgB b 17 25, sgB b 13 17, sgB b 25 27, sgB b 27 29, sgB b 29 31, sgB b 31 33, sgB b 33 35⟩ from rfl)
            have hcc4 : 35 ≤ c := by omega
            obtain ⟨bk2, oo2, hpe, hcl⟩ := HY.out.2.2.2 (by omega)
            cases hpe
            have l4 := hcl 4 (by have := HL.out; omega)
            rw [sg_one] at l4
            clear hcl
            have hf1 : sgB b 4 5 < 256 := sg_lt b 4 5 1 (by decide)
            obtain ⟨f1, hfe⟩ : ∃ x, sgB b 4 5 = x := ⟨_, rfl⟩
            rw [hfe] at l4 hf1
            have HF1 := Lib.hid hfe
            clear hfe
            go_upto_region 18 with (first
              | (refine wpList_st rfl 5 (.tmp 64) _ rfl g4 1 rfl [.int .u8 (f1 : Int)] _ rfl rfl (inf_w8 _) 39 (bpl ⟨3, 0, 0, 0, 0, 0, 0, 0, 0, 0⟩) HB.out (by show 1 + 1 ≤ 10; decide) (one1 rfl) ?_; intro w4 hb hk hz; simp only [Act.put, List.setIfInBounds_toArray, List.set_cons_succ, List.set_cons_zero])
              | fail)
            have HB := Lib.hid (show BPB w4 g4 39 ⟨3, f1, 0, 0, 0, 0, 0, 0, 0, 0⟩ from hb)
            have HZ := Lib.hid (HZ.out.kept hk (fun hf => absurd hf (by have := HZL.out; unfold One; omega)))
            have HY := Lib.hid (HY.out.kept hk (fun i hi hf => by have := HYL.out i hi; cases hf; omega))
            have HK := Lib.hid (HK.out.fresh hk (fun i hi => by cases hi; exact HW0.out))
            clear hb hk hz l4
            have hcut := run_cut (P := Try.prog) Try.underlying31 inf5.1 inf5.2 (some ⟨bk, oo, none⟩) n c 5 13 5 13 rfl rfl (by decide) (by omega)
            go_wp2_with (fail)
            refine (bnum_yes _ 8 _ ((b.take 13).drop 5) _ (HY.out.cut (lo := 5) (hi := 13) (by decide) (by omega)) (by decide)).mono ?_
            rintro e w5 ⟨rfl, rfl⟩
            have hf2 : sgB b 5 13 < 18446744073709551616 := sg_lt b 5 13 8 (by decide)
            rw [show numM ((b.take 13).drop 5) = sgB b 5 13 from rfl]
            obtain ⟨f2, hfe⟩ : ∃ x, sgB b 5 13 = x := ⟨_, rfl⟩
            rw [hfe] at hf2 ⊢
            have HF2 := Lib.hid hfe
            clear hfe hcut
            dsimp only
            go_upto_region 19 with (first
              | (refine wpList_st rfl 22 (.tmp 68) _ rfl g4 2 rfl [.int .u64 (f2 : Int)] _ rfl rfl (inf_w64 _) 39 (bpl ⟨3, f1, 0, 0, 0, 0, 0, 0, 0, 0⟩) HB.out (by show 2 + 1 ≤ 10; decide) (one1 rfl) ?_; intro w6 hb hk hz; simp only [Act.put, List.setIfInBounds_toArray, List.set_cons_succ, List.set_cons_zero])
              | fail)
            have HB := Lib.hid (show BPB w6 g4 39 ⟨3, f1, f2, 0, 0, 0, 0, 0, 0, 0⟩ from hb)
            have HZ := Lib.hid (HZ.out.kept hk (fun hf => absurd hf (by have := HZL.out; unfold One; omega)))
            have HY := Lib.hid (HY.out.kept hk (fun i hi hf => by have := HYL.out i hi; cases hf; omega))
            have HK := Lib.hid (HK.out.fresh hk (fun i hi => by cases hi; exact HW0.out))
            clear hb hk hz
            have hcut := run_cut (P := Try.prog) Try.underlying31 inf5.1 inf5.2 (some ⟨bk, oo, none⟩) n c 13 17 13 17 rfl rfl (by decide) (by omega)
            go_wp2_with (fail)
            refine (bnum_yes _ 4 _ ((b.take 17).drop 13) _ (HY.out.cut (lo := 13) (hi := 17) (by decide) (by omega)) (by decide)).mono ?_
            rintro e w7 ⟨rfl, rfl⟩
            have hf4 : sgB b 13 17 < 4294967296 := sg_lt b 13 17 4 (by decide)
            rw [show numM ((b.take 17).drop 13) = sgB b 13 17 from rfl]
            obtain ⟨f4, hfe⟩ : ∃ x, sgB b 13 17 = x := ⟨_, rfl⟩
            rw [hfe] at hf4 ⊢
            have HF4 := Lib.hid hfe
            clear hfe hcut
            dsimp only
            go_upto_region 20 with (first
              | (refine wpList_st rfl 23 (.tmp 73) _ rfl g4 4 rfl [.int .u32 (f4 : Int)] _ rfl rfl (inf_w32 _) 39 (bpl ⟨3, f1, f2, 0, 0, 0, 0, 0, 0, 0⟩) HB.out (by show 4 + 1 ≤ 10; decide) (one1 rfl) ?_; intro w8 hb hk hz; simp only [Act.put, List.setIfInBounds_toArray, List.set_cons_succ, List.set_cons_zero])
              | fail)
            have HB := Lib.hid (show BPB w8 g4 39 ⟨3, f1, f2, 0, f4, 0, 0, 0, 0, 0⟩ from hb)
            have HZ := Lib.hid (HZ.out.kept hk (fun hf => absurd hf (by have := HZL.out; unfold One; omega)))
            have HY := Lib.hid (HY.out.kept hk (fun i hi hf => by have := HYL.out i hi; cases hf; omega))
            have HK := Lib.hid (HK.out.fresh hk (fun i hi => by cases hi; exact HW0.out))
            clear hb hk hz
            have hcut := run_cut (P := Try.prog) Try.underlying31 inf5.1 inf5.2 (some ⟨bk, oo, none⟩) n c 17 25 17 25 rfl rfl (by decide) (by omega)
            go_wp2_with (fail)
            refine (bnum_yes _ 8 _ ((b.take 25).drop 17) _ (HY.out.cut (lo := 17) (hi := 25) (by decide) (by omega)) (by decide)).mono ?_
            rintro e w9 ⟨rfl, rfl⟩
            have hf3 : sgB b 17 25 < 18446744073709551616 := sg_lt b 17 25 8 (by decide)
            rw [show numM ((b.take 25).drop 17) = sgB b 17 25 from rfl]
            obtain ⟨f3, hfe⟩ : ∃ x, sgB b 17 25 = x := ⟨_, rfl⟩
            rw [hfe] at hf3 ⊢
            have HF3 := Lib.hid hfe
            clear hfe hcut
            dsimp only
            go_upto_region 21 with (first
              | (refine wpList_st rfl 22 (.tmp 77) _ rfl g4 3 rfl [.int .u64 (f3 : Int)] _ rfl rfl (inf_w64 _) 39 (bpl ⟨3, f1, f2, 0, f4, 0, 0, 0, 0, 0⟩) HB.out (by show 3 + 1 ≤ 10; decide) (one1 rfl) ?_; intro w10 hb hk hz; simp only [Act.put, List.setIfInBounds_toArray, List.set_cons_succ, List.set_cons_zero])
              | fail)
            have HB := Lib.hid (show BPB w10 g4 39 ⟨3, f1, f2, f3, f4, 0, 0, 0, 0, 0⟩ from hb)
            have HZ := Lib.hid (HZ.out.kept hk (fun hf => absurd hf (by have := HZL.out; unfold One; omega)))
            have HY := Lib.hid (HY.out.kept hk (fun i hi hf => by have := HYL.out i hi; cases hf; omega))
            have HK := Lib.hid (HK.out.fresh hk (fun i hi => by cases hi; exact HW0.out))
            clear hb hk hz
            have hcut := run_cut (P := Try.prog) Try.underlying31 inf5.1 inf5.2 (some ⟨bk, oo, none⟩) n c 25 27 25 27 rfl rfl (by decide) (by omega)
            go_wp2_with (fail)
            refine (bnum_yes _ 2 _ ((b.take 27).drop 25) _ (HY.out.cut (lo := 25) (hi := 27) (by decide) (by omega)) (by decide)).mono ?_
            rintro e w11 ⟨rfl, rfl⟩
            have hf5 : sgB b 25 27 < 65536 := sg_lt b 25 27 2 (by decide)
            rw [show numM ((b.take 27).drop 25) = sgB b 25 27 from rfl]
            obtain ⟨f5, hfe⟩ : ∃ x, sgB b 25 27 = x := ⟨_, rfl⟩
            rw [hfe] at hf5 ⊢
            have HF5 := Lib.hid hfe
            clear hfe hcut
            dsimp only
            go_upto_region 22 with (first
              | (refine wpList_st rfl 24 (.tmp 82) _ rfl g4 5 rfl [.int .u16 (f5 : Int)] _ rfl rfl (inf_w16 _) 39 (bpl ⟨3, f1, f2, f3, f4, 0, 0, 0, 0, 0⟩) HB.out (by show 5 + 1 ≤ 10; decide) (one1 rfl) ?_; intro w12 hb hk hz; simp only [Act.put, List.setIfInBounds_toArray, List.set_cons_succ, List.set_cons_zero])
              | fail)
            have HB := Lib.hid (show BPB w12 g4 39 ⟨3, f1, f2, f3, f4, f5, 0, 0, 0, 0⟩ from hb)
            have HZ := Lib.hid (HZ.out.kept hk (fun hf => absurd hf (by have := HZL.out; unfold One; omega)))
            have HY := Lib.hid (HY.out.kept hk (fun i hi hf => by have := HYL.out i hi; cases hf; omega))
            have HK := Lib.hid (HK.out.fresh hk (fun i hi => by cases hi; exact HW0.out))
            clear hb hk hz
            have hcut := run_cut (P := Try.prog) Try.underlying31 inf5.1 inf5.2 (some ⟨bk, oo, none⟩) n c 27 29 27 29 rfl rfl (by decide) (by omega)
            go_wp2_with (fail)
            refine (bnum_yes _ 2 _ ((b.take 29).drop 27) _ (HY.out.cut (lo := 27) (hi := 29) (by decide) (by omega)) (by decide)).mono ?_
            rintro e w13 ⟨rfl, rfl⟩
            have hf6 : sgB b 27 29 < 65536 := sg_lt b 27 29 2 (by decide)
            rw [show numM ((b.take 29).drop 27) = sgB b 27 29 from rfl]
            obtain ⟨f6, hfe⟩ : ∃ x, sgB b 27 29 = x := ⟨_, rfl⟩
            rw [hfe] at hf6 ⊢
            have HF6 := Lib.hid hfe
            clear hfe hcut
            dsimp only
            go_upto_region 23 with (first
              | (refine wpList_st rfl 24 (.tmp 87) _ rfl g4 6 rfl [.int .u16 (f6 : Int)] _ rfl rfl (inf_w16 _) 39 (bpl ⟨3, f1, f2, f3, f4, f5, 0, 0, 0, 0⟩) HB.out (by show 6 + 1 ≤ 10; decide) (one1 rfl) ?_; intro w14 hb hk hz; simp only [Act.put, List.setIfInBounds_toArray, List.set_cons_succ, List.set_cons_zero])
              | fail)
            have HB := Lib.hid (show BPB w14 g4 39 ⟨3, f1, f2, f3, f4, f5, f6, 0, 0, 0⟩ from hb)
            have HZ := Lib.hid (HZ.out.kept hk (fun hf => absurd hf (by have := HZL.out; unfold One; omega)))
            have HY := Lib.hid (HY.out.kept hk (fun i hi hf => by have := HYL.out i hi; cases hf; omega))
            have HK := Lib.hid (HK.out.fresh hk (fun i hi => by cases hi; exact HW0.out))
            clear hb hk hz
            have hcut := run_cut (P := Try.prog) Try.underlying31 inf5.1 inf5.2 (some ⟨bk, oo, none⟩) n c 29 31 29 31 rfl rfl (by decide) (by omega)
            go_wp2_with (fail)
            refine (bnum_yes _ 2 _ ((b.take 31).drop 29) _ (HY.out.cut (lo := 29) (hi := 31) (by decide) (by omega)) (by decide)).mono ?_
            rintro e w15 ⟨rfl, rfl⟩
            have hf7 : sgB b 29 31 < 65536 := sg_lt b 29 31 2 (by decide)
            rw [show numM ((b.take 31).drop 29) = sgB b 29 31 from rfl]
            obtain ⟨f7, hfe⟩ : ∃ x, sgB b 29 31 = x := ⟨_, rfl⟩
            rw [hfe] at hf7 ⊢
            have HF7 := Lib.hid hfe
            clear hfe hcut
            dsimp only
            go_upto_region 24 with (first
              | (refine wpList_st rfl 24 (.tmp 92) _ rfl g4 7 rfl [.int .u16 (f7 : Int)] _ rfl rfl (inf_w16 _) 39 (bpl ⟨3, f1, f2, f3, f4, f5, f6, 0, 0, 0⟩) HB.out (by show 7 + 1 ≤ 10; decide) (one1 rfl) ?_; intro w16 hb hk hz; simp only [Act.put, List.setIfInBounds_toArray, List.set_cons_succ, List.set_cons_zero])
              | fail)
            have HB := Lib.hid (show BPB w16 g4 39 ⟨3, f1, f2, f3, f4, f5, f6, f7, 0, 0⟩ from hb)
            have HZ := Lib.hid (HZ.out.kept hk (fun hf => absurd hf (by have := HZL.out; unfold One; omega)))
            have HY := Lib.hid (HY.out.kept hk (fun i hi hf => by have := HYL.out i hi; cases hf; omega))
            have HK := Lib.hid (HK.out.fresh hk (fun i hi => by cases hi; exact HW0.out))
            clear hb hk hz
            have hcut := run_cut (P := Try.prog) Try.underlying31 inf5.1 inf5.2 (some ⟨bk, oo, none⟩) n c 31 33 31 33 rfl rfl (by decide) (by omega)
            go_wp2_with (fail)
            refine (bnum_yes _ 2 _ ((b.take 33).drop 31) _ (HY.out.cut (lo := 31) (hi := 33) (by decide) (by omega)) (by decide)).mono ?_
            rintro e w17 ⟨rfl, rfl⟩
            have hf8 : sgB b 31 33 < 65536 := sg_lt b 31 33 2 (by decide)
            rw [show numM ((b.take 33).drop 31) = sgB b 31 33 from rfl]
            obtain ⟨f8, hfe⟩ : ∃ x, sgB b 31 33 = x := ⟨_, rfl⟩
            rw [hfe] at hf8 ⊢
            have HF8 := Lib.hid hfe
            clear hfe hcut
            dsimp only
            go_upto_region 25 with (first
              | (refine wpList_st rfl 24 (.tmp 97) _ rfl g4 8 rfl [.int .u16 (f8 : Int)] _ rfl rfl (inf_w16 _) 39 (bpl ⟨3, f1, f2, f3, f4, f5, f6, f7, 0, 0⟩) HB.out (by show 8 + 1 ≤ 10; decide) (one1 rfl) ?_; intro w18 hb hk hz; simp only [Act.put, List.setIfInBounds_toArray, List.set_cons_succ, List.set_cons_zero])
              | fail)
            have HB := Lib.hid (show BPB w18 g4 39 ⟨3, f1, f2, f3, f4, f5, f6, f7, f8, 0⟩ from hb)
            have HZ := Lib.hid (HZ.out.kept hk (fun hf => absurd hf (by have := HZL.out; unfold One; omega)))
            have HY := Lib.hid (HY.out.kept hk (fun i hi hf => by have := HYL.out i hi; cases hf; omega))
            have HK := Lib.hid (HK.out.fresh hk (fun i hi => by cases hi; exact HW0.out))
            clear hb hk hz
            have hcut := run_cut (P := Try.prog) Try.underlying31 inf5.1 inf5.2 (some ⟨bk, oo, none⟩) n c 33 35 33 35 rfl rfl (by decide) (by omega)
            go_wp2_with (fail)
            refine (bnum_yes _ 2 _ ((b.take 35).drop 33) _ (HY.out.cut (lo := 33) (hi := 35) (by decide) (by omega)) (by decide)).mono ?_
            rintro e w19 ⟨rfl, rfl⟩
            have hf9 : sgB b 33 35 < 65536 := sg_lt b 33 35 2 (by decide)
            rw [show numM ((b.take 35).drop 33) = sgB b 33 35 from rfl]
            obtain ⟨f9, hfe⟩ : ∃ x, sgB b 33 35 = x := ⟨_, rfl⟩
            rw [hfe] at hf9 ⊢
            have HF9 := Lib.hid hfe
            clear hfe hcut
            dsimp only
            go_upto_region 26 with (first
              | (refine wpList_st rfl 24 (.tmp 102) _ rfl g4 9 rfl [.int .u16 (f9 : Int)] _ rfl rfl (inf_w16 _) 39 (bpl ⟨3, f1, f2, f3, f4, f5, f6, f7, f8, 0⟩) HB.out (by show 9 + 1 ≤ 10; decide) (one1 rfl) ?_; intro w20 hb hk hz; simp only [Act.put, List.setIfInBounds_toArray, List.set_cons_succ, List.set_cons_zero])
              | fail)
            have HB := Lib.hid (show BPB w20 g4 39 ⟨3, f1, f2, f3, f4, f5, f6, f7, f8, f9⟩ from hb)
            have HZ := Lib.hid (HZ.out.kept hk (fun hf => absurd hf (by have := HZL.out; unfold One; omega)))
            have HY := Lib.hid (HY.out.kept hk (fun i hi hf => by have := HYL.out i hi; cases hf; omega))
            have HK := Lib.hid (HK.out.fresh hk (fun i hi => by cases hi; exact HW0.out))
            clear hb hk hz
            have HR := Lib.hid (show rdB 3 b = ⟨3, f1, f2, f3, f4, f5, f6, f7, f8, f9⟩ by rw [HR.out, HF1.out, HF2.out, HF3.out, HF4.out, HF5.out, HF6.out, HF7.out, HF8.out, HF9.out])
            replace HG := Lib.hid (show getB b = if f7 ≤ f6 ∨ (36 = 36 ∧ sgB b 35 36 ≠ 0) then (Bp.zero, 5) else (⟨3, f1, f2, f3, f4, f5, f6, f7, f8, f9⟩, 0) by rw [HG.out, HR.out]; try simp)
            have p6 := HB.out.c6
            have p7 := HB.out.c7
            by_cases hag : f7 ≤ f6
            · have ia : (f7 : Int) ≤ (f6 : Int) := by omega
              replace HG := Lib.hid (show getB b = (Bp.zero, 5) by rw [HG.out, if_pos (.inl hag)])
              clear hag
              go_wp2_with (first
                | (refine wpList_st rfl 39 (.tmp 2) _ rfl _ 0 rfl (bpl Bp.zero) _ rfl rfl (infBr _) 39 (bpl Bp.zero) HZ.out (by show 0 + 10 ≤ 10; decide) (bpl_one _) ?_; intro w30 hb30 hk30 hz30)
                | fail)
              have h2 := BPB.of_all (m := Bp.zero) (m' := Bp.zero) hb30
              refine bodyPost_ret (res_cell1 Try.results21 rfl rfl h2.all Try.underlying39 rfl (infBr _)) rfl ⟨by rw [HG.out]; rfl, ?_⟩
              exact HK.out.fresh hk30 (fun i hi => by cases hi; have := HGZ.out; omega)
            · have ia : ¬ (f7 : Int) ≤ (f6 : Int) := by omega
              obtain ⟨bk2, oo2, hpe, hcl⟩ := HY.out.2.2.2 (by omega)
              cases hpe
              have l35 := hcl 35 (by have := HL.out; omega)
              rw [sg_one] at l35
              clear hcl
              have n35 : 35 < n := by omega
              generalize sgB b 35 36 = x35 at *
              by_cases hx : x35 = 0
              · have ix : ((x35 : Int) != 0) = false := by simp [hx]
                replace HG := Lib.hid (show getB b = (⟨3, f1, f2, f3, f4, f5, f6, f7, f8, f9⟩, 0) by rw [HG.out, if_neg (by omega)])
                clear hag hx
                go_wp2_with (first
                  | (refine wpList_ld rfl _ _ rfl g4 0 rfl (bpl ⟨3, f1, f2, f3, f4, f5, f6, f7, f8, f9⟩) HB.out.all _ Try.underlying39 rfl (infBr _) ?_)
                  | (refine wpList_st rfl 39 (.tmp 2) _ rfl _ 0 rfl (bpl ⟨3, f1, f2, f3, f4, f5, f6, f7, f8, f9⟩) _ rfl rfl (infBr _) 39 (bpl Bp.zero) HZ.out (by show 0 + 10 ≤ 10; decide) (bpl_one _) ?_; intro w30 hb30 hk30 hz30)
                  | fail)
                have h2 := BPB.of_all (m := Bp.zero) (m' := ⟨3, f1, f2, f3, f4, f5, f6, f7, f8, f9⟩) hb30
                refine bodyPost_ret (res_cell1 Try.results21 rfl rfl h2.all Try.underlying39 rfl (infBr _)) rfl ⟨by rw [HG.out]; rfl, ?_⟩
                exact HK.out.fresh hk30 (fun i hi => by cases hi; have := HGZ.out; omega)
              · have ix : ((x35 : Int) != 0) = true := by simp; omega
                replace HG := Lib.hid (show getB b = (Bp.zero, 5) by rw [HG.out, if_pos (by omega)])
                clear hag hx
                go_wp2_with (first
                  | (refine wpList_st rfl 39 (.tmp 2) _ rfl _ 0 rfl (bpl Bp.zero) _ rfl rfl (infBr _) 39 (bpl Bp.zero) HZ.out (by show 0 + 10 ≤ 10; decide) (bpl_one _) ?_; intro w30 hb30 hk30 hz30)
                  | fail)
                have h2 := BPB.of_all (m := Bp.zero) (m' := Bp.zero) hb30
                refine bodyPost_ret (res_cell1 Try.results21 rfl rfl h2.all Try.underlying39 rfl (infBr _)) rfl ⟨by rw [HG.out]; rfl, ?_⟩
                exact HK.out.fresh hk30 (fun i hi => by cases hi; have := HGZ.out; omega)
        · have i3 : ((x3 : Int) == 128) = false := by simp; omega
          have i4 : ((x3 : Int) == 0) = false := by simp; omega
          replace HG := Lib.hid (show getB b = (Bp.zero, 5) by rw [HG.out]; simp [q1, q2])
          have hB := BPB.new W 39 Bp.zero
          go_upto_region 8 with (first
            | (refine wpList_st rfl 39 (.tmp 4) _ rfl _ 0 rfl (bpl Bp.zero) _ rfl rfl (infBr _) 39 (bpl Bp.zero) hB (by show 0 + 10 ≤ 10; decide) (bpl_one _) ?_; intro w1 hb1 hk1 hz1; simp only [Act.put, List.setIfInBounds_toArray, List.set_cons_succ, List.set_cons_zero])
            | fail)
          have HB := Lib.hid (BPB.of_all (m := Bp.zero) (m' := Bp.zero) hb1)
          have hk1 := ((Kept.refl Nil W).alloc (.cells (bpl Bp.zero).toArray 39)).fresh hk1 (fun i hi => by cases hi; exact Nat.le_refl _)
          have HZ := Lib.hid (HZ.out.kept hk1 (fun hf => hf))
          have hzl : gz < W.heap.size := HZW.out
          have HK0 := HK
          have HK := Lib.hid (HK.out.then hk1)
          have HY := Lib.hid (HY.out.kept hk1 (fun _ _ hf => hf))
          have l2 := hk1.cell l2 (fun hf => hf)
          have l3 := hk1.cell l3 (fun hf => hf)
          have HYL := Lib.hid (show ∀ i, Lies (some ⟨bk, oo, none⟩) n i → i < W.heap.size from HYW.out)
          have HW0 := Lib.hid (show w.heap.size ≤ W.heap.size from HK0.out.size)
          obtain ⟨g4, hg4⟩ : ∃ x, W.heap.size = x := ⟨_, rfl⟩
          rw [hg4] at HB hzl HYL HW0 ⊢
          have HZL := Lib.hid hzl
          clear hb1 hk1 hz1 hzl hB hg4 HK0
          go_wp2_with (first
            | (refine wpList_st rfl 39 (.tmp 2) _ rfl _ 0 rfl (bpl Bp.zero) _ rfl rfl (infBr _) 39 (bpl Bp.zero) HZ.out (by show 0 + 10 ≤ 10; decide) (bpl_one _) ?_; intro w30 hb30 hk30 hz30)
            | fail)
          have h2 := BPB.of_all (m := Bp.zero) (m' := Bp.zero) hb30
          refine bodyPost_ret (res_cell1 Try.results21 rfl rfl h2.all Try.underlying39 rfl (infBr _)) rfl ⟨by rw [HG.out]; rfl, ?_⟩
          exact HK.out.fresh hk30 (fun i hi => by cases hi; have := HGZ.out; omega)
        · have i3 : ((x3 : Int) == 2) = false := by simp; omega
          replace HG := Lib.hid (show getB b = (Bp.zero, 5) by rw [HG.out]; simp [q1])
          have hB := BPB.new W 39 Bp.zero
          go_upto_region 8 with (first
            | (refine wpList_st rfl 39 (.tmp 4) _ rfl _ 0 rfl (bpl Bp.zero) _ rfl rfl (infBr _) 39 (bpl Bp.zero) hB (by show 0 + 10 ≤ 10; decide) (bpl_one _) ?_; intro w1 hb1 hk1 hz1; simp only [Act.put, List.setIfInBounds_toArray, List.set_cons_succ, List.set_cons_zero])
            | fail)
          have HB := Lib.hid (BPB.of_all (m := Bp.zero) (m' := Bp.zero) hb1)
          have hk1 := ((Kept.refl Nil W).alloc (.cells (bpl Bp.zero).toArray 39)).fresh hk1 (fun i hi => by cases hi; exact Nat.le_refl _)
          have HZ := Lib.hid (HZ.out.kept hk1 (fun hf => hf))
          have hzl : gz < W.heap.size := HZW.out
          have HK0 := HK
          have HK := Lib.hid (HK.out.then hk1)
          have HY := Lib.hid (HY.out.kept hk1 (fun _ _ hf => hf))
          have l2 := hk1.cell l2 (fun hf => hf)
          have l3 := hk1.cell l3 (fun hf => hf)
          have HYL := Lib.hid (show ∀ i, Lies (some ⟨bk, oo, none⟩) n i → i < W.heap.size from HYW.out)
          have HW0 := Lib.hid (show w.heap.size ≤ W.heap.size from HK0.out.size)
          obtain ⟨g4, hg4⟩ : ∃ x, W.heap.size = x := ⟨_, rfl⟩
          rw [hg4] at HB hzl HYL HW0 ⊢
          have HZL := Lib.hid hzl
          clear hb1 hk1 hz1 hzl hB hg4 HK0
          go_wp2_with (first
            | (refine wpList_st rfl 39 (.tmp 2) _ rfl _ 0 rfl (bpl Bp.zero) _ rfl rfl (infBr _) 39 (bpl Bp.zero) HZ.out (by show 0 + 10 ≤ 10; decide) (bpl_one _) ?_; intro w30 hb30 hk30 hz30)
            | fail)
          have h2 := BPB.of_all (m := Bp.zero) (m' := Bp.zero) hb30
          refine bodyPost_ret (res_cell1 Try.results21 rfl rfl h2.all Try.underlying39 rfl (infBr _)) rfl ⟨by rw [HG.out]; rfl, ?_⟩
          exact HK.out.fresh hk30 (fun i hi => by cases hi; have := HGZ.out; omega)
        · have i2 : ((x2 : Int) == 0) = false := by simp; omega
          have i3 : ((x2 : Int) == 2) = false := by simp; omega
          replace HG := Lib.hid (show getB b = (Bp.zero, 5) by rw [HG.out]; simp [q1, q2])
          have hB := BPB.new W 39 Bp.zero
          go_upto_region 8 with (first
            | (refine wpList_st rfl 39 (.tmp 4) _ rfl _ 0 rfl (bpl Bp.zero) _ rfl rfl (infBr _) 39 (bpl Bp.zero) hB (by show 0 + 10 ≤ 10; decide) (bpl_one _) ?_; intro w1 hb1 hk1 hz1; simp only [Act.put, List.setIfInBounds_toArray, List.set_cons_succ, List.set_cons_zero])
            | fail)
          have HB := Lib.hid (BPB.of_all (m := Bp.zero) (m' := Bp.zero) hb1)
          have hk1 := ((Kept.refl Nil W).alloc (.cells (bpl Bp.zero).toArray 39)).fresh hk1 (fun i hi => by cases hi; exact Nat.le_refl _)
          have HZ := Lib.hid (HZ.out.kept hk1 (fun hf => hf))
          have hzl : gz < W.heap.size := HZW.out
          have HK0 := HK
          have HK := Lib.hid (HK.out.then hk1)
          have HY := Lib.hid (HY.out.kept hk1 (fun _ _ hf => hf))
          have l2 := hk1.cell l2 (fun hf => hf)
          have l3 := hk1.cell l3 (fun hf => hf)
          have HYL := Lib.hid (show ∀ i, Lies (some ⟨bk, oo, none⟩) n i → i < W.heap.size from HYW.out)
          have HW0 := Lib.hid (show w.heap.size ≤ W.heap.size from HK0.out.size)
          obtain ⟨g4, hg4⟩ : ∃ x, W.heap.size = x := ⟨_, rfl⟩
          rw [hg4] at HB hzl HYL HW0 ⊢
          have HZL := Lib.hid hzl
          clear hb1 hk1 hz1 hzl hB hg4 HK0
          go_wp2_with (first
            | (refine wpList_st rfl 39 (.tmp 2) _ rfl _ 0 rfl (bpl Bp.zero) _ rfl rfl (infBr _) 39 (bpl Bp.zero) HZ.out (by show 0 + 10 ≤ 10; decide) (bpl_one _) ?_; intro w30 hb30 hk30 hz30)
            | fail)
          have h2 := BPB.of_all (m := Bp.zero) (m' := Bp.zero) hb30
          refine bodyPost_ret (res_cell1 Try.results21 rfl rfl h2.all Try.underlying39 rfl (infBr _)) rfl ⟨by rw [HG.out]; rfl, ?_⟩
          exact HK.out.fresh hk30 (fun i hi => by cases hi; have := HGZ.out; omega)
end Go.Proofs.Ytbkjobmjapbmpaa
