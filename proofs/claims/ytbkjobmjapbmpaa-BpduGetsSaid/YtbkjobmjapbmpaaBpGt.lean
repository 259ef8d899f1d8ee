/- tolllaw10.BpduGets: the walk. -/
import Derived.Test.YtbkjobmjapbmpaaBpI
import Derived.Test.YtbkjobmjapbmpaaBpF
import Derived.Test.YtbkjobmjapbmpaaNewB
namespace Go.Proofs.Ytbkjobmjapbmpaa
open Go.RowKit Go.Sort
set_option linter.unusedVariables false

set_option maxRecDepth 100000 in
set_option maxHeartbeats 4000000 in
theorem bgets_yes (A : Option Addr) (n c : Nat) (b : List UInt8) (w : World) (hy : Byt w A n c b) : Calls Try.prog 4 #[.slice A n c] w fun e w' => e = .returned (.bool true) ∧ Below w.heap.size w w' := by
  have hnc := hy.2.1
  have hcc := hy.2.2.1
  obtain ⟨N, hm1, hm2, h1, h2, -⟩ := min60 n
  have hsl := run_cut_hi (P := Try.prog) Try.underlying31 inf5.1 A n c N (N : Int) rfl (by omega)
  have hyN := hy.pre (hi := N) h1
  obtain ⟨bb, hbb⟩ : ∃ x, b.take N = x := ⟨_, rfl⟩
  rw [hbb] at hyN
  have HY := Lib.hid hyN
  have HN := Lib.hid h2
  clear hyN hy hbb
  go_enter Try.func4, Try.ntmps4
  go_wp2_with (fail)
  clear hm1 hm2 hsl
  refine (get_yes A N c bb _ HY.out (by have := HN.out; omega)).mono ?_
  rintro e w1 ⟨rfl, hk⟩
  rw [gp_get]
  have HY := Lib.hid (HY.out.kept hk (fun _ _ hf => hf))
  have HK := Lib.hid hk
  have HR := Lib.hid (show getB bb = ((getB bb).1, (getB bb).2) from rfl)
  generalize (getB bb).1 = R1 at *
  generalize (getB bb).2 = R2 at *
  clear hk
  have hB := BPB.new w1 26 Bp.zero
  dsimp only
  go_upto_region 3 with (first
    | (refine wpList_st rfl 26 (.tmp 3) _ rfl _ 0 rfl (bpl R1) _ rfl rfl (infBp _) 26 (bpl Bp.zero) hB (by show 0 + 10 ≤ 10; decide) (bpl_one _) ?_; intro w2 hb hk hz; simp only [Act.put, List.setIfInBounds_toArray, List.set_cons_succ, List.set_cons_zero])
    | fail)
  have HG := Lib.hid (BPB.of_all (m := Bp.zero) (m' := R1) hb)
  have hk := ((Kept.refl Nil w1).alloc (.cells (bpl Bp.zero).toArray 26)).fresh hk (fun i hi => by cases hi; exact Nat.le_refl _)
  have HY := Lib.hid (HY.out.kept hk (fun _ _ hf => hf))
  have HK := Lib.hid (HK.out.then hk)
  clear hb hk hz hB
  go_wp2_with (fail)
  refine (bget_yes A N c bb _ HY.out).mono ?_
  rintro e w3 ⟨rfl, hk⟩
  rw [HR.out]
  have HG := Lib.hid (HG.out.kept hk (fun hf => hf))
  have HK := Lib.hid (HK.out.then hk)
  clear hk HY
  have hB := BPB.new w3 39 Bp.zero
  dsimp only
  go_upto_region 4 with (first
    | (refine wpList_st rfl 39 (.tmp 5) _ rfl _ 0 rfl (bpl R1) _ rfl rfl (infBr _) 39 (bpl Bp.zero) hB (by show 0 + 10 ≤ 10; decide) (bpl_one _) ?_; intro w4 hb hk hz; simp only [Act.put, List.setIfInBounds_toArray, List.set_cons_succ, List.set_cons_zero])
    | fail)
  have HH := Lib.hid (BPB.of_all (m := Bp.zero) (m' := R1) hb)
  have hk := ((Kept.refl Nil w3).alloc (.cells (bpl Bp.zero).toArray 39)).fresh hk (fun i hi => by cases hi; exact Nat.le_refl _)
  have HG := Lib.hid (HG.out.kept hk (fun hf => hf))
  have HK := Lib.hid (HK.out.then hk)
  clear hb hk hz hB
  have heq : (Op.equalIn 10000 39 (.agg (bpl R1).toArray) (.agg (bpl R1).toArray)).run Try.prog w4 = .ok true w4 := by have := eq_br R1 R1 w4; rwa [decide_eq_true rfl] at this
  go_wp2_with (first
    | (refine wpList_ld rfl _ _ rfl w1.heap.size 0 rfl (bpl R1) HG.out.all _ Try.underlying26 rfl (infBp _) ?_; simp only [Act.put, List.setIfInBounds_toArray, List.set_cons_succ, List.set_cons_zero])
    | (refine wpList_ld rfl _ _ rfl w3.heap.size 0 rfl (bpl R1) HH.out.all _ Try.underlying39 rfl (infBr _) ?_; simp only [Act.put, List.setIfInBounds_toArray, List.set_cons_succ, List.set_cons_zero])
    | (refine wpList_eqS rfl _ _ _ _ rfl (bpl R1).toArray (bpl R1).toArray rfl rfl (by kernel_rfl) true heq ?_; simp only [Act.put, List.setIfInBounds_toArray, List.set_cons_succ, List.set_cons_zero])
    | fail)
  refine (rows_yes _).mono ?_
  rintro e w5 ⟨rfl, hk⟩
  have HK := Lib.hid (HK.out.then hk)
  clear hk heq
  dsimp only
  go_wp2_with (fail)
  go_ret
  exact ⟨rfl, HK.out.below (Nat.le_refl _) (fun _ hf => hf.elim)⟩
end Go.Proofs.Ytbkjobmjapbmpaa
