/- tolllaw10: contract of BpduKnown's closure (a byte of the bytes changed, and read). -/
import Derived.Test.YtbkjobmjapbmpaaBpH
import Derived.Test.YtbkjobmjapbmpaaBlk
namespace Go.Proofs.Ytbkjobmjapbmpaa
open Go.RowKit Go.Sort
set_option linter.unusedVariables false

set_option maxRecDepth 100000 in
set_option maxHeartbeats 4000000 in
theorem spoil_yes (gb : Nat) (ad : Addr) (n c : Nat) (b : List UInt8) (i : Nat) (hi : i < n) (hn : n ≤ 1000) (x : UInt8) (w : World) (hB : Blo w gb 31 #[.slice (some ad) n c]) (hy : Byt w (some ad) n c b) : Calls Try.prog 26 #[.int .i64 (i : Int), .int .u8 (x.toNat : Int), .pointer (some ⟨gb, 0, none⟩)] w fun e w' => e = .returned (.int .i64 (gpM (b.set i x)).2) ∧ Kept Nil w w' := by
  have c0 := hB.cell 0
  simp at c0
  have HY := Lib.hid hy
  have HL := Lib.hid hy.1
  clear hB hy
  go_enter Try.func26, Try.ntmps26
  go_upto_region 2 with (at_builtin; refine wpList_apB rfl _ _ rfl w.heap.size (.slice none 0 0) [] rfl (World.ownsRow_nil _ _ _ _) ad n c b rfl HY.out (by simp; omega) (Nat.le_refl _) ?_; intro v1 w1 hown hgr; simp only [Act.put, List.setIfInBounds_toArray, List.set_cons_succ, List.set_cons_zero])
  have HK1 := Lib.hid (show Kept Nil w w1 from (Kept.refl Nil w).grown hgr (fun k hk => by cases hk))
  have hown' : w1.ownsRow w.heap.size 5 1 v1 n (bys b) := by rw [← HL.out]; simpa using hown
  obtain ⟨g, cap, r, rfl, hlo, hblo, hc1, hc2⟩ := own_blkB hown' (by omega)
  have HBB := Lib.hid hblo
  have HLO := Lib.hid hlo
  clear hown hown' hgr hblo hlo c0 HY
  go_upto_region 3 with (first
    | (refine wpList_st rfl _ _ _ rfl g i rfl [.int .u8 (x.toNat : Int)] _ rfl rfl infU' 5 _ HBB.out (by rw [List.length_append, bys_len, HL.out]; show i + 1 ≤ n + _; omega) (by intro u hu; simp at hu; subst hu; rfl) ?_; intro w2 hb2 hk2 hz2; clear hz2; simp only [Act.put, List.setIfInBounds_toArray, List.set_cons_succ, List.set_cons_zero])
    | fail)
  have HY2 := Lib.hid (blk_bytB (blk_putB (by rw [HL.out]; exact hi) hb2) n cap (by rw [List.length_set]; exact HL.out) hc1 hc2)
  have HK2 := Lib.hid (HK1.out.fresh hk2 (fun j hj => by cases hj; exact HLO.out))
  clear hb2 hk2 HBB HK1
  go_wp2_with (fail)
  refine (get_yes _ n cap (b.set i x) _ HY2.out (by omega)).mono ?_
  rintro e w3 ⟨rfl, hk⟩
  have HK3 := Lib.hid (HK2.out.then hk)
  clear hk HY2 HK2
  generalize hR : gpM (b.set i x) = R at *
  have HR := Lib.hid hR
  clear hR
  obtain ⟨R1, R2⟩ := R
  dsimp only
  have hB := BPB.new w3 26 Bp.zero
  go_wp2_with (first
    | (refine wpList_st rfl 26 (.tmp 7) _ rfl _ 0 rfl (bpl R1) _ rfl rfl (infBp _) 26 (bpl Bp.zero) hB (by show 0 + 10 ≤ 10; decide) (bpl_one _) ?_; intro w4 hb4 hk4 hz4; simp only [Act.put, List.setIfInBounds_toArray, List.set_cons_succ, List.set_cons_zero])
    | fail)
  have HKF := Lib.hid (HK3.out.then (((Kept.refl Nil w3).alloc (.cells (bpl Bp.zero).toArray 26)).fresh hk4 (fun j hj => by cases hj; exact Nat.le_refl _)))
  clear hb4 hk4 hz4 hB HK3
  go_wp2
  go_ret
  exact ⟨by rw [HR.out]; rfl, HKF.out⟩
end Go.Proofs.Ytbkjobmjapbmpaa
