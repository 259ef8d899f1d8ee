/- tolllaw10.BpduKnown: the walk. -/
import Derived.Test.YtbkjobmjapbmpaaBpKa
import Derived.Test.YtbkjobmjapbmpaaBpF
namespace Go.Proofs.Ytbkjobmjapbmpaa
open Go.RowKit Go.Sort
set_option linter.unusedVariables false

def kB : Bp := ⟨3, 60, 9223374235878031361, 9223374235878031362, 20000, 32769, 256, 5120, 512, 3840⟩
theorem kB_ok : kB.ok := ⟨by decide, by decide, by decide, by decide, by decide, by decide, by decide, by decide, by decide, by decide, by decide⟩
def kBs : List UInt8 := [0, 0, 2, 2, 60, 128, 0, 2, 0, 0, 0, 0, 1, 0, 0, 78, 32, 128, 0, 2, 0, 0, 0, 0, 2, 128, 1, 1, 0, 20, 0, 2, 0, 15, 0, 0]
theorem kB_put : putB kB = (kBs, 0) := by decide +kernel
def kP (k : Int) (p a m : Nat) : Bp := ⟨k, 0, 0, 0, 0, p, a, m, 0, 0⟩
theorem kp1 : putB ⟨2, 0, 0, 0, 0, 1, 0, 0, 0, 0⟩ = ([], 1) := by decide +kernel
theorem kp2 : putB ⟨1, 0, 0, 0, 0, 0, 5, 5, 0, 0⟩ = ([], 1) := by decide +kernel
theorem kp3 : putB Bp.zero = ([], 1) := by decide +kernel
theorem kg1 : gpM [0, 0, 0] = (Bp.zero, 4) := by decide +kernel
theorem kg2 : gpM [0, 0, 0, 0] = (Bp.zero, 4) := by decide +kernel
theorem kg3 : gpM [0, 0, 0, 128, 9, 9] = (Bp.chg, 0) := by decide +kernel
theorem kc : cmpB ⟨0, 0, 1, 0, 9, 0, 0, 0, 0, 0⟩ ⟨0, 0, 2, 0, 0, 0, 0, 0, 0, 0⟩ = -1 ∧ cmpB ⟨2, 0, 5, 0, 0, 0, 0, 0, 0, 0⟩ Bp.zero = 0 := by decide +kernel
theorem inf_sl (v : Value) : (Try.prog.info? 31).map (·.size) = some [v].length := by show _ = some 1; kernel_rfl
theorem k_ok (m : Bp) (h : m = ⟨2, 0, 0, 0, 0, 1, 0, 0, 0, 0⟩ ∨ m = ⟨1, 0, 0, 0, 0, 0, 5, 5, 0, 0⟩) : m.ok := by
  rcases h with rfl | rfl <;> exact ⟨by decide, by decide, by decide, by decide, by decide, by decide, by decide, by decide, by decide, by decide, by decide⟩
theorem ks0 : (gpM (kBs.set 0 1)).2 = 5 := by decide +kernel
theorem kcal0 (gb : Nat) (ad : Addr) (c : Nat) (w : World) (hB : Blo w gb 31 #[.slice (some ad) 36 c]) (hy : Byt w (some ad) 36 c kBs) : Calls Try.prog 26 #[.int .i64 0, .int .u8 1, .pointer (some ⟨gb, 0, none⟩)] w fun e w' => e = .returned (.int .i64 5) ∧ Kept Nil w w' := by
  have := spoil_yes gb ad 36 c kBs 0 (by decide) (by decide) 1 w hB hy
  rw [ks0] at this
  exact this
theorem ks1 : (gpM (kBs.set 3 3)).2 = 5 := by decide +kernel
theorem kcal1 (gb : Nat) (ad : Addr) (c : Nat) (w : World) (hB : Blo w gb 31 #[.slice (some ad) 36 c]) (hy : Byt w (some ad) 36 c kBs) : Calls Try.prog 26 #[.int .i64 3, .int .u8 3, .pointer (some ⟨gb, 0, none⟩)] w fun e w' => e = .returned (.int .i64 5) ∧ Kept Nil w w' := by
  have := spoil_yes gb ad 36 c kBs 3 (by decide) (by decide) 3 w hB hy
  rw [ks1] at this
  exact this
theorem ks2 : (gpM (kBs.set 2 3)).2 = 5 := by decide +kernel
theorem kcal2 (gb : Nat) (ad : Addr) (c : Nat) (w : World) (hB : Blo w gb 31 #[.slice (some ad) 36 c]) (hy : Byt w (some ad) 36 c kBs) : Calls Try.prog 26 #[.int .i64 2, .int .u8 3, .pointer (some ⟨gb, 0, none⟩)] w fun e w' => e = .returned (.int .i64 5) ∧ Kept Nil w w' := by
  have := spoil_yes gb ad 36 c kBs 2 (by decide) (by decide) 3 w hB hy
  rw [ks2] at this
  exact this
theorem ks3 : (gpM (kBs.set 35 1)).2 = 5 := by decide +kernel
theorem kcal3 (gb : Nat) (ad : Addr) (c : Nat) (w : World) (hB : Blo w gb 31 #[.slice (some ad) 36 c]) (hy : Byt w (some ad) 36 c kBs) : Calls Try.prog 26 #[.int .i64 35, .int .u8 1, .pointer (some ⟨gb, 0, none⟩)] w fun e w' => e = .returned (.int .i64 5) ∧ Kept Nil w w' := by
  have := spoil_yes gb ad 36 c kBs 35 (by decide) (by decide) 1 w hB hy
  rw [ks3] at this
  exact this
theorem ks4 : (gpM (kBs.set 29 1)).2 = 5 := by decide +kernel
theorem kcal4 (gb : Nat) (ad : Addr) (c : Nat) (w : World) (hB : Blo w gb 31 #[.slice (some ad) 36 c]) (hy : Byt w (some ad) 36 c kBs) : Calls Try.prog 26 #[.int .i64 29, .int .u8 1, .pointer (some ⟨gb, 0, none⟩)] w fun e w' => e = .returned (.int .i64 5) ∧ Kept Nil w w' := by
  have := spoil_yes gb ad 36 c kBs 29 (by decide) (by decide) 1 w hB hy
  rw [ks4] at this
  exact this
theorem ks5 : (gpM (kBs.set 4 0)).2 = 0 := by decide +kernel
theorem kcal5 (gb : Nat) (ad : Addr) (c : Nat) (w : World) (hB : Blo w gb 31 #[.slice (some ad) 36 c]) (hy : Byt w (some ad) 36 c kBs) : Calls Try.prog 26 #[.int .i64 4, .int .u8 0, .pointer (some ⟨gb, 0, none⟩)] w fun e w' => e = .returned (.int .i64 0) ∧ Kept Nil w w' := by
  have := spoil_yes gb ad 36 c kBs 4 (by decide) (by decide) 0 w hB hy
  rw [ks5] at this
  exact this
set_option maxRecDepth 100000 in
set_option maxHeartbeats 8000000 in
theorem bknown_yes (w : World) : Calls Try.prog 8 #[] w fun e w' => e = .returned (.bool true) ∧ Below w.heap.size w w' := by
  have hM := BPB.new w 26 Bp.zero
  go_enter Try.func8, Try.ntmps8
  go_upto_region 2 with (first
    | (refine wpList_st rfl 26 (.tmp 1) _ rfl _ 0 rfl (bpl kB) _ rfl rfl (infBp _) 26 (bpl Bp.zero) hM (by show 0 + 10 ≤ 10; decide) (bpl_one _) ?_; intro w1 hb1 hk1 hz1; simp only [Act.put, List.setIfInBounds_toArray, List.set_cons_succ, List.set_cons_zero])
    | fail)
  have HP := Lib.hid (BPB.of_all (m := Bp.zero) (m' := kB) hb1)
  have HK := Lib.hid (((Kept.refl Nil w).alloc (.cells (bpl Bp.zero).toArray 26)).fresh hk1 (fun j hj => by cases hj; exact Nat.le_refl _))
  clear hb1 hk1 hz1 hM
  go_wp2_with (first
    | (refine wpList_ld rfl _ _ rfl w.heap.size 0 rfl (bpl kB) HP.out.all _ Try.underlying26 rfl (infBp _) ?_)
    | fail)
  refine (put_yes kB kB_ok _).mono ?_
  rintro e w2 ⟨v2, rfl, hm⟩
  rw [kB_put] at hm ⊢
  have hown : w2.ownsRow w1.heap.size 5 1 v2 36 (bys kBs) := hm.1
  obtain ⟨g, cap, r, rfl, hlo, hblo, hc1, hc2⟩ := own_blkB hown (by decide)
  have HY := Lib.hid (blk_bytB hblo 36 cap rfl hc1 hc2)
  have HK := Lib.hid (HK.out.then hm.2)
  clear hm hown hblo hlo HP
  go_upto_region 3 with (fail)
  refine wp_nameE (fun W => Blo W w2.heap.size 31 #[.slice (some ⟨g, 0, none⟩) 36 cap] ∧ Kept Nil w2 W) ⟨Blo.new w2 _ _, (Kept.refl Nil w2).alloc _⟩ ?_
  rintro w3 ⟨hb3, hk3⟩
  have HS := Lib.hid hb3
  have HY := Lib.hid (HY.out.kept hk3 (fun _ _ hf => hf))
  have HK := Lib.hid (HK.out.then hk3)
  obtain ⟨gb, hgb⟩ : ∃ x, w2.heap.size = x := ⟨_, rfl⟩
  rw [hgb] at HS ⊢
  clear hb3 hk3 hgb
  have c0 := HS.out.cell 0
  simp at c0
  have ht : (convert 31 9 (.slice (some ⟨g, 0, none⟩) 36 cap)).run Try.prog w3 = .ok (.string ⟨#[0, 0, 2, 2, 60, 128, 0, 2, 0, 0, 0, 0, 1, 0, 0, 78, 32, 128, 0, 2, 0, 0, 0, 0, 2, 128, 1, 1, 0, 20, 0, 2, 0, 15, 0, 0]⟩) w3 := HY.out.text (P := Try.prog) Try.underlying31 Try.underlying5 Try.underlying9
  go_wp2_with (fail)
  clear c0 ht
  refine (put_yes ⟨2, 0, 0, 0, 0, 1, 0, 0, 0, 0⟩ (k_ok _ (.inl rfl)) _).mono ?_
  rintro e w4 ⟨v4, rfl, hm⟩
  rw [kp1] at hm ⊢
  have HS := Lib.hid (HS.out.kept hm.2 (fun hf => hf))
  have HY := Lib.hid (HY.out.kept hm.2 (fun _ _ hf => hf))
  have HK := Lib.hid (HK.out.then hm.2)
  clear hm
  dsimp only
  go_wp2_with (fail)
  refine (put_yes ⟨1, 0, 0, 0, 0, 0, 5, 5, 0, 0⟩ (k_ok _ (.inr rfl)) _).mono ?_
  rintro e w5 ⟨v5, rfl, hm⟩
  rw [kp2] at hm ⊢
  have HS := Lib.hid (HS.out.kept hm.2 (fun hf => hf))
  have HY := Lib.hid (HY.out.kept hm.2 (fun _ _ hf => hf))
  have HK := Lib.hid (HK.out.then hm.2)
  clear hm
  dsimp only
  go_wp2_with (fail)
  refine (put_yes Bp.zero (Bp.zero_ok) _).mono ?_
  rintro e w6 ⟨v6, rfl, hm⟩
  rw [kp3] at hm ⊢
  have HS := Lib.hid (HS.out.kept hm.2 (fun hf => hf))
  have HY := Lib.hid (HY.out.kept hm.2 (fun _ _ hf => hf))
  have HK := Lib.hid (HK.out.then hm.2)
  clear hm
  dsimp only
  go_wp2_with (fail)
  have hka := (Kept.refl Nil w6).alloc (.cells #[.int .u8 0, .int .u8 0, .int .u8 0] 5)
  refine (get_yes (some ⟨w6.heap.size, 0, none⟩) 3 3 [0, 0, 0] _ (byt_lit w6 [0, 0, 0] 5 #[.int .u8 0, .int .u8 0, .int .u8 0] rfl 3 rfl _ rfl (by decide)) (by decide)).mono ?_
  rintro e x0 ⟨rfl, hk⟩
  rw [kg1]
  have hk := hka.then hk
  have HS := Lib.hid (HS.out.kept hk (fun hf => hf))
  have HY := Lib.hid (HY.out.kept hk (fun _ _ hf => hf))
  have HK := Lib.hid (HK.out.then hk)
  clear hk hka
  have hB := BPB.new x0 26 Bp.zero
  dsimp only
  go_upto_region 10 with (first
    | (refine wpList_st rfl 26 (.tmp 11) _ rfl _ 0 rfl (bpl Bp.zero) _ rfl rfl (infBp _) 26 (bpl Bp.zero) hB (by decide) (bpl_one _) ?_; intro y0 hb hk hz; simp only [Act.put, List.setIfInBounds_toArray, List.set_cons_succ, List.set_cons_zero])
    | fail)
  have hk := ((Kept.refl Nil x0).alloc (.cells (bpl Bp.zero).toArray 26)).fresh hk (fun i hi => by cases hi; exact Nat.le_refl _)
  have HS := Lib.hid (HS.out.kept hk (fun hf => hf))
  have HY := Lib.hid (HY.out.kept hk (fun _ _ hf => hf))
  have HK := Lib.hid (HK.out.then hk)
  clear hb hk hz hB
  go_wp2_with (fail)
  have hka := (Kept.refl Nil y0).alloc (.cells #[.int .u8 0, .int .u8 0, .int .u8 0, .int .u8 0] 5)
  refine (get_yes (some ⟨y0.heap.size, 0, none⟩) 4 4 [0, 0, 0, 0] _ (byt_lit y0 [0, 0, 0, 0] 5 #[.int .u8 0, .int .u8 0, .int .u8 0, .int .u8 0] rfl 4 rfl _ rfl (by decide)) (by decide)).mono ?_
  rintro e x1 ⟨rfl, hk⟩
  rw [kg2]
  have hk := hka.then hk
  have HS := Lib.hid (HS.out.kept hk (fun hf => hf))
  have HY := Lib.hid (HY.out.kept hk (fun _ _ hf => hf))
  have HK := Lib.hid (HK.out.then hk)
  clear hk hka
  have hB := BPB.new x1 26 Bp.zero
  dsimp only
  go_upto_region 11 with (first
    | (refine wpList_st rfl 26 (.tmp 13) _ rfl _ 0 rfl (bpl Bp.zero) _ rfl rfl (infBp _) 26 (bpl Bp.zero) hB (by decide) (bpl_one _) ?_; intro y1 hb hk hz; simp only [Act.put, List.setIfInBounds_toArray, List.set_cons_succ, List.set_cons_zero])
    | fail)
  have hk := ((Kept.refl Nil x1).alloc (.cells (bpl Bp.zero).toArray 26)).fresh hk (fun i hi => by cases hi; exact Nat.le_refl _)
  have HS := Lib.hid (HS.out.kept hk (fun hf => hf))
  have HY := Lib.hid (HY.out.kept hk (fun _ _ hf => hf))
  have HK := Lib.hid (HK.out.then hk)
  clear hb hk hz hB
  go_wp2_with (fail)
  have hka := (Kept.refl Nil y1).alloc (.cells #[.int .u8 0, .int .u8 0, .int .u8 0, .int .u8 128, .int .u8 9, .int .u8 9] 5)
  refine (get_yes (some ⟨y1.heap.size, 0, none⟩) 6 6 [0, 0, 0, 128, 9, 9] _ (byt_lit y1 [0, 0, 0, 128, 9, 9] 5 #[.int .u8 0, .int .u8 0, .int .u8 0, .int .u8 128, .int .u8 9, .int .u8 9] rfl 6 rfl _ rfl (by decide)) (by decide)).mono ?_
  rintro e x2 ⟨rfl, hk⟩
  rw [kg3]
  have hk := hka.then hk
  have HS := Lib.hid (HS.out.kept hk (fun hf => hf))
  have HY := Lib.hid (HY.out.kept hk (fun _ _ hf => hf))
  have HK := Lib.hid (HK.out.then hk)
  clear hk hka
  have hB := BPB.new x2 26 Bp.zero
  dsimp only
  go_wp2_with (first
    | (refine wpList_st rfl 26 (.tmp 15) _ rfl _ 0 rfl (bpl Bp.chg) _ rfl rfl (infBp _) 26 (bpl Bp.zero) hB (by decide) (bpl_one _) ?_; intro y2 hb hk hz; simp only [Act.put, List.setIfInBounds_toArray, List.set_cons_succ, List.set_cons_zero])
    | fail)
  have hk := ((Kept.refl Nil x2).alloc (.cells (bpl Bp.zero).toArray 26)).fresh hk (fun i hi => by cases hi; exact Nat.le_refl _)
  have HS := Lib.hid (HS.out.kept hk (fun hf => hf))
  have HY := Lib.hid (HY.out.kept hk (fun _ _ hf => hf))
  have HK := Lib.hid (HK.out.then hk)
  have HG := Lib.hid (BPB.of_all (m := Bp.zero) (m' := Bp.chg) hb)
  clear hb hk hz hB
  refine (kcal0 gb _ cap _ HS.out HY.out).mono ?_
  rintro e z0 ⟨rfl, hk⟩
  have HS := Lib.hid (HS.out.kept hk (fun hf => hf))
  have HY := Lib.hid (HY.out.kept hk (fun _ _ hf => hf))
  have HG := Lib.hid (HG.out.kept hk (fun hf => hf))
  have HK := Lib.hid (HK.out.then hk)
  clear hk
  dsimp only
  go_wp2_with (fail)
  refine (kcal1 gb _ cap _ HS.out HY.out).mono ?_
  rintro e z1 ⟨rfl, hk⟩
  have HS := Lib.hid (HS.out.kept hk (fun hf => hf))
  have HY := Lib.hid (HY.out.kept hk (fun _ _ hf => hf))
  have HG := Lib.hid (HG.out.kept hk (fun hf => hf))
  have HK := Lib.hid (HK.out.then hk)
  clear hk
  dsimp only
  go_wp2_with (fail)
  refine (kcal2 gb _ cap _ HS.out HY.out).mono ?_
  rintro e z2 ⟨rfl, hk⟩
  have HS := Lib.hid (HS.out.kept hk (fun hf => hf))
  have HY := Lib.hid (HY.out.kept hk (fun _ _ hf => hf))
  have HG := Lib.hid (HG.out.kept hk (fun hf => hf))
  have HK := Lib.hid (HK.out.then hk)
  clear hk
  dsimp only
  go_wp2_with (fail)
  refine (kcal3 gb _ cap _ HS.out HY.out).mono ?_
  rintro e z3 ⟨rfl, hk⟩
  have HS := Lib.hid (HS.out.kept hk (fun hf => hf))
  have HY := Lib.hid (HY.out.kept hk (fun _ _ hf => hf))
  have HG := Lib.hid (HG.out.kept hk (fun hf => hf))
  have HK := Lib.hid (HK.out.then hk)
  clear hk
  dsimp only
  go_wp2_with (fail)
  refine (kcal4 gb _ cap _ HS.out HY.out).mono ?_
  rintro e z4 ⟨rfl, hk⟩
  have HS := Lib.hid (HS.out.kept hk (fun hf => hf))
  have HY := Lib.hid (HY.out.kept hk (fun _ _ hf => hf))
  have HG := Lib.hid (HG.out.kept hk (fun hf => hf))
  have HK := Lib.hid (HK.out.then hk)
  clear hk
  dsimp only
  go_wp2_with (fail)
  refine (kcal5 gb _ cap _ HS.out HY.out).mono ?_
  rintro e z5 ⟨rfl, hk⟩
  have HS := Lib.hid (HS.out.kept hk (fun hf => hf))
  have HY := Lib.hid (HY.out.kept hk (fun _ _ hf => hf))
  have HG := Lib.hid (HG.out.kept hk (fun hf => hf))
  have HK := Lib.hid (HK.out.then hk)
  clear hk
  dsimp only
  have heq : (Op.equalIn 10000 26 (.agg (bpl Bp.chg).toArray) (.agg (bpl Bp.chg).toArray)).run Try.prog z5 = .ok true z5 := by have := eq_bp Bp.chg Bp.chg z5; rwa [decide_eq_true rfl] at this
  go_wp2_with (first
    | (refine wpList_ld rfl _ _ rfl x2.heap.size 0 rfl (bpl Bp.chg) HG.out.all _ Try.underlying26 rfl (infBp _) ?_; simp only [Act.put, List.setIfInBounds_toArray, List.set_cons_succ, List.set_cons_zero])
    | (refine wpList_eqS rfl _ _ _ _ rfl (bpl Bp.chg).toArray (bpl Bp.chg).toArray rfl rfl (by kernel_rfl) true heq ?_; simp only [Act.put, List.setIfInBounds_toArray, List.set_cons_succ, List.set_cons_zero])
    | fail)
  refine (compare_yes ⟨0, 0, 1, 0, 9, 0, 0, 0, 0, 0⟩ ⟨0, 0, 2, 0, 0, 0, 0, 0, 0, 0⟩ _).mono ?_
  rintro e a1 ⟨rfl, hk⟩
  rw [kc.1]
  have HK := Lib.hid (HK.out.then hk)
  clear hk heq
  dsimp only
  go_wp2_with (fail)
  refine (compare_yes ⟨2, 0, 5, 0, 0, 0, 0, 0, 0, 0⟩ Bp.zero _).mono ?_
  rintro e a2 ⟨rfl, hk⟩
  rw [kc.2]
  have HK := Lib.hid (HK.out.then hk)
  clear hk
  dsimp only
  go_wp2_with (fail)
  refine (rows_yes _).mono ?_
  rintro e a3 ⟨rfl, hk⟩
  have HK := Lib.hid (HK.out.then hk)
  clear hk
  dsimp only
  go_wp2_with (fail)
  go_ret
  exact ⟨rfl, HK.out.below (Nat.le_refl _) (fun _ hf => hf.elim)⟩
end Go.Proofs.Ytbkjobmjapbmpaa
