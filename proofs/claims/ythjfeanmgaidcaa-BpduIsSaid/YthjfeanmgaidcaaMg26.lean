/- Texts that belong together, one behind the other: BpJ, BpL. Conditions: those of each. -/
import Derived.Test.YthjfeanmgaidcaaMg6
import Derived.Test.YthjfeanmgaidcaaMg25
import Derived.Test.YthjfeanmgaidcaaMg5
/- Package bpdu: bridges, llc, Is. -/
namespace Go.Proofs.Ythjfeanmgaidcaa
open Go.RowKit Go.Sort
set_option linter.unusedVariables false

def brd : List UInt8 := [1, 128, 194, 0, 0, 0]
def lcb : List UInt8 := [66, 66, 3]
def isF (f : Fr) : Bool := (f.d == brd) && (decide (f.k = 2) && (f.l == lcb))
theorem inf_mac (l : List UInt8) (h : l.length = 6) : (Try.prog.info? 26).map (·.size) = some (bys l).length := by rw [bys_len, h]; kernel_rfl
theorem inf_b3 (l : List UInt8) (h : l.length = 3) : (Try.prog.info? 55).map (·.size) = some (bys l).length := by rw [bys_len, h]; kernel_rfl
set_option maxRecDepth 100000 in
theorem bridges_yes (w : World) : Calls Try.prog 40 #[] w fun e w' => e = .returned (.agg (bys brd).toArray) ∧ Kept Nil w w' := by
  have hB := Blo.new w 26 (bys [0, 0, 0, 0, 0, 0]).toArray
  go_enter Try.func40, Try.ntmps40
  go_wp2_with (first
    | (refine wpList_st rfl 26 (.tmp 0) _ rfl _ 0 rfl (bys brd) _ rfl rfl (inf_mac _ rfl) 26 (bys [0, 0, 0, 0, 0, 0]) hB (by decide) (bys_one _) ?_; intro w2 hb2 hk2 hz2)
    | fail)
  have h2 : Blo w2 w.heap.size 26 (bys brd).toArray := hb2
  refine bodyPost_ret (res_cell0 Try.results40 rfl (Blo.row [] (bys brd) [] (by simpa using h2)) Try.underlying26 rfl (inf_mac _ rfl)) rfl ⟨rfl, ?_⟩
  exact ((Kept.refl Nil w).alloc (.cells (bys [0, 0, 0, 0, 0, 0]).toArray 26)).fresh hk2 (fun i hi => by cases hi; exact Nat.le_refl _)
set_option maxRecDepth 100000 in
theorem llc_yes (w : World) : Calls Try.prog 41 #[] w fun e w' => e = .returned (.agg (bys lcb).toArray) ∧ Kept Nil w w' := by
  have hB := Blo.new w 55 (bys [0, 0, 0]).toArray
  go_enter Try.func41, Try.ntmps41
  go_wp2_with (first
    | (refine wpList_st rfl 55 (.tmp 0) _ rfl _ 0 rfl (bys lcb) _ rfl rfl (inf_b3 _ rfl) 55 (bys [0, 0, 0]) hB (by decide) (bys_one _) ?_; intro w2 hb2 hk2 hz2)
    | fail)
  have h2 : Blo w2 w.heap.size 55 (bys lcb).toArray := hb2
  refine bodyPost_ret (res_cell0 Try.results41 rfl (Blo.row [] (bys lcb) [] (by simpa using h2)) Try.underlying55 rfl (inf_b3 _ rfl)) rfl ⟨rfl, ?_⟩
  exact ((Kept.refl Nil w).alloc (.cells (bys [0, 0, 0]).toArray 55)).fresh hk2 (fun i hi => by cases hi; exact Nat.le_refl _)
theorem eq_macs (a b : List UInt8) (ha : a.length = 6) (hb : b.length = 6) (w : World) : (Op.equalIn 10000 26 (.agg (bys a).toArray) (.agg (bys b).toArray)).run Try.prog w = .ok (a == b) w := run_equalIn_bytes w 9998 26 5 6 Try.underlying26 Try.underlying5 siz5 _ _ ha hb
theorem eq_b3 (a b : List UInt8) (ha : a.length = 3) (hb : b.length = 3) (w : World) : (Op.equalIn 10000 55 (.agg (bys a).toArray) (.agg (bys b).toArray)).run Try.prog w = .ok (a == b) w := run_equalIn_bytes w 9998 55 5 3 Try.underlying55 Try.underlying5 siz5 _ _ ha hb
end Go.Proofs.Ythjfeanmgaidcaa
/- Package bpdu: Is. -/
namespace Go.Proofs.Ythjfeanmgaidcaa
open Go.RowKit Go.Sort
set_option linter.unusedVariables false

theorem isF_d (f : Fr) (h : (f.d == brd) = false) : isF f = false := by unfold isF; rw [h]; rfl
theorem isF_k (f : Fr) (h : f.k ≠ 2) : isF f = false := by unfold isF; simp [h]
theorem isF_l (f : Fr) (h : (f.d == brd) = true) (hk : f.k = 2) : isF f = (f.l == lcb) := by unfold isF; simp [h, hk]
theorem infFr (f : Fr) (vt vb vr : Value) (h : f.six) : (Try.prog.info? 57).map (·.size) = some (fcs f vt vb vr).length := by rw [fcs_len h]; kernel_rfl
set_option maxRecDepth 100000 in
set_option maxHeartbeats 2000000 in
theorem is_yes (f : Fr) (hs : f.six) (vt vb vr : Value) (w : World) : Calls Try.prog 18 #[frv f vt vb vr] w fun e w' => e = .returned (.bool (isF f)) ∧ Kept Nil w w' := by
  have hP := FB.new w 57 f vt vb vr
  have HS := Lib.hid hs
  go_enter Try.func18, Try.ntmps18
  go_upto_region 1 with (fail)
  refine wp_nameE (fun W => FB W w.heap.size 57 f vt vb vr ∧ Kept Nil w W) ⟨hP, (Kept.refl Nil w).alloc _⟩ ?_
  clear hP hs
  rintro W ⟨hP, hk⟩
  have HP := Lib.hid hP
  have HK := Lib.hid hk
  obtain ⟨gm, hgm⟩ : ∃ x, w.heap.size = x := ⟨_, rfl⟩
  rw [hgm] at HP ⊢
  clear hP hk hgm
  have ck := fun d os => (HP.out.kept (kept_grown' W d os) (fun hf => hf)).ck HS.out
  refine wp_region_quiet_below (by kernel_rfl) (by kernel_rfl) ?_
  go_big_quiet_step (fail)
  refine wpQuiet_ld rfl _ _ rfl gm 0 rfl (bys f.d) (fun w1 hw => row_grown HP.out.rd hw) _ Try.underlying26 rfl (inf_mac _ HS.out.d) ?_; simp only [Act.put, List.setIfInBounds_toArray, List.set_cons_succ, List.set_cons_zero]
  go_big_quiet_step (exact quietK (bridges_yes _))
  refine wpQuiet_eqS rfl _ _ _ _ rfl (bys f.d).toArray (bys brd).toArray rfl rfl (by kernel_rfl) _ (fun w1 => eq_macs f.d brd HS.out.d rfl w1) ?_; simp only [Act.put, List.setIfInBounds_toArray, List.set_cons_succ, List.set_cons_zero]
  cases hd : f.d == brd
  · have HM := Lib.hid (isF_d f hd)
    clear hd
    repeat (go_big_quiet_step (fail))
    refine wpQuiet_nil ?_
    rintro u ⟨nq, hw⟩
    have HKZ := Lib.hid (HK.out.then (show Kept Nil W u from by rw [hw]; exact kept_grown _ _))
    clear hw ck
    go_wp2
    go_ret
    exact ⟨by rw [HM.out]; rfl, HKZ.out⟩
  · by_cases hk2 : f.k = 2
    · have bk : (f.k == 2) = true := by simp [hk2]
      have HM := Lib.hid (isF_l f hd hk2)
      clear hd hk2
      repeat (first
        | (refine wpQuiet_ld rfl _ _ rfl gm 15 rfl (bys f.l) (fun w1 hw => row_grown (HP.out.rl HS.out) hw) _ Try.underlying55 rfl (inf_b3 _ HS.out.l) ?_; simp only [Act.put, List.setIfInBounds_toArray, List.set_cons_succ, List.set_cons_zero])
        | (refine wpQuiet_eqS rfl _ _ _ _ rfl (bys f.l).toArray (bys lcb).toArray rfl rfl (by kernel_rfl) _ (fun w1 => eq_b3 f.l lcb HS.out.l rfl w1) ?_; simp only [Act.put, List.setIfInBounds_toArray, List.set_cons_succ, List.set_cons_zero])
        | (go_big_quiet_step (exact quietK (llc_yes _))))
      refine wpQuiet_nil ?_
      rintro u ⟨nq, hw⟩
      have HKZ := Lib.hid (HK.out.then (show Kept Nil W u from by rw [hw]; exact kept_grown _ _))
      clear hw ck
      go_wp2
      go_ret
      exact ⟨by rw [HM.out]; rfl, HKZ.out⟩
    · have bk : (f.k == 2) = false := by simp [hk2]
      have HM := Lib.hid (isF_k f hk2)
      clear hd hk2
      repeat (go_big_quiet_step (fail))
      refine wpQuiet_nil ?_
      rintro u ⟨nq, hw⟩
      have HKZ := Lib.hid (HK.out.then (show Kept Nil W u from by rw [hw]; exact kept_grown _ _))
      clear hw ck
      go_wp2
      go_ret
      exact ⟨by rw [HM.out]; rfl, HKZ.out⟩
end Go.Proofs.Ythjfeanmgaidcaa
