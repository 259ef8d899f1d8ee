/- tollref10: contract of Compare. -/
import Derived.Test.YtbkjobmjapbmpaaMg6
import Derived.Test.YtbkjobmjapbmpaaMg5
namespace Go.Proofs.Ytbkjobmjapbmpaa
open Go.RowKit Go.Sort
set_option linter.unusedVariables false

def keyL (m : Bp) : List Nat := [m.ro, m.co, m.br, m.po]
def nums64 (l : List Nat) : List Value := l.map fun x : Nat => Value.int .u64 (x : Int)
theorem cmp1_tri (x y : Nat) : (x < y ∧ cmp1 x y = -1) ∨ (x = y ∧ cmp1 x y = 0) ∨ (y < x ∧ cmp1 x y = 1) := by
  unfold cmp1
  rcases Nat.lt_trichotomy x y with h | h | h
  · exact .inl ⟨h, if_pos h⟩
  · exact .inr (.inl ⟨h, by rw [if_neg (by omega), if_neg (by omega)]⟩)
  · exact .inr (.inr ⟨h, by rw [if_neg (by omega), if_pos h]⟩)
theorem inf_a4 (a b c d : Value) : (Try.prog.info? 106).map (·.size) = some [a, b, c, d].length := by show _ = some 4; kernel_rfl
theorem one4 (l : List Nat) : ∀ u ∈ nums64 l, u.oneCell' = true := by
  intro u hu
  obtain ⟨x, _, rfl⟩ := List.mem_map.1 hu
  rfl
set_option maxRecDepth 100000 in
set_option maxHeartbeats 4000000 in
theorem rcmp_yes (x y : Bp) (hx : x.ok) (hy : y.ok) (w : World) : Calls Try.prog 15 #[bpv x, bpv y] w fun e w' => e = .returned (.int .i64 (cmpB x y)) ∧ Kept Nil w w' := by
  have hX := BPB.new w 39 x
  have hY := BPB.new (w.alloc (.cells (bpl x).toArray 39)) 39 y
  have hP := Blo.new ((w.alloc (.cells (bpl x).toArray 39)).alloc (.cells (bpl y).toArray 39)) 106 (nums64 [0, 0, 0, 0]).toArray
  have hQ := Blo.new (((w.alloc (.cells (bpl x).toArray 39)).alloc (.cells (bpl y).toArray 39)).alloc (.cells (nums64 [0, 0, 0, 0]).toArray 106)) 106 (nums64 [0, 0, 0, 0]).toArray
  simp only [World.size_alloc] at hY hP hQ
  have k3 := (Kept.refl Nil ((w.alloc (.cells (bpl x).toArray 39)).alloc (.cells (bpl y).toArray 39))).alloc (.cells (nums64 [0, 0, 0, 0]).toArray 106)
  have k4 := (Kept.refl Nil (((w.alloc (.cells (bpl x).toArray 39)).alloc (.cells (bpl y).toArray 39)).alloc (.cells (nums64 [0, 0, 0, 0]).toArray 106))).alloc (.cells (nums64 [0, 0, 0, 0]).toArray 106)
  have HOX := Lib.hid hx
  have HOY := Lib.hid hy
  clear hx hy
  go_enter Try.func15, Try.ntmps15
  go_upto_region 2 with (fail)
  refine wp_nameE (fun W => BPB W w.heap.size 39 x ∧ BPB W (w.heap.size + 1) 39 y ∧ Blo W (w.heap.size + 1 + 1) 106 (nums64 [0, 0, 0, 0]).toArray ∧ Blo W (w.heap.size + 1 + 1 + 1) 106 (nums64 [0, 0, 0, 0]).toArray ∧ Kept Nil w W) ⟨((hX.kept ((Kept.refl Nil _).alloc _) (fun hf => hf)).kept k3 (fun hf => hf)).kept k4 (fun hf => hf), (hY.kept k3 (fun hf => hf)).kept k4 (fun hf => hf), hP.kept k4 (fun hf => hf), hQ, ((((Kept.refl Nil w).alloc _).alloc _).alloc _).alloc _⟩ ?_
  clear hX hY hP hQ k3 k4
  rintro W ⟨hX, hY, hP, hQ, hk⟩
  obtain ⟨g1, hg1⟩ : ∃ g, w.heap.size = g := ⟨_, rfl⟩
  obtain ⟨g2, hg2⟩ : ∃ g, g1 + 1 = g := ⟨_, rfl⟩
  obtain ⟨g3, hg3⟩ : ∃ g, g2 + 1 = g := ⟨_, rfl⟩
  obtain ⟨g4, hg4⟩ : ∃ g, g3 + 1 = g := ⟨_, rfl⟩
  rw [hg1] at hX hY hP hQ ⊢
  rw [hg2] at hY hP hQ ⊢
  rw [hg3] at hP hQ ⊢
  rw [hg4] at hQ ⊢
  have HX := Lib.hid hX
  have HY := Lib.hid hY
  have HP := Lib.hid hP
  have HQ := Lib.hid hQ
  have HK := Lib.hid hk
  have HGS := Lib.hid (show w.heap.size = g1 ∧ g1 < g2 ∧ g2 < g3 ∧ g3 < g4 by omega)
  clear hX hY hP hQ hk hg1 hg2 hg3 hg4
  have x0 := HX.out.c0
  go_upto_if 10 with (fail)
  go_cut [11] from 11 to 21 (fun _ wx => Hid (Blo wx g3 106 (nums64 (keyL (cpdB x))).toArray ∧ Kept Nil w wx ∧ BPB wx g2 39 y ∧ Blo wx g4 106 (nums64 [0, 0, 0, 0]).toArray))
  case first =>
    by_cases h2 : x.kd = 2
    · have b : (x.kd != 2) = false := by simp [h2]
      have e : keyL (cpdB x) = [0, 0, 0, 0] := by unfold cpdB; rw [if_pos h2]; rfl
      have HE := Lib.hid e
      clear h2 e
      go_wp2_with (fail)
      go_meet
      exact Lib.hid (by rw [HE.out]; exact ⟨HP.out, HK.out, HY.out, HQ.out⟩)
    · have b : (x.kd != 2) = true := by simp [h2]
      have e : keyL (cpdB x) = [x.ro, x.co, x.br, x.po] := by unfold cpdB; rw [if_neg h2]; rfl
      have HE := Lib.hid e
      have x2 := HX.out.c2
      have x3 := HX.out.c3
      have x4 := HX.out.c4
      have x5 := HX.out.c5
      have hco := HOX.out.co
      have hpo := HOX.out.po
      clear h2 e
      go_wp2_with (first
        | (refine wpList_st rfl 106 (.tmp 5) _ rfl g3 0 rfl (nums64 [x.ro, x.co, x.br, x.po]) _ rfl rfl (inf_a4 _ _ _ _) 106 (nums64 [0, 0, 0, 0]) HP.out (by show 0 + 4 ≤ 4; decide) (one4 _) ?_; intro wz hb hk hz; simp only [Act.put, List.setIfInBounds_toArray, List.set_cons_succ, List.set_cons_zero])
        | fail)
      go_meet
      exact Lib.hid (by rw [HE.out]; exact ⟨hb, HK.out.fresh hk (fun i hi => by cases hi; have := HGS.out; omega), HY.out.kept hk (fun hf => absurd hf (by have := HGS.out; unfold One; omega)), HQ.out.kept hk (fun hf => absurd hf (by have := HGS.out; unfold One; omega))⟩)
  case rest =>
  obtain ⟨hP, hK, hY, hQ⟩ := hcut.out
  have HP := Lib.hid hP
  have HK := Lib.hid hK
  have HY := Lib.hid hY
  have HQ := Lib.hid hQ
  clear hcut hP hK hY hQ HX x0
  have y0 := HY.out.c0
  go_upto_if 24 with (fail)
  go_cut [25] from 25 to 35 (fun _ wx => Hid (Blo wx g3 106 (nums64 (keyL (cpdB x))).toArray ∧ Kept Nil w wx ∧ Blo wx g4 106 (nums64 (keyL (cpdB y))).toArray))
  case first =>
    by_cases h2 : y.kd = 2
    · have b : (y.kd != 2) = false := by simp [h2]
      have e : keyL (cpdB y) = [0, 0, 0, 0] := by unfold cpdB; rw [if_pos h2]; rfl
      have HE := Lib.hid e
      clear h2 e
      go_wp2_with (fail)
      go_meet
      exact Lib.hid (by rw [HE.out]; exact ⟨HP.out, HK.out, HQ.out⟩)
    · have b : (y.kd != 2) = true := by simp [h2]
      have e : keyL (cpdB y) = [y.ro, y.co, y.br, y.po] := by unfold cpdB; rw [if_neg h2]; rfl
      have HE := Lib.hid e
      have y2 := HY.out.c2
      have y3 := HY.out.c3
      have y4 := HY.out.c4
      have y5 := HY.out.c5
      have hco := HOY.out.co
      have hpo := HOY.out.po
      clear h2 e
      go_wp2_with (first
        | (refine wpList_st rfl 106 (.tmp 6) _ rfl g4 0 rfl (nums64 [y.ro, y.co, y.br, y.po]) _ rfl rfl (inf_a4 _ _ _ _) 106 (nums64 [0, 0, 0, 0]) HQ.out (by show 0 + 4 ≤ 4; decide) (one4 _) ?_; intro wz hb hk hz; simp only [Act.put, List.setIfInBounds_toArray, List.set_cons_succ, List.set_cons_zero])
        | fail)
      go_meet
      exact Lib.hid (by rw [HE.out]; exact ⟨HP.out.kept hk (fun hf => absurd hf (by have := HGS.out; unfold One; omega)), HK.out.fresh hk (fun i hi => by cases hi; have := HGS.out; omega), hb⟩)
  case rest =>
  obtain ⟨hP, hK, hQ⟩ := hcut.out
  have HP := Lib.hid hP
  have HK := Lib.hid hK
  have HQ := Lib.hid hQ
  clear hcut hP hK hQ y0
  have HC := Lib.hid (show cmpB x y = orI (cmpL (cpdB x) (cpdB y)) from rfl)
  generalize cpdB x = X at *
  generalize cpdB y = Y at *
  go_upto_region 6 with (fail)
  refine wp_nameE (fun V => Blo V g3 106 (nums64 (keyL X)).toArray ∧ Kept Nil w V ∧ Blo V g4 106 (nums64 (keyL Y)).toArray) ⟨HP.out, HK.out, HQ.out⟩ ?_
  clear HP HK HQ
  rintro V ⟨hP, hK, hQ⟩
  have HP := Lib.hid hP
  have HK := Lib.hid hK
  have HQ := Lib.hid hQ
  clear hP hK hQ
  go_wp2
  go_loopw [7] (fun i wr => ∃ k : Nat, k ≤ 4 ∧ i = .int .i64 (k : Int) ∧ orI ((cmpL X Y).drop k) = cmpB x y ∧ Kept Nil V wr) (fun i _ => 4 - (intOf i).toNat)
  case atStart => exact ⟨0, by omega, rfl, HC.out.symm, Kept.refl Nil V⟩
  case round =>
    obtain ⟨k, hk, rfl, ho, hkp⟩ := hrel
    have HKP := Lib.hid hkp
    have hk4 : k = 0 ∨ k = 1 ∨ k = 2 ∨ k = 3 ∨ k = 4 := by omega
    have hP := HP.out.kept hkp (fun hf => hf)
    have hQ := HQ.out.kept hkp (fun hf => hf)
    clear hkp hk
    rcases hk4 with rfl | rfl | rfl | rfl | rfl
    · have HO := Lib.hid (show (if cmp1 X.ro Y.ro = 0 then orI ((cmpL X Y).drop 1) else cmp1 X.ro Y.ro) = cmpB x y by rw [← ho]; rfl)
      have ca : wr.cell? ⟨g3, 0, none⟩ = some (Value.int .u64 (X.ro : Int)) := hP.cell 0
      have cb : wr.cell? ⟨g4, 0, none⟩ = some (Value.int .u64 (Y.ro : Int)) := hQ.cell 0
      generalize X.ro = a at *
      generalize Y.ro = b at *
      clear ho hP hQ
      have pa := fun d os => (kept_grown' wr d os).cell ca (fun hf => hf)
      have pb := fun d os => (kept_grown' wr d os).cell cb (fun hf => hf)
      have HCA := Lib.hid ca
      have HCB := Lib.hid cb
      clear ca cb
      go_upto_region 9 with (fail)
      refine wp_region_quiet_below (by kernel_rfl) (by kernel_rfl) ?_
      repeat (go_big_quiet_step (fail))
      refine wpQuiet_nil ?_
      rintro u ⟨nq, hw⟩
      have hku : Kept Nil wr u := by rw [hw]; exact kept_grown _ _
      have HKU := Lib.hid (HKP.out.then hku)
      have ca := hku.cell HCA.out (fun hf => hf)
      have cb := hku.cell HCB.out (fun hf => hf)
      have pa := fun d os => (kept_grown' u d os).cell ca (fun hf => hf)
      have pb := fun d os => (kept_grown' u d os).cell cb (fun hf => hf)
      clear hw hku HCA HCB ca cb
      rcases cmp1_tri a b with h | h | h
      · have hl : a < b := h.1
        have HO := Lib.hid (show -1 = cmpB x y by have := HO.out; rw [h.2] at this; simpa using this)
        clear h pa pb
        go_wp2
        go_ret
        exact ⟨by rw [← HO.out]; rfl, HK.out.then HKU.out⟩
      · have hl : ¬ a < b := by omega
        have hl2 : ¬ b < a := by omega
        have HO := Lib.hid (show orI ((cmpL X Y).drop 1) = cmpB x y by have := HO.out; rw [h.2] at this; simpa using this)
        clear h
        go_upto_region 11 with (fail)
        refine wp_region_quiet_below (by kernel_rfl) (by kernel_rfl) ?_
        repeat (go_big_quiet_step (fail))
        refine wpQuiet_nil ?_
        rintro u2 ⟨nq, hw⟩
        have HKU := Lib.hid (HKU.out.then (show Kept Nil u u2 from by rw [hw]; exact kept_grown _ _))
        clear hw pa pb
        go_wp2
        go_roundw
        case rel => exact ⟨1, by omega, rfl, HO.out, HKU.out⟩
        case measure => decide
      · have hl : ¬ a < b := by omega
        have hl2 : b < a := h.1
        have HO := Lib.hid (show 1 = cmpB x y by have := HO.out; rw [h.2] at this; simpa using this)
        clear h
        go_upto_region 11 with (fail)
        refine wp_region_quiet_below (by kernel_rfl) (by kernel_rfl) ?_
        repeat (go_big_quiet_step (fail))
        refine wpQuiet_nil ?_
        rintro u2 ⟨nq, hw⟩
        have HKU := Lib.hid (HKU.out.then (show Kept Nil u u2 from by rw [hw]; exact kept_grown _ _))
        clear hw pa pb
        go_wp2
        go_ret
        exact ⟨by rw [← HO.out]; rfl, HK.out.then HKU.out⟩
    · have HO := Lib.hid (show (if cmp1 X.co Y.co = 0 then orI ((cmpL X Y).drop 2) else cmp1 X.co Y.co) = cmpB x y by rw [← ho]; rfl)
      have ca : wr.cell? ⟨g3, 1, none⟩ = some (Value.int .u64 (X.co : Int)) := hP.cell 1
      have cb : wr.cell? ⟨g4, 1, none⟩ = some (Value.int .u64 (Y.co : Int)) := hQ.cell 1
      generalize X.co = a at *
      generalize Y.co = b at *
      clear ho hP hQ
      have pa := fun d os => (kept_grown' wr d os).cell ca (fun hf => hf)
      have pb := fun d os => (kept_grown' wr d os).cell cb (fun hf => hf)
      have HCA := Lib.hid ca
      have HCB := Lib.hid cb
      clear ca cb
      go_upto_region 9 with (fail)
      refine wp_region_quiet_below (by kernel_rfl) (by kernel_rfl) ?_
      repeat (go_big_quiet_step (fail))
      refine wpQuiet_nil ?_
      rintro u ⟨nq, hw⟩
      have hku : Kept Nil wr u := by rw [hw]; exact kept_grown _ _
      have HKU := Lib.hid (HKP.out.then hku)
      have ca := hku.cell HCA.out (fun hf => hf)
      have cb := hku.cell HCB.out (fun hf => hf)
      have pa := fun d os => (kept_grown' u d os).cell ca (fun hf => hf)
      have pb := fun d os => (kept_grown' u d os).cell cb (fun hf => hf)
      clear hw hku HCA HCB ca cb
      rcases cmp1_tri a b with h | h | h
      · have hl : a < b := h.1
        have HO := Lib.hid (show -1 = cmpB x y by have := HO.out; rw [h.2] at this; simpa using this)
        clear h pa pb
        go_wp2
        go_ret
        exact ⟨by rw [← HO.out]; rfl, HK.out.then HKU.out⟩
      · have hl : ¬ a < b := by omega
        have hl2 : ¬ b < a := by omega
        have HO := Lib.hid (show orI ((cmpL X Y).drop 2) = cmpB x y by have := HO.out; rw [h.2] at this; simpa using this)
        clear h
        go_upto_region 11 with (fail)
        refine wp_region_quiet_below (by kernel_rfl) (by kernel_rfl) ?_
        repeat (go_big_quiet_step (fail))
        refine wpQuiet_nil ?_
        rintro u2 ⟨nq, hw⟩
        have HKU := Lib.hid (HKU.out.then (show Kept Nil u u2 from by rw [hw]; exact kept_grown _ _))
        clear hw pa pb
        go_wp2
        go_roundw
        case rel => exact ⟨2, by omega, rfl, HO.out, HKU.out⟩
        case measure => decide
      · have hl : ¬ a < b := by omega
        have hl2 : b < a := h.1
        have HO := Lib.hid (show 1 = cmpB x y by have := HO.out; rw [h.2] at this; simpa using this)
        clear h
        go_upto_region 11 with (fail)
        refine wp_region_quiet_below (by kernel_rfl) (by kernel_rfl) ?_
        repeat (go_big_quiet_step (fail))
        refine wpQuiet_nil ?_
        rintro u2 ⟨nq, hw⟩
        have HKU := Lib.hid (HKU.out.then (show Kept Nil u u2 from by rw [hw]; exact kept_grown _ _))
        clear hw pa pb
        go_wp2
        go_ret
        exact ⟨by rw [← HO.out]; rfl, HK.out.then HKU.out⟩
    · have HO := Lib.hid (show (if cmp1 X.br Y.br = 0 then orI ((cmpL X Y).drop 3) else cmp1 X.br Y.br) = cmpB x y by rw [← ho]; rfl)
      have ca : wr.cell? ⟨g3, 2, none⟩ = some (Value.int .u64 (X.br : Int)) := hP.cell 2
      have cb : wr.cell? ⟨g4, 2, none⟩ = some (Value.int .u64 (Y.br : Int)) := hQ.cell 2
      generalize X.br = a at *
      generalize Y.br = b at *
      clear ho hP hQ
      have pa := fun d os => (kept_grown' wr d os).cell ca (fun hf => hf)
      have pb := fun d os => (kept_grown' wr d os).cell cb (fun hf => hf)
      have HCA := Lib.hid ca
      have HCB := Lib.hid cb
      clear ca cb
      go_upto_region 9 with (fail)
      refine wp_region_quiet_below (by kernel_rfl) (by kernel_rfl) ?_
      repeat (go_big_quiet_step (fail))
      refine wpQuiet_nil ?_
      rintro u ⟨nq, hw⟩
      have hku : Kept Nil wr u := by rw [hw]; exact kept_grown _ _
      have HKU := Lib.hid (HKP.out.then hku)
      have ca := hku.cell HCA.out (fun hf => hf)
      have cb := hku.cell HCB.out (fun hf => hf)
      have pa := fun d os => (kept_grown' u d os).cell ca (fun hf => hf)
      have pb := fun d os => (kept_grown' u d os).cell cb (fun hf => hf)
      clear hw hku HCA HCB ca cb
      rcases cmp1_tri a b with h | h | h
      · have hl : a < b := h.1
        have HO := Lib.hid (show -1 = cmpB x y by have := HO.out; rw [h.2] at this; simpa using this)
        clear h pa pb
        go_wp2
        go_ret
        exact ⟨by rw [← HO.out]; rfl, HK.out.then HKU.out⟩
      · have hl : ¬ a < b := by omega
        have hl2 : ¬ b < a := by omega
        have HO := Lib.hid (show orI ((cmpL X Y).drop 3) = cmpB x y by have := HO.out; rw [h.2] at this; simpa using this)
        clear h
        go_upto_region 11 with (fail)
        refine wp_region_quiet_below (by kernel_rfl) (by kernel_rfl) ?_
        repeat (go_big_quiet_step (fail))
        refine wpQuiet_nil ?_
        rintro u2 ⟨nq, hw⟩
        have HKU := Lib.hid (HKU.out.then (show Kept Nil u u2 from by rw [hw]; exact kept_grown _ _))
        clear hw pa pb
        go_wp2
        go_roundw
        case rel => exact ⟨3, by omega, rfl, HO.out, HKU.out⟩
        case measure => decide
      · have hl : ¬ a < b := by omega
        have hl2 : b < a := h.1
        have HO := Lib.hid (show 1 = cmpB x y by have := HO.out; rw [h.2] at this; simpa using this)
        clear h
        go_upto_region 11 with (fail)
        refine wp_region_quiet_below (by kernel_rfl) (by kernel_rfl) ?_
        repeat (go_big_quiet_step (fail))
        refine wpQuiet_nil ?_
        rintro u2 ⟨nq, hw⟩
        have HKU := Lib.hid (HKU.out.then (show Kept Nil u u2 from by rw [hw]; exact kept_grown _ _))
        clear hw pa pb
        go_wp2
        go_ret
        exact ⟨by rw [← HO.out]; rfl, HK.out.then HKU.out⟩
    · have HO := Lib.hid (show (if cmp1 X.po Y.po = 0 then orI ((cmpL X Y).drop 4) else cmp1 X.po Y.po) = cmpB x y by rw [← ho]; rfl)
      have ca : wr.cell? ⟨g3, 3, none⟩ = some (Value.int .u64 (X.po : Int)) := hP.cell 3
      have cb : wr.cell? ⟨g4, 3, none⟩ = some (Value.int .u64 (Y.po : Int)) := hQ.cell 3
      generalize X.po = a at *
      generalize Y.po = b at *
      clear ho hP hQ
      have pa := fun d os => (kept_grown' wr d os).cell ca (fun hf => hf)
      have pb := fun d os => (kept_grown' wr d os).cell cb (fun hf => hf)
      have HCA := Lib.hid ca
      have HCB := Lib.hid cb
      clear ca cb
      go_upto_region 9 with (fail)
      refine wp_region_quiet_below (by kernel_rfl) (by kernel_rfl) ?_
      repeat (go_big_quiet_step (fail))
      refine wpQuiet_nil ?_
      rintro u ⟨nq, hw⟩
      have hku : Kept Nil wr u := by rw [hw]; exact kept_grown _ _
      have HKU := Lib.hid (HKP.out.then hku)
      have ca := hku.cell HCA.out (fun hf => hf)
      have cb := hku.cell HCB.out (fun hf => hf)
      have pa := fun d os => (kept_grown' u d os).cell ca (fun hf => hf)
      have pb := fun d os => (kept_grown' u d os).cell cb (fun hf => hf)
      clear hw hku HCA HCB ca cb
      rcases cmp1_tri a b with h | h | h
      · have hl : a < b := h.1
        have HO := Lib.hid (show -1 = cmpB x y by have := HO.out; rw [h.2] at this; simpa using this)
        clear h pa pb
        go_wp2
        go_ret
        exact ⟨by rw [← HO.out]; rfl, HK.out.then HKU.out⟩
      · have hl : ¬ a < b := by omega
        have hl2 : ¬ b < a := by omega
        have HO := Lib.hid (show orI ((cmpL X Y).drop 4) = cmpB x y by have := HO.out; rw [h.2] at this; simpa using this)
        clear h
        go_upto_region 11 with (fail)
        refine wp_region_quiet_below (by kernel_rfl) (by kernel_rfl) ?_
        repeat (go_big_quiet_step (fail))
        refine wpQuiet_nil ?_
        rintro u2 ⟨nq, hw⟩
        have HKU := Lib.hid (HKU.out.then (show Kept Nil u u2 from by rw [hw]; exact kept_grown _ _))
        clear hw pa pb
        go_wp2
        go_roundw
        case rel => exact ⟨4, by omega, rfl, HO.out, HKU.out⟩
        case measure => decide
      · have hl : ¬ a < b := by omega
        have hl2 : b < a := h.1
        have HO := Lib.hid (show 1 = cmpB x y by have := HO.out; rw [h.2] at this; simpa using this)
        clear h
        go_upto_region 11 with (fail)
        refine wp_region_quiet_below (by kernel_rfl) (by kernel_rfl) ?_
        repeat (go_big_quiet_step (fail))
        refine wpQuiet_nil ?_
        rintro u2 ⟨nq, hw⟩
        have HKU := Lib.hid (HKU.out.then (show Kept Nil u u2 from by rw [hw]; exact kept_grown _ _))
        clear hw pa pb
        go_wp2
        go_ret
        exact ⟨by rw [← HO.out]; rfl, HK.out.then HKU.out⟩
    · have HO := Lib.hid (show 0 = cmpB x y by rw [← ho]; rfl)
      clear ho hP hQ
      go_wp2
      go_ret
      exact ⟨by rw [← HO.out]; rfl, HK.out.then HKP.out⟩
end Go.Proofs.Ytbkjobmjapbmpaa
