/- tolllaw09.DhcpKnown: the walk. -/
import Derived.Test.YtbkjobmjapbmpaaDhKa
import Derived.Test.YtbkjobmjapbmpaaDhPa
import Derived.Test.YtbkjobmjapbmpaaDhP
namespace Go.Proofs.Ytbkjobmjapbmpaa
open Go.RowKit Go.Sort
set_option linter.unusedVariables false

def kM : Dh := ⟨2, 3, 16909060, 1286, 32768, 167772161, 167772162, 167772163, 167772164, [2, 0, 0, 0, 0, 7], zer 10, zer 64, zer 128, [(53, [5]), (51, [0, 0, 14, 16]), (50, [10, 0, 0, 9])], []⟩
theorem kM_ok : kM.ok := ⟨⟨rfl, rfl, rfl, rfl⟩, by decide, by decide, by decide, by decide, by decide, by decide, by decide⟩
def kL : List UInt8 := [2, 1, 6, 3, 1, 2, 3, 4, 5, 6, 128, 0, 10, 0, 0, 1, 10, 0, 0, 2, 10, 0, 0, 3, 10, 0, 0, 4, 2, 0, 0, 0, 0, 7]
theorem kM_may : mayD kM = true := by decide +kernel
theorem kM_len : (formB kM).length = 256 := by decide +kernel
theorem kM_pre : (formB kM).take 34 = kL := by decide +kernel
theorem kM_end : (formB kM)[255]? = some 255 := by decide +kernel
theorem kM_51 : numD 51 kM.os = (3600, true) := by decide +kernel
theorem kM_50 : numD 50 kM.os = (167772169, true) := by decide +kernel
theorem kM_ty : typD kM.os = 5 := by decide +kernel
theorem kn_i : (getD ((plainB [255]).set 0 3)).2 = 5 ∧ (getD ((plainB [255]).set 1 2)).2 = 5 ∧ (getD ((plainB [255]).set 2 5)).2 = 5 ∧ (getD ((plainB [255]).set 239 0)).2 = 5 ∧ (getD ((plainB [255]).set 3 9)).2 = 0 := by decide +kernel
theorem kn_g1 : getD (plainB [53, 2, 1, 255]) = (Dh.zero, 4) := by rw [getD_plain]; rfl
theorem kn_g2 : getD (plainB [53]) = (Dh.zero, 4) := by rw [getD_plain]; rfl
theorem kn_g3 : getD ((plainB [53, 0, 255]).take 239) = (Dh.zero, 4) := by
  unfold getD
  rw [if_pos (by rw [List.length_take, plainB_len]; decide)]
def kH : Dh := { plainH with os := [(53, [])], bh := [1, 2] }
theorem kn_h : getD (plainB [53, 0, 255, 1, 2]) = (kH, 0) := by rw [getD_plain]; rfl
theorem kn_b1 : bytesD { Dh.zero with op := 3 } = ([], 1) := by decide +kernel
theorem kn_b2 : bytesD { plainH with os := [(255, [])] } = ([], 1) := by decide +kernel
theorem bd_km (A : Option Addr) (n c : Nat) (w : World) : (Instr.build 73 #[(0, .int .u8 2), (1, .int .u8 3), (2, .int .u32 16909060), (3, .int .u16 1286), (4, .int .u16 32768), (5, .int .u32 167772161), (6, .int .u32 167772162), (7, .int .u32 167772163), (8, .int .u32 167772164), (9, .agg #[.int .u8 2, .int .u8 0, .int .u8 0, .int .u8 0, .int .u8 0, .int .u8 7]), (13, .slice A n c)]).run Try.prog w = .ok (dhv kM (.slice A n c) nilv) w := by kernel_rfl
def kA : Obj := .cells #[.int .u8 5] 5
def kB : Obj := .cells #[.int .u8 0, .int .u8 0, .int .u8 14, .int .u8 16] 5
def kC : Obj := .cells #[.int .u8 10, .int .u8 0, .int .u8 0, .int .u8 9] 5
def kD (g : Nat) : Obj := .cells #[.int .u8 53, .slice (some ⟨g, 0, none⟩) 1 1, .int .u8 51, .slice (some ⟨g + 1, 0, none⟩) 4 4, .int .u8 50, .slice (some ⟨g + 1 + 1, 0, none⟩) 4 4] 85
/-- What the literal lays. -/
theorem kn_lay (w W : World) (hk : Kept Nil ((((w.alloc kA).alloc kB).alloc kC).alloc (kD w.heap.size)) W) : DhIn (fun _ => True) W kM (.slice (some ⟨w.heap.size + 1 + 1 + 1, 0, none⟩) 3 3) nilv ∧ Kept Nil w W := by
  have h3 := ((Kept.refl Nil (((w.alloc kA).alloc kB).alloc kC)).alloc (kD w.heap.size)).then hk
  have h2 := ((Kept.refl Nil ((w.alloc kA).alloc kB)).alloc kC).then h3
  have h1 := ((Kept.refl Nil (w.alloc kA)).alloc kB).then h2
  have h0 := ((Kept.refl Nil w).alloc kA).then h1
  have b1 := (byt_lit w [5] 5 #[.int .u8 5] rfl 1 rfl w.heap.size rfl (by decide)).kept h1 (fun _ _ hf => hf)
  have b2 := (byt_lit (w.alloc kA) [0, 0, 14, 16] 5 #[.int .u8 0, .int .u8 0, .int .u8 14, .int .u8 16] rfl 4 rfl (w.heap.size + 1) (by simp) (by decide)).kept h2 (fun _ _ hf => hf)
  have b3 := (byt_lit ((w.alloc kA).alloc kB) [10, 0, 0, 9] 5 #[.int .u8 10, .int .u8 0, .int .u8 0, .int .u8 9] rfl 4 rfl (w.heap.size + 1 + 1) (by simp) (by decide)).kept h3 (fun _ _ hf => hf)
  have bs : Blo W (w.heap.size + 1 + 1 + 1) 85 #[.int .u8 53, .slice (some ⟨w.heap.size, 0, none⟩) 1 1, .int .u8 51, .slice (some ⟨w.heap.size + 1, 0, none⟩) 4 4, .int .u8 50, .slice (some ⟨w.heap.size + 1 + 1, 0, none⟩) 4 4] := (Blo.at_new (by simp)).kept hk (fun hf => hf)
  refine ⟨⟨kM_ok, ⟨_, 3, 3, rfl, opts_rows [[.int .u8 53, .slice (some ⟨w.heap.size, 0, none⟩) 1 1], [.int .u8 51, .slice (some ⟨w.heap.size + 1, 0, none⟩) 4 4], [.int .u8 50, .slice (some ⟨w.heap.size + 1 + 1, 0, none⟩) 4 4]] bs rfl (by simp) rfl (rows3 (op_any (o := 53) b1) (op_any (o := 51) b2) (op_any (o := 50) b3)) trivial (by show 3 ≤ 9223372036854775807; decide) 3 rfl⟩, ⟨none, 0, 0, rfl, Byt.none _, fun i hi => absurd hi.1 (by omega)⟩⟩, h0⟩
theorem kn_c0 (w : World) : Calls Try.prog 37 #[.int .i64 0, .int .u8 3] w fun e w' => e = .returned (.int .i64 5) ∧ Kept Nil w w' := by
  have := kn1_yes 0 (by decide) 3 w
  rw [kn_i.1] at this
  exact this
theorem kn_c1 (w : World) : Calls Try.prog 37 #[.int .i64 1, .int .u8 2] w fun e w' => e = .returned (.int .i64 5) ∧ Kept Nil w w' := by
  have := kn1_yes 1 (by decide) 2 w
  rw [kn_i.2.1] at this
  exact this
theorem kn_c2 (w : World) : Calls Try.prog 37 #[.int .i64 2, .int .u8 5] w fun e w' => e = .returned (.int .i64 5) ∧ Kept Nil w w' := by
  have := kn1_yes 2 (by decide) 5 w
  rw [kn_i.2.2.1] at this
  exact this
theorem kn_c3 (w : World) : Calls Try.prog 37 #[.int .i64 239, .int .u8 0] w fun e w' => e = .returned (.int .i64 5) ∧ Kept Nil w w' := by
  have := kn1_yes 239 (by decide) 0 w
  rw [kn_i.2.2.2.1] at this
  exact this
theorem kn_c4 (w : World) : Calls Try.prog 37 #[.int .i64 3, .int .u8 9] w fun e w' => e = .returned (.int .i64 0) ∧ Kept Nil w w' := by
  have := kn1_yes 3 (by decide) 9 w
  rw [kn_i.2.2.2.2] at this
  exact this
def k3 : Dh := { Dh.zero with op := 3 }
def k4 : Dh := { plainH with os := [(255, [])] }
def k5 : Dh := { plainH with os := [(7, List.replicate 256 0)] }
theorem k3_in (w : World) : DhIn (fun _ => True) w k3 nilv nilv := ⟨⟨⟨rfl, rfl, rfl, rfl⟩, by decide, by decide, by decide, by decide, by decide, by decide, by decide⟩, ⟨none, 0, 0, rfl, Opts.none _ _ _⟩, ⟨none, 0, 0, rfl, Byt.none _, fun _ _ => trivial⟩⟩
theorem row1 {k : IntKind} {W : World} {r1 : List Value} {o1 : Opn} {D : Nat → Prop} (h1 : OpR D k W r1 o1) : ∀ (i : Nat) (r : List Value) (o : Opn), [r1][i]? = some r → [o1][i]? = some o → OpR D k W r o := by
  intro i r o hr ho
  match i with
  | 0 => simp at hr ho; subst hr ho; exact h1
  | i + 1 => simp at hr
theorem one_in (h : Dh) (hk : h.ok) (o : Opn) (ho : h.os = [o]) (hb : h.bh = []) (W : World) (g : Nat) (A : Option Addr) (n c : Nat) (hB : Blo W g 85 #[.int .u8 (o.1.toNat : Int), .slice A n c]) (hy : Byt W A n c o.2) : DhIn (fun _ => True) W h (.slice (some ⟨g, 0, none⟩) 1 1) nilv := by
  refine ⟨hk, ⟨_, 1, 1, rfl, ?_⟩, ⟨none, 0, 0, rfl, by rw [hb]; exact Byt.none _, fun _ _ => trivial⟩⟩
  rw [ho]
  exact opts_rows [[.int .u8 (o.1.toNat : Int), .slice A n c]] hB rfl (by simp) rfl (row1 ⟨A, n, c, rfl, hy, fun _ _ => trivial⟩) trivial (by show 1 ≤ 9223372036854775807; decide) 1 rfl
theorem k4_ok : k4.ok := ⟨⟨rfl, rfl, rfl, rfl⟩, by decide, by decide, by decide, by decide, by decide, by decide, by decide⟩
theorem k5_ok : k5.ok := ⟨⟨rfl, rfl, rfl, rfl⟩, by decide, by decide, by decide, by decide, by decide, by decide, by decide⟩
theorem k3_b : bytesD k3 = ([], 1) := kn_b1
theorem k4_b : bytesD k4 = ([], 1) := kn_b2
theorem k5_b : bytesD k5 = ([], 1) := by decide +kernel
theorem k3_n : 241 + (optB k3.os).length + k3.bh.length ≤ 1099511627776 := by decide +kernel
theorem k4_n : 241 + (optB k4.os).length + k4.bh.length ≤ 1099511627776 := by decide +kernel
theorem k5_n : 241 + (optB k5.os).length + k5.bh.length ≤ 1099511627776 := by decide +kernel
set_option maxRecDepth 100000 in
set_option maxHeartbeats 8000000 in
theorem dknown_yes (w : World) : Calls Try.prog 10 #[] w fun e w' => e = .returned (.bool true) ∧ Below w.heap.size w w' := by
  have HK0 := Lib.hid (Kept.refl Nil w)
  go_enter Try.func10, Try.ntmps10
  go_upto_region 2 with (first
    | (refine wpList_bd rfl 73 _ rfl #[(0, .int .u8 2), (1, .int .u8 3), (2, .int .u32 16909060), (3, .int .u16 1286), (4, .int .u16 32768), (5, .int .u32 167772161), (6, .int .u32 167772162), (7, .int .u32 167772163), (8, .int .u32 167772164), (9, .agg #[.int .u8 2, .int .u8 0, .int .u8 0, .int .u8 0, .int .u8 0, .int .u8 7]), (13, .slice (some ⟨w.heap.size + 1 + 1 + 1, 0, none⟩) 3 3)] rfl (dhv kM (.slice (some ⟨w.heap.size + 1 + 1 + 1, 0, none⟩) 3 3) nilv) (bd_km _ _ _) ?_; simp only [Act.put, List.setIfInBounds_toArray, List.set_cons_succ, List.set_cons_zero])
    | (refine wpList_al rfl 73 rfl (dcs Dh.zero nilv nilv) al_dh ?_; intro w2 hb2 hk2 hz2; clear hz2; simp only [Act.put, List.setIfInBounds_toArray, List.set_cons_succ, List.set_cons_zero])
    | (refine wpList_st rfl 73 (.tmp 1) (.tmp 31) rfl _ 0 rfl (dcs kM (.slice (some ⟨w.heap.size + 1 + 1 + 1, 0, none⟩) 3 3) nilv) (dhv kM (.slice (some ⟨w.heap.size + 1 + 1 + 1, 0, none⟩) 3 3) nilv) rfl rfl (infDh _ kM_ok.s6 _ _) 73 (dcs Dh.zero nilv nilv) hb2 (by rw [dcs_len kM_ok.s6, dcs_len Dh.zero_ok.s6]; decide) (dcs_one rfl rfl) ?_; intro w3 hb3 hk3 hz3; clear hz3; simp only [Act.put, List.setIfInBounds_toArray, List.set_cons_succ, List.set_cons_zero])
    | fail)
  have hkk : Kept Nil ((((w.alloc kA).alloc kB).alloc kC).alloc (kD w.heap.size)) w3 := hk2.fresh hk3 (fun j hj => by cases hj; exact Nat.le_refl _)
  obtain ⟨hin, hk⟩ := kn_lay w w3 hkk
  have hP := DB.of_all (h' := kM) Dh.zero_ok.s6 kM_ok.s6 hb3
  simp only [World.size_alloc] at hP ⊢
  obtain ⟨gs, hgs⟩ : ∃ g, w.heap.size + 1 + 1 + 1 = g := ⟨_, rfl⟩
  rw [hgs] at hin hP ⊢
  obtain ⟨g1, hg1⟩ : ∃ g, gs + 1 = g := ⟨_, rfl⟩
  rw [hg1] at hP ⊢
  have HP := Lib.hid hP
  have HI := Lib.hid hin
  have HK := Lib.hid hk
  have hbk : bytesD kM = (formB kM, 0) := by unfold bytesD; rw [if_pos kM_may]
  have HB := Lib.hid hbk
  clear hP hin hk hkk hb2 hk2 hb3 hk3 HK0 hbk hg1 hgs
  go_wp2_with (first
    | (refine wpList_ld rfl _ _ rfl g1 0 rfl (dcs kM (.slice (some ⟨gs, 0, none⟩) 3 3) nilv) HP.out.all _ Try.underlying73 rfl (infDh _ kM_ok.s6 _ _) ?_; simp only [Act.put, List.setIfInBounds_toArray, List.set_cons_succ, List.set_cons_zero])
    | fail)
  have hc := fun w hI => dbytes_yes (fun _ => True) kM (.slice (some ⟨gs, 0, none⟩) 3 3) nilv w hI (by decide +kernel)
  rw [HB.out] at hc
  refine (hc _ HI.out).mono ?_
  clear hc
  rintro e w4 ⟨v, rfl, hmd⟩
  have hown : w4.ownsRow w3.heap.size 5 1 v 256 (bys (formB kM)) := by rw [← kM_len]; exact hmd.1
  obtain ⟨g4, c1, r, rfl, hlo, hblo, hc1, hc2⟩ := own_blk hown (by decide)
  have hy := blk_byt hblo 256 c1 kM_len hc1 hc2
  have HP4 := Lib.hid (HP.out.kept hmd.2 (fun hf => hf))
  have HI4 := Lib.hid (HI.out.nil hmd.2)
  have HK4 := Lib.hid (HK.out.then hmd.2)
  have HPR := Lib.hid (show Byt w4 (some ⟨g4, 0, none⟩) 34 c1 kL from by rw [← kM_pre]; exact hy.pre (by decide))
  have y255 : ∀ o, (w4.alloc o).cell? ⟨g4, 255, none⟩ = some (.int .u8 255) := fun o => by
    have := byt_ge (hy.kept ((Kept.refl Nil w4).alloc o) (fun _ _ hf => hf)) 255 255 kM_end
    rwa [Nat.zero_add] at this
  have hcut := run_cut_hi (P := Try.prog) Try.underlying31 inf5.1 (some ⟨g4, 0, none⟩) 256 c1 34 (34 : Int) rfl (Nat.le_trans (by decide) hc1)
  clear hmd hy HP HI HK HB hown hblo hlo
  dsimp only
  go_wp2_with (fail)
  have heq : ∀ o, o = Obj.cells (bys kL).toArray 5 → Calls Try.prog 34 #[.slice (some ⟨g4, 0, none⟩) 34 c1, .slice (some ⟨w4.heap.size, 0, none⟩) 34 34] (w4.alloc o) fun e w' => e = .returned (.bool true) ∧ w4.alloc o = w' := by
    rintro o rfl
    have := equal (some ⟨g4, 0, none⟩) (some ⟨w4.heap.size, 0, none⟩) 34 c1 34 34 kL kL _ (HPR.out.kept ((Kept.refl Nil w4).alloc (.cells (bys kL).toArray 5)) (fun _ _ hf => hf)) (byt_lit w4 kL 5 (bys kL).toArray rfl 34 rfl _ rfl (by decide))
    rw [beq_self_eq_true] at this
    exact this
  refine (heq _ rfl).mono ?_
  clear heq
  rintro e w5 ⟨rfl, rfl⟩
  dsimp only
  go_upto_region 5 with (fail)
  refine wp_nameE (fun W => DB W g1 73 kM (.slice (some ⟨gs, 0, none⟩) 3 3) nilv ∧ DhIn (fun _ => True) W kM (.slice (some ⟨gs, 0, none⟩) 3 3) nilv ∧ Kept Nil w W) ⟨HP4.out.kept ((Kept.refl Nil w4).alloc _) (fun hf => hf), HI4.out.nil ((Kept.refl Nil w4).alloc _), HK4.out.alloc _⟩ ?_
  rintro w6 ⟨hp, hi, hk⟩
  have HP := Lib.hid hp
  have HI := Lib.hid hi
  have HK := Lib.hid hk
  clear hp hi hk HP4 HI4 HK4 HPR y255 hcut hc1 hc2
  go_wp2_with (first
    | (refine wpList_ld rfl _ _ rfl g1 0 rfl (dcs kM (.slice (some ⟨gs, 0, none⟩) 3 3) nilv) HP.out.all _ Try.underlying73 rfl (infDh _ kM_ok.s6 _ _) ?_; simp only [Act.put, List.setIfInBounds_toArray, List.set_cons_succ, List.set_cons_zero])
    | fail)
  have hc := fun w hI => lease_yes (fun _ => True) kM (.slice (some ⟨gs, 0, none⟩) 3 3) nilv w hI (by decide +kernel)
  rw [kM_51] at hc
  refine (hc _ HI.out).mono ?_
  clear hc
  rintro e u1 ⟨rfl, hk⟩
  have HP := Lib.hid (HP.out.kept hk (fun hf => hf))
  have HI := Lib.hid (HI.out.nil hk)
  have HK := Lib.hid (HK.out.then hk)
  clear hk
  dsimp only
  go_wp2_with (first
    | (refine wpList_ld rfl _ _ rfl g1 0 rfl (dcs kM (.slice (some ⟨gs, 0, none⟩) 3 3) nilv) HP.out.all _ Try.underlying73 rfl (infDh _ kM_ok.s6 _ _) ?_; simp only [Act.put, List.setIfInBounds_toArray, List.set_cons_succ, List.set_cons_zero])
    | fail)
  have hc := fun w hI => wanted_yes (fun _ => True) kM (.slice (some ⟨gs, 0, none⟩) 3 3) nilv w hI (by decide +kernel)
  rw [kM_50] at hc
  refine (hc _ HI.out).mono ?_
  clear hc
  rintro e u2 ⟨rfl, hk⟩
  have HP := Lib.hid (HP.out.kept hk (fun hf => hf))
  have HI := Lib.hid (HI.out.nil hk)
  have HK := Lib.hid (HK.out.then hk)
  clear hk
  dsimp only
  go_wp2_with (fail)
  refine (plain_yes _ 4 4 [53, 2, 1, 255] _ (byt_lit u2 [53, 2, 1, 255] 5 #[.int .u8 53, .int .u8 2, .int .u8 1, .int .u8 255] rfl 4 rfl _ rfl (by decide)) (by decide)).mono ?_
  rintro e p3 ⟨v, rfl, hm⟩
  obtain ⟨A3, c3, rfl, hy, -⟩ := byt_own hm
  have hq := ((Kept.refl Nil u2).alloc (.cells #[.int .u8 53, .int .u8 2, .int .u8 1, .int .u8 255] 5)).then hm.2
  have HP := Lib.hid (HP.out.kept hq (fun hf => hf))
  have HI := Lib.hid (HI.out.nil hq)
  have HK := Lib.hid (HK.out.then hq)
  have HY := Lib.hid hy
  clear hm hy hq
  go_wp2_with (fail)
  refine (dget_yes A3 _ c3 (plainB [53, 2, 1, 255]) _ HY.out (pl_bound _ (by decide))).mono ?_
  rintro e q3 hg
  rw [kn_g1] at hg
  obtain ⟨vo3, vb3, rfl, hin, hk⟩ := hg
  have HV := Lib.hid (show DhIn (fun j => p3.heap.size ≤ j) q3 Dh.zero vo3 vb3 from hin)
  have HP := Lib.hid (HP.out.kept hk (fun hf => hf))
  have HI := Lib.hid (HI.out.nil hk)
  have HK := Lib.hid (HK.out.then hk)
  clear hin hk HY
  go_upto_region 9 with (first
    | (refine wpList_al rfl 73 rfl (dcs Dh.zero nilv nilv) al_dh ?_; intro wx hbx hkx hzx; clear hzx)
    | (refine wpList_st rfl _ (.tmp 9) (.tmp 71) rfl q3.heap.size 0 rfl (dcs Dh.zero vo3 vb3) _ rfl rfl (infDh _ HV.out.ok.s6 _ _) 73 (dcs Dh.zero nilv nilv) hbx (by rw [dcs_len HV.out.ok.s6, dcs_len Dh.zero_ok.s6]; decide) HV.out.one ?_; intro u3 hby hky hzy; clear hzy; simp only [Act.put])
    | fail)
  have hk := hkx.fresh hky (fun j hj => by cases hj; exact Nat.le_refl _)
  have HP := Lib.hid (HP.out.kept hk (fun hf => hf))
  have HI := Lib.hid (HI.out.nil hk)
  have HK := Lib.hid (HK.out.then hk)
  clear hk hkx hky hbx hby HV
  go_wp2_with (fail)
  refine (plain_yes _ 1 1 [53] _ (byt_lit u3 [53] 5 #[.int .u8 53] rfl 1 rfl _ rfl (by decide)) (by decide)).mono ?_
  rintro e p4 ⟨v, rfl, hm⟩
  obtain ⟨A4, c4, rfl, hy, -⟩ := byt_own hm
  have hq := ((Kept.refl Nil u3).alloc (.cells #[.int .u8 53] 5)).then hm.2
  have HP := Lib.hid (HP.out.kept hq (fun hf => hf))
  have HI := Lib.hid (HI.out.nil hq)
  have HK := Lib.hid (HK.out.then hq)
  have HY := Lib.hid hy
  clear hm hy hq
  go_wp2_with (fail)
  refine (dget_yes A4 _ c4 (plainB [53]) _ HY.out (pl_bound _ (by decide))).mono ?_
  rintro e q4 hg
  rw [kn_g2] at hg
  obtain ⟨vo4, vb4, rfl, hin, hk⟩ := hg
  have HV := Lib.hid (show DhIn (fun j => p4.heap.size ≤ j) q4 Dh.zero vo4 vb4 from hin)
  have HP := Lib.hid (HP.out.kept hk (fun hf => hf))
  have HI := Lib.hid (HI.out.nil hk)
  have HK := Lib.hid (HK.out.then hk)
  clear hin hk HY
  go_upto_region 10 with (first
    | (refine wpList_al rfl 73 rfl (dcs Dh.zero nilv nilv) al_dh ?_; intro wx hbx hkx hzx; clear hzx)
    | (refine wpList_st rfl _ (.tmp 11) (.tmp 77) rfl q4.heap.size 0 rfl (dcs Dh.zero vo4 vb4) _ rfl rfl (infDh _ HV.out.ok.s6 _ _) 73 (dcs Dh.zero nilv nilv) hbx (by rw [dcs_len HV.out.ok.s6, dcs_len Dh.zero_ok.s6]; decide) HV.out.one ?_; intro u4 hby hky hzy; clear hzy; simp only [Act.put])
    | fail)
  have hk := hkx.fresh hky (fun j hj => by cases hj; exact Nat.le_refl _)
  have HP := Lib.hid (HP.out.kept hk (fun hf => hf))
  have HI := Lib.hid (HI.out.nil hk)
  have HK := Lib.hid (HK.out.then hk)
  clear hk hkx hky hbx hby HV
  go_wp2_with (fail)
  refine (plain_yes _ 3 3 [53, 0, 255] _ (byt_lit u4 [53, 0, 255] 5 #[.int .u8 53, .int .u8 0, .int .u8 255] rfl 3 rfl _ rfl (by decide)) (by decide)).mono ?_
  rintro e p5 ⟨v, rfl, hm⟩
  obtain ⟨A5, c5, rfl, hy, -⟩ := byt_own hm
  have hq := ((Kept.refl Nil u4).alloc (.cells #[.int .u8 53, .int .u8 0, .int .u8 255] 5)).then hm.2
  have HP := Lib.hid (HP.out.kept hq (fun hf => hf))
  have HI := Lib.hid (HI.out.nil hq)
  have HK := Lib.hid (HK.out.then hq)
  have hcl : (plainB [53, 0, 255]).length = 243 := by rw [plainB_len]; rfl
  rw [hcl] at hy ⊢
  have HY := Lib.hid (hy.pre (hi := 239) (by decide))
  have hcut := run_cut_hi (P := Try.prog) Try.underlying31 inf5.1 A5 243 c5 239 (239 : Int) rfl (Nat.le_trans (by decide) hy.2.1)
  clear hm hy hq hcl
  go_wp2_with (fail)
  clear hcut
  refine (dget_yes A5 _ c5 ((plainB [53, 0, 255]).take 239) _ HY.out (by decide)).mono ?_
  rintro e q5 hg
  rw [kn_g3] at hg
  obtain ⟨vo5, vb5, rfl, hin, hk⟩ := hg
  have HV := Lib.hid (show DhIn (fun j => p5.heap.size ≤ j) q5 Dh.zero vo5 vb5 from hin)
  have HP := Lib.hid (HP.out.kept hk (fun hf => hf))
  have HI := Lib.hid (HI.out.nil hk)
  have HK := Lib.hid (HK.out.then hk)
  clear hin hk HY
  go_upto_region 11 with (first
    | (refine wpList_al rfl 73 rfl (dcs Dh.zero nilv nilv) al_dh ?_; intro wx hbx hkx hzx; clear hzx)
    | (refine wpList_st rfl _ (.tmp 13) (.tmp 84) rfl q5.heap.size 0 rfl (dcs Dh.zero vo5 vb5) _ rfl rfl (infDh _ HV.out.ok.s6 _ _) 73 (dcs Dh.zero nilv nilv) hbx (by rw [dcs_len HV.out.ok.s6, dcs_len Dh.zero_ok.s6]; decide) HV.out.one ?_; intro u5 hby hky hzy; clear hzy; simp only [Act.put])
    | fail)
  have hk := hkx.fresh hky (fun j hj => by cases hj; exact Nat.le_refl _)
  have HP := Lib.hid (HP.out.kept hk (fun hf => hf))
  have HI := Lib.hid (HI.out.nil hk)
  have HK := Lib.hid (HK.out.then hk)
  clear hk hkx hky hbx hby HV
  go_wp2_with (fail)
  refine (plain_yes _ 5 5 [53, 0, 255, 1, 2] _ (byt_lit u5 [53, 0, 255, 1, 2] 5 #[.int .u8 53, .int .u8 0, .int .u8 255, .int .u8 1, .int .u8 2] rfl 5 rfl _ rfl (by decide)) (by decide)).mono ?_
  rintro e p6 ⟨v, rfl, hm⟩
  obtain ⟨A6, c6, rfl, hy, -⟩ := byt_own hm
  have hq := ((Kept.refl Nil u5).alloc (.cells #[.int .u8 53, .int .u8 0, .int .u8 255, .int .u8 1, .int .u8 2] 5)).then hm.2
  have HP := Lib.hid (HP.out.kept hq (fun hf => hf))
  have HI := Lib.hid (HI.out.nil hq)
  have HK := Lib.hid (HK.out.then hq)
  have HY := Lib.hid hy
  clear hm hy hq
  go_wp2_with (fail)
  refine (dget_yes A6 _ c6 (plainB [53, 0, 255, 1, 2]) _ HY.out (pl_bound _ (by decide))).mono ?_
  rintro e q6 hg
  rw [kn_h] at hg
  obtain ⟨vo6, vb6, rfl, hin, hk⟩ := hg
  have HV := Lib.hid (show DhIn (fun j => p6.heap.size ≤ j) q6 kH vo6 vb6 from hin)
  have HP := Lib.hid (HP.out.kept hk (fun hf => hf))
  have HI := Lib.hid (HI.out.nil hk)
  have HK := Lib.hid (HK.out.then hk)
  clear hin hk HY
  go_upto_region 12 with (first
    | (refine wpList_al rfl 73 rfl (dcs Dh.zero nilv nilv) al_dh ?_; intro wx hbx hkx hzx; clear hzx)
    | (refine wpList_st rfl _ (.tmp 15) (.tmp 90) rfl q6.heap.size 0 rfl (dcs kH vo6 vb6) _ rfl rfl (infDh _ HV.out.ok.s6 _ _) 73 (dcs Dh.zero nilv nilv) hbx (by rw [dcs_len HV.out.ok.s6, dcs_len Dh.zero_ok.s6]; decide) HV.out.one ?_; intro u6 hby hky hzy; clear hzy; simp only [Act.put])
    | fail)
  have hk := hkx.fresh hky (fun j hj => by cases hj; exact Nat.le_refl _)
  have HP := Lib.hid (HP.out.kept hk (fun hf => hf))
  have HI := Lib.hid (HI.out.nil hk)
  have HK := Lib.hid (HK.out.then hk)
  have HM := Lib.hid (DB.of_all (h' := kH) Dh.zero_ok.s6 HV.out.ok.s6 hby)
  have HJ := Lib.hid ((HV.out.nil hk).mono (D' := fun _ => True) (fun _ _ => trivial))
  obtain ⟨g16, hgk⟩ : ∃ g, q6.heap.size = g := ⟨_, rfl⟩
  rw [hgk] at HM ⊢
  clear hgk
  clear hk hkx hky hbx hby HV
  go_wp2_with (first
    | (refine wpList_bd rfl 73 _ rfl #[(0, .int .u8 3)] rfl (dhv k3 nilv nilv) (bd_one 3) ?_; simp only [Act.put, List.setIfInBounds_toArray, List.set_cons_succ, List.set_cons_zero])
    | fail)
  have hc := dbytes_yes (fun _ => True) k3 nilv nilv u6 (k3_in u6) k3_n
  rw [k3_b] at hc
  refine hc.mono ?_
  clear hc
  rintro e u7 ⟨v, rfl, hmd⟩
  obtain ⟨A7, c7, rfl, hy, -⟩ := byt_own hmd
  have HP := Lib.hid (HP.out.kept hmd.2 (fun hf => hf))
  have HI := Lib.hid (HI.out.nil hmd.2)
  have HK := Lib.hid (HK.out.then hmd.2)
  have HM := Lib.hid (HM.out.kept hmd.2 (fun hf => hf))
  have HJ := Lib.hid (HJ.out.nil hmd.2)
  clear hmd hy
  dsimp only
  go_wp2_with (first
    | (refine wpList_bd rfl 73 _ rfl #[(0, .int .u8 1), (13, .slice (some ⟨u7.heap.size, 0, none⟩) 1 1)] rfl (dhv k4 (.slice (some ⟨u7.heap.size, 0, none⟩) 1 1) nilv) (bd_os k4 ⟨rfl, rfl, rfl, rfl, rfl⟩ _ _ _) ?_; simp only [Act.put, List.setIfInBounds_toArray, List.set_cons_succ, List.set_cons_zero])
    | fail)
  have hka := (Kept.refl Nil u7).alloc (.cells #[.int .u8 255, .slice none 0 0] 85)
  have hc := dbytes_yes (fun _ => True) k4 (.slice (some ⟨u7.heap.size, 0, none⟩) 1 1) nilv (u7.alloc (.cells #[.int .u8 255, .slice none 0 0] 85)) (one_in k4 k4_ok (255, []) rfl rfl _ u7.heap.size none 0 0 (Blo.new u7 _ _) (Byt.none _)) k4_n
  rw [k4_b] at hc
  refine hc.mono ?_
  clear hc
  rintro e u8 ⟨v, rfl, hmd⟩
  replace hmd : Made (u7.alloc (.cells #[.int .u8 255, .slice none 0 0] 85)) u8 v [] := hmd
  have hq := hka.then hmd.2
  obtain ⟨A8, c8, rfl, hy, -⟩ := byt_own hmd
  have HP := Lib.hid (HP.out.kept hq (fun hf => hf))
  have HI := Lib.hid (HI.out.nil hq)
  have HK := Lib.hid (HK.out.then hq)
  have HM := Lib.hid (HM.out.kept hq (fun hf => hf))
  have HJ := Lib.hid (HJ.out.nil hq)
  clear hmd hy hq hka
  dsimp only
  go_wp2_with (first
    | (refine wpList_mkC rfl _ _ rfl 256 (by decide) rfl rfl ?_; intro m1 hbm hkm; simp only [Act.put, List.setIfInBounds_toArray, List.set_cons_succ, List.set_cons_zero])
    | (refine wpList_bd rfl 73 _ rfl #[(0, .int .u8 1), (13, .slice (some ⟨m1.heap.size, 0, none⟩) 1 1)] rfl (dhv k5 (.slice (some ⟨m1.heap.size, 0, none⟩) 1 1) nilv) (bd_os k5 ⟨rfl, rfl, rfl, rfl, rfl⟩ _ _ _) ?_; simp only [Act.put, List.setIfInBounds_toArray, List.set_cons_succ, List.set_cons_zero])
    | fail)
  have hym : Byt m1 (some ⟨u8.heap.size, 0, none⟩) 256 256 (List.replicate 256 0) := blk_byt (r := []) (by rw [List.append_nil]; exact hbm) 256 256 List.length_replicate (Nat.le_refl _) (by decide)
  have hkb := (Kept.refl Nil m1).alloc (.cells #[.int .u8 7, .slice (some ⟨u8.heap.size, 0, none⟩) 256 256] 85)
  have hka := hkm.then hkb
  have hc := dbytes_yes (fun _ => True) k5 (.slice (some ⟨m1.heap.size, 0, none⟩) 1 1) nilv (m1.alloc (.cells #[.int .u8 7, .slice (some ⟨u8.heap.size, 0, none⟩) 256 256] 85)) (one_in k5 k5_ok (7, List.replicate 256 0) rfl rfl _ m1.heap.size _ 256 256 (Blo.new m1 _ _) (hym.kept hkb (fun _ _ hf => hf))) k5_n
  rw [k5_b] at hc
  refine hc.mono ?_
  clear hc
  rintro e u9 ⟨v, rfl, hmd⟩
  replace hmd : Made (m1.alloc (.cells #[.int .u8 7, .slice (some ⟨u8.heap.size, 0, none⟩) 256 256] 85)) u9 v [] := hmd
  have hq := hka.then hmd.2
  obtain ⟨A9, c9, rfl, hy, -⟩ := byt_own hmd
  have HP := Lib.hid (HP.out.kept hq (fun hf => hf))
  have HI := Lib.hid (HI.out.nil hq)
  have HK := Lib.hid (HK.out.then hq)
  have HM := Lib.hid (HM.out.kept hq (fun hf => hf))
  have HJ := Lib.hid (HJ.out.nil hq)
  clear hmd hy hq hka hkb hym hbm hkm
  dsimp only
  go_wp2_with (fail)
  dsimp only [List.append]
  go_wp2_with (first
    | (refine wpList_ld rfl _ _ rfl g1 0 rfl (dcs kM (.slice (some ⟨gs, 0, none⟩) 3 3) nilv) HP.out.all _ Try.underlying73 rfl (infDh _ kM_ok.s6 _ _) ?_; simp only [Act.put, List.setIfInBounds_toArray, List.set_cons_succ, List.set_cons_zero])
    | fail)
  have hc := fun w hI => type_yes (fun _ => True) kM (.slice (some ⟨gs, 0, none⟩) 3 3) nilv w hI (by decide +kernel)
  rw [kM_ty] at hc
  refine (hc _ HI.out).mono ?_
  clear hc
  rintro e u10 ⟨rfl, hk⟩
  have HP := Lib.hid (HP.out.kept hk (fun hf => hf))
  have HI := Lib.hid (HI.out.nil hk)
  have HK := Lib.hid (HK.out.then hk)
  have HM := Lib.hid (HM.out.kept hk (fun hf => hf))
  have HJ := Lib.hid (HJ.out.nil hk)
  clear hk
  dsimp only
  go_wp2_with (fail)
  refine (kn_c0 _).mono ?_
  rintro e u11 ⟨rfl, hk⟩
  have HP := Lib.hid (HP.out.kept hk (fun hf => hf))
  have HI := Lib.hid (HI.out.nil hk)
  have HK := Lib.hid (HK.out.then hk)
  have HM := Lib.hid (HM.out.kept hk (fun hf => hf))
  have HJ := Lib.hid (HJ.out.nil hk)
  clear hk
  dsimp only
  go_wp2_with (fail)
  refine (kn_c1 _).mono ?_
  rintro e u12 ⟨rfl, hk⟩
  have HP := Lib.hid (HP.out.kept hk (fun hf => hf))
  have HI := Lib.hid (HI.out.nil hk)
  have HK := Lib.hid (HK.out.then hk)
  have HM := Lib.hid (HM.out.kept hk (fun hf => hf))
  have HJ := Lib.hid (HJ.out.nil hk)
  clear hk
  dsimp only
  go_wp2_with (fail)
  refine (kn_c2 _).mono ?_
  rintro e u13 ⟨rfl, hk⟩
  have HP := Lib.hid (HP.out.kept hk (fun hf => hf))
  have HI := Lib.hid (HI.out.nil hk)
  have HK := Lib.hid (HK.out.then hk)
  have HM := Lib.hid (HM.out.kept hk (fun hf => hf))
  have HJ := Lib.hid (HJ.out.nil hk)
  clear hk
  dsimp only
  go_wp2_with (fail)
  refine (kn_c3 _).mono ?_
  rintro e u14 ⟨rfl, hk⟩
  have HP := Lib.hid (HP.out.kept hk (fun hf => hf))
  have HI := Lib.hid (HI.out.nil hk)
  have HK := Lib.hid (HK.out.then hk)
  have HM := Lib.hid (HM.out.kept hk (fun hf => hf))
  have HJ := Lib.hid (HJ.out.nil hk)
  clear hk
  dsimp only
  go_wp2_with (fail)
  refine (kn_c4 _).mono ?_
  rintro e u15 ⟨rfl, hk⟩
  have HP := Lib.hid (HP.out.kept hk (fun hf => hf))
  have HI := Lib.hid (HI.out.nil hk)
  have HK := Lib.hid (HK.out.then hk)
  have HM := Lib.hid (HM.out.kept hk (fun hf => hf))
  have HJ := Lib.hid (HJ.out.nil hk)
  clear hk
  dsimp only
  have y217 := HM.out.co HJ.out.ok.s6
  have y218 := HM.out.cb HJ.out.ok.s6
  obtain ⟨Ao, no, co, rfl, ho⟩ := HJ.out.o
  obtain ⟨Ab, nb, cb, rfl, hb, -⟩ := HJ.out.b
  have hno : 1 = no := ho.len
  have hnb : 2 = nb := hb.1
  subst hno hnb
  obtain ⟨bo, oo, A', m', c', rfl, hrow, hby, -⟩ := ho.at (i := 0) (by decide)
  have hm0 : 0 = m' := hby.1
  subst hm0
  have q1 : u15.cell? ⟨bo, oo + 1, none⟩ = some (.slice A' 0 c') := hrow 1 _ rfl
  have HB := Lib.hid (show Byt u15 Ab 2 cb [1, 2] from hb)
  clear ho hb hrow hby
  go_wp2_with (fail)
  have heq : ∀ o, o = Obj.cells #[.int .u8 1, .int .u8 2] 5 → Calls Try.prog 34 #[.slice Ab 2 cb, .slice (some ⟨u15.heap.size, 0, none⟩) 2 2] (u15.alloc o) fun e w' => e = .returned (.bool true) ∧ u15.alloc o = w' := by
    rintro o rfl
    have := equal Ab (some ⟨u15.heap.size, 0, none⟩) 2 cb 2 2 [1, 2] [1, 2] _ (HB.out.kept ((Kept.refl Nil u15).alloc (.cells #[.int .u8 1, .int .u8 2] 5)) (fun _ _ hf => hf)) (byt_lit u15 [1, 2] 5 #[.int .u8 1, .int .u8 2] rfl 2 rfl _ rfl (by decide))
    rw [beq_self_eq_true] at this
    exact this
  refine (heq _ rfl).mono ?_
  clear heq
  rintro e u16 ⟨rfl, rfl⟩
  dsimp only
  go_wp2_with (fail)
  refine (wakes_yes _).mono ?_
  rintro e u17 ⟨rfl, hk⟩
  have HK := Lib.hid ((HK.out.alloc _).then hk)
  clear hk
  dsimp only
  go_wp2_with (fail)
  go_ret
  exact ⟨rfl, HK.out.below (Nat.le_refl _) (fun _ hf => hf.elim)⟩
end Go.Proofs.Ytbkjobmjapbmpaa
