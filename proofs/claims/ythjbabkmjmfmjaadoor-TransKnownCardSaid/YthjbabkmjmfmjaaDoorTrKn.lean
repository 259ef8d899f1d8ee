/- tolllaw07.TransKnown: the walk. -/
import Derived.Test.YthjbabkmjmfmjaaDoorMg16
import Derived.Test.YthjbabkmjmfmjaaDoorMg17
import Derived.Test.YthjbabkmjmfmjaaDoorTrD
import Derived.Test.YthjbabkmjmfmjaaDoorTrE
import Derived.Test.YthjbabkmjmfmjaaDoorMg24
import Derived.Test.YthjbabkmjmfmjaaDoorTrK
namespace Go.Proofs.YthjbabkmjmfmjaaDoor
open Go.RowKit Go.Sort
set_option linter.unusedVariables false

def zs (n : Nat) : List UInt8 := List.replicate n 0
theorem zs_len (n : Nat) : (zs n).length = n := List.length_replicate
theorem kn1 : getT (zs 19) = (Tc.zero, 4) := by kernel_rfl
theorem kn2 : getU (zs 7) = (Ud.zero, 4) := by kernel_rfl
theorem kn3 : getU (zs 8) = (Ud.zero, 5) := by kernel_rfl
theorem kn4 : getU [0, 1, 0, 2, 0, 9, 0, 0] = (Ud.zero, 4) := by kernel_rfl
def u9 : Ud := udOf [0, 1, 0, 2, 0, 9, 0, 0, 7, 8]
theorem kn5 : getU [0, 1, 0, 2, 0, 9, 0, 0, 7, 8] = (u9, 0) := by kernel_rfl
theorem kn5b : u9.b = [7] := by decide +kernel
def tH16 : Tc := ⟨0, 0, 0, 0, 16, 0, 0, 0, 0, [], []⟩
def tHx (n : Nat) : Tc := ⟨0, 0, 0, 0, 0, 0, 0, 0, 0, zs n, []⟩
def uH9 : Ud := ⟨0, 0, 9, 0, []⟩
theorem tH16_ok : tH16.ok := ⟨by decide, by decide, by decide, by decide, by decide, by decide, by decide, by decide, by decide⟩
theorem tHx_ok (n : Nat) : (tHx n).ok := ⟨(by decide : 0 < 65536), (by decide : 0 < 65536), (by decide : 0 < 4294967296), (by decide : 0 < 4294967296), (by decide : 0 < 256), (by decide : 0 < 256), (by decide : 0 < 65536), (by decide : 0 < 65536), (by decide : 0 < 65536)⟩
theorem uH9_ok : uH9.ok := ⟨by decide, by decide, by decide, by decide⟩
theorem kn6 : tellT tH16 = ([], 1) := by kernel_rfl
theorem kn7 : tellT (tHx 3) = ([], 1) := by kernel_rfl
theorem kn8 : tellT (tHx 44) = ([], 1) := by kernel_rfl
theorem kn9 : tellU uH9 = ([], 1) := by kernel_rfl
theorem kn10 : sealM 0 0 1 (zs 40) = ([], 1) := by kernel_rfl
theorem kn11 : sealM 0 0 6 (zs 17) = ([], 4) := by kernel_rfl
theorem kn12 : sealM 0 0 17 (zs 65536) = ([], 1) := by
  unfold sealM
  rw [if_pos (.inr (by rw [zs_len]; decide))]
theorem kn13 : flagP [] = (0, 23) := by decide +kernel
theorem kn14 : flagP [115, 121, 110, 44, 45] = (0, 23) := by decide +kernel
theorem kn15 : flagP [115, 121, 110, 44, 97, 99, 107, 44, 115, 121, 110] = (0, 9) := by decide +kernel
theorem kn16 : flagP [115, 121, 110, 44, 115, 121, 110, 44, 120] = (0, 23) := by decide +kernel
theorem kn17 : portsM 1 (zs 60) = (0, 0, false) := rfl
theorem kn18 : sealM 0 0 17 [0, 0, 0, 0, 0, 8, 0, 0] = ([0, 0, 0, 0, 0, 8, 255, 222], 0) := by decide +kernel
theorem kn19 : flagT 255 = [102, 105, 110, 44, 115, 121, 110, 44, 114, 115, 116, 44, 112, 115, 104, 44, 97, 99, 107, 44, 117, 114, 103, 44, 101, 99, 101, 44, 99, 119, 114] := by decide +kernel
theorem kn20 : rightM 0 0 6 (zs 65536) = false := by
  unfold rightM
  rw [decide_eq_false (by rw [zs_len]; decide), Bool.false_and]
set_option maxRecDepth 100000 in
set_option maxHeartbeats 16000000 in
theorem tknown_yes (w : World) (hG : Gl w) : Calls Tryd.prog 8 #[] w fun e w' => e = .returned (.bool true) ∧ Below w.heap.size w w' := by
  have HGG := Lib.hid hG
  have HK := Lib.hid (Kept.refl Nil w)
  clear hG
  go_enter Tryd.func8, Tryd.ntmps8
  go_wp2_with (refine wpList_mkC rfl _ _ rfl 19 (by decide) rfl rfl ?_; intro m1 hb hk; simp only [Act.put, List.setIfInBounds_toArray, List.set_cons_succ, List.set_cons_zero])
  have HK := Lib.hid (HK.out.then hk)
  have HN := Lib.hid (bloB (show Blo m1 w.heap.size 5 (bys (zs 19)).toArray from hb) 19 (zs_len 19) (by decide))
  clear hb hk
  have hp := tget_yes _ 19 19 (zs 19) m1 HN.out (by decide)
  rw [kn1] at hp
  refine hp.mono ?_
  clear hp
  rintro e w1 ⟨A1, n1, c1, B1, k1, d1, rfl, _, _, hk⟩
  dsimp only
  have HK := Lib.hid (HK.out.then hk)
  clear hk HN
  have HZ := Lib.hid (TB.new w1 29 Tc.zero none 0 0 none 0 0)
  go_upto_region 2 with (first
    | (refine wpList_st rfl _ (.tmp 1) _ rfl w1.heap.size 0 rfl (tcs Tc.zero A1 n1 c1 B1 k1 d1) _ rfl rfl (infTc _ _ _ _ _ _ _) 29 _ HZ.out (by rw [tcs_len, tcs_len]; omega) (tcs_one _ _ _ _ _ _ _) ?_; intro v1 hb hks hz; simp only [Act.put])
    | fail)
  have hks2 := ((Kept.refl Nil w1).alloc (.cells (tcs Tc.zero none 0 0 none 0 0).toArray 29)).fresh hks (fun i hi => by cases hi; exact Nat.le_refl _)
  obtain ⟨g1, hg⟩ : ∃ g, w1.heap.size = g := ⟨_, rfl⟩
  have HK := Lib.hid (HK.out.then hks2)
  rw [hg]
  clear hb hks hz hks2 hg HZ
  go_wp2_with (refine wpList_mkC rfl _ _ rfl 7 (by decide) rfl rfl ?_; intro m2 hb hk; simp only [Act.put, List.setIfInBounds_toArray, List.set_cons_succ, List.set_cons_zero])
  have HK := Lib.hid (HK.out.then hk)
  have HN := Lib.hid (bloB (show Blo m2 v1.heap.size 5 (bys (zs 7)).toArray from hb) 7 (zs_len 7) (by decide))
  clear hb hk
  have hp := uget_yes _ 7 7 (zs 7) m2 HN.out (by decide)
  rw [kn2] at hp
  refine hp.mono ?_
  clear hp
  rintro e w2 ⟨B2, k2, d2, rfl, _, hk⟩
  dsimp only
  have HK := Lib.hid (HK.out.then hk)
  clear hk HN
  have HZ := Lib.hid (UB.new w2 38 Ud.zero none 0 0)
  go_upto_region 3 with (first
    | (refine wpList_st rfl _ (.tmp 3) _ rfl w2.heap.size 0 rfl (ucs Ud.zero B2 k2 d2) _ rfl rfl (infUc _ _ _ _) 38 _ HZ.out (by rw [ucs_len, ucs_len]; omega) (ucs_one _ _ _ _) ?_; intro v2 hb hks hz; simp only [Act.put])
    | fail)
  have hks2 := ((Kept.refl Nil w2).alloc (.cells (ucs Ud.zero none 0 0).toArray 38)).fresh hks (fun i hi => by cases hi; exact Nat.le_refl _)
  obtain ⟨g2, hg⟩ : ∃ g, w2.heap.size = g := ⟨_, rfl⟩
  have HK := Lib.hid (HK.out.then hks2)
  rw [hg]
  clear hb hks hz hks2 hg HZ
  go_wp2_with (refine wpList_mkC rfl _ _ rfl 8 (by decide) rfl rfl ?_; intro m3 hb hk; simp only [Act.put, List.setIfInBounds_toArray, List.set_cons_succ, List.set_cons_zero])
  have HK := Lib.hid (HK.out.then hk)
  have HN := Lib.hid (bloB (show Blo m3 v2.heap.size 5 (bys (zs 8)).toArray from hb) 8 (zs_len 8) (by decide))
  clear hb hk
  have hp := uget_yes _ 8 8 (zs 8) m3 HN.out (by decide)
  rw [kn3] at hp
  refine hp.mono ?_
  clear hp
  rintro e w3 ⟨B3, k3, d3, rfl, _, hk⟩
  dsimp only
  have HK := Lib.hid (HK.out.then hk)
  clear hk HN
  have HZ := Lib.hid (UB.new w3 38 Ud.zero none 0 0)
  go_upto_region 4 with (first
    | (refine wpList_st rfl _ (.tmp 5) _ rfl w3.heap.size 0 rfl (ucs Ud.zero B3 k3 d3) _ rfl rfl (infUc _ _ _ _) 38 _ HZ.out (by rw [ucs_len, ucs_len]; omega) (ucs_one _ _ _ _) ?_; intro v3 hb hks hz; simp only [Act.put])
    | fail)
  have hks2 := ((Kept.refl Nil w3).alloc (.cells (ucs Ud.zero none 0 0).toArray 38)).fresh hks (fun i hi => by cases hi; exact Nat.le_refl _)
  obtain ⟨g3, hg⟩ : ∃ g, w3.heap.size = g := ⟨_, rfl⟩
  have HK := Lib.hid (HK.out.then hks2)
  rw [hg]
  clear hb hks hz hks2 hg HZ
  go_wp2_with (fail)
  have hk := (Kept.refl Nil v3).alloc (.cells #[.int .u8 0, .int .u8 1, .int .u8 0, .int .u8 2, .int .u8 0, .int .u8 9, .int .u8 0, .int .u8 0] 5)
  have hn := byt_lit v3 [0, 1, 0, 2, 0, 9, 0, 0] 5 #[.int .u8 0, .int .u8 1, .int .u8 0, .int .u8 2, .int .u8 0, .int .u8 9, .int .u8 0, .int .u8 0] rfl 8 rfl _ rfl (by decide)
  have hp := uget_yes _ 8 8 [0, 1, 0, 2, 0, 9, 0, 0] _ hn (by decide)
  rw [kn4] at hp
  refine hp.mono ?_
  clear hp
  rintro e w4 ⟨B4, k4, d4, rfl, _, hk4⟩
  dsimp only
  have hk := hk.then hk4
  have HK := Lib.hid (HK.out.then hk)
  clear hk hk4 hn
  have HZ := Lib.hid (UB.new w4 38 Ud.zero none 0 0)
  go_upto_region 5 with (first
    | (refine wpList_st rfl _ (.tmp 7) _ rfl w4.heap.size 0 rfl (ucs Ud.zero B4 k4 d4) _ rfl rfl (infUc _ _ _ _) 38 _ HZ.out (by rw [ucs_len, ucs_len]; omega) (ucs_one _ _ _ _) ?_; intro v4 hb hks hz; simp only [Act.put])
    | fail)
  have hks2 := ((Kept.refl Nil w4).alloc (.cells (ucs Ud.zero none 0 0).toArray 38)).fresh hks (fun i hi => by cases hi; exact Nat.le_refl _)
  obtain ⟨g4, hg⟩ : ∃ g, w4.heap.size = g := ⟨_, rfl⟩
  have HK := Lib.hid (HK.out.then hks2)
  rw [hg]
  clear hb hks hz hks2 hg HZ
  go_wp2_with (fail)
  have hk := (Kept.refl Nil v4).alloc (.cells #[.int .u8 0, .int .u8 1, .int .u8 0, .int .u8 2, .int .u8 0, .int .u8 9, .int .u8 0, .int .u8 0, .int .u8 7, .int .u8 8] 5)
  have hn := byt_lit v4 [0, 1, 0, 2, 0, 9, 0, 0, 7, 8] 5 #[.int .u8 0, .int .u8 1, .int .u8 0, .int .u8 2, .int .u8 0, .int .u8 9, .int .u8 0, .int .u8 0, .int .u8 7, .int .u8 8] rfl 10 rfl _ rfl (by decide)
  have hp := uget_yes _ 10 10 [0, 1, 0, 2, 0, 9, 0, 0, 7, 8] _ hn (by decide)
  rw [kn5] at hp
  refine hp.mono ?_
  clear hp
  rintro e w5 ⟨B5, k5, d5, rfl, ⟨hq5, _⟩, hk4⟩
  dsimp only at hq5 ⊢
  have hk := hk.then hk4
  have HK := Lib.hid (HK.out.then hk)
  rw [kn5b] at hq5
  have hl5 : k5 = 1 := hq5.1.symm
  subst hl5
  have HQ5 := Lib.hid hq5
  clear hk hk4 hn hq5
  have HZ := Lib.hid (UB.new w5 38 Ud.zero none 0 0)
  go_upto_region 6 with (first
    | (refine wpList_st rfl _ (.tmp 9) _ rfl w5.heap.size 0 rfl (ucs u9 B5 1 d5) _ rfl rfl (infUc _ _ _ _) 38 _ HZ.out (by rw [ucs_len, ucs_len]; omega) (ucs_one _ _ _ _) ?_; intro v5 hb hks hz; simp only [Act.put])
    | fail)
  have hks2 := ((Kept.refl Nil w5).alloc (.cells (ucs Ud.zero none 0 0).toArray 38)).fresh hks (fun i hi => by cases hi; exact Nat.le_refl _)
  obtain ⟨g5, hg⟩ : ∃ g, w5.heap.size = g := ⟨_, rfl⟩
  have HQ5 := Lib.hid (HQ5.out.kept hks2 (fun _ _ hf => hf))
  have HK := Lib.hid (HK.out.then hks2)
  have HT5 := Lib.hid (show UB v5 w5.heap.size 38 u9 B5 1 d5 from hb)
  rw [hg] at HT5 ⊢
  clear hb hks hz hks2 hg HZ
  go_wp2_with (fail)
  have hp := tbytes_yes tH16 tH16_ok none 0 0 none 0 0 v5 (Byt.none _) (Byt.none _) (by decide) (by decide)
  rw [kn6] at hp
  refine hp.mono ?_
  clear hp
  rintro e w6 ⟨v, rfl, hmd⟩
  obtain ⟨D6, f6, rfl, _, _⟩ := byt_own hmd
  dsimp only [List.length_nil]
  have hk := hmd.2
  have HT5 := Lib.hid (HT5.out.kept hk (fun hf => hf))
  have HQ5 := Lib.hid (HQ5.out.kept hk (fun _ _ hf => hf))
  have HK := Lib.hid (HK.out.then hk)
  clear hk hmd
  go_wp2_with (refine wpList_mkC rfl _ _ rfl 3 (by decide) rfl rfl ?_; intro m7 hb hk; simp only [Act.put, List.setIfInBounds_toArray, List.set_cons_succ, List.set_cons_zero])
  have HT5 := Lib.hid (HT5.out.kept hk (fun hf => hf))
  have HQ5 := Lib.hid (HQ5.out.kept hk (fun _ _ hf => hf))
  have HK := Lib.hid (HK.out.then hk)
  have HN := Lib.hid (bloB (show Blo m7 w6.heap.size 5 (bys (zs 3)).toArray from hb) 3 (zs_len 3) (by decide))
  clear hb hk
  have hp := tbytes_yes (tHx 3) (tHx_ok _) _ 3 3 none 0 0 m7 HN.out (Byt.none _) (by decide) (by decide)
  rw [kn7] at hp
  refine hp.mono ?_
  clear hp
  rintro e w7 ⟨v, rfl, hmd⟩
  obtain ⟨D7, f7, rfl, _, _⟩ := byt_own hmd
  dsimp only [List.length_nil]
  have hk := hmd.2
  have HT5 := Lib.hid (HT5.out.kept hk (fun hf => hf))
  have HQ5 := Lib.hid (HQ5.out.kept hk (fun _ _ hf => hf))
  have HK := Lib.hid (HK.out.then hk)
  clear hk hmd
  clear HN
  go_wp2_with (refine wpList_mkC rfl _ _ rfl 44 (by decide) rfl rfl ?_; intro m8 hb hk; simp only [Act.put, List.setIfInBounds_toArray, List.set_cons_succ, List.set_cons_zero])
  have HT5 := Lib.hid (HT5.out.kept hk (fun hf => hf))
  have HQ5 := Lib.hid (HQ5.out.kept hk (fun _ _ hf => hf))
  have HK := Lib.hid (HK.out.then hk)
  have HN := Lib.hid (bloB (show Blo m8 w7.heap.size 5 (bys (zs 44)).toArray from hb) 44 (zs_len 44) (by decide))
  clear hb hk
  have hp := tbytes_yes (tHx 44) (tHx_ok _) _ 44 44 none 0 0 m8 HN.out (Byt.none _) (by decide) (by decide)
  rw [kn8] at hp
  refine hp.mono ?_
  clear hp
  rintro e w8 ⟨v, rfl, hmd⟩
  obtain ⟨D8, f8, rfl, _, _⟩ := byt_own hmd
  dsimp only [List.length_nil]
  have hk := hmd.2
  have HT5 := Lib.hid (HT5.out.kept hk (fun hf => hf))
  have HQ5 := Lib.hid (HQ5.out.kept hk (fun _ _ hf => hf))
  have HK := Lib.hid (HK.out.then hk)
  clear hk hmd
  clear HN
  go_wp2_with (fail)
  have hp := ubytes_yes uH9 uH9_ok none 0 0 w8 (Byt.none _) (by decide)
  rw [kn9] at hp
  refine hp.mono ?_
  clear hp
  rintro e w9 ⟨v, rfl, hmd⟩
  obtain ⟨D9, f9, rfl, _, _⟩ := byt_own hmd
  dsimp only [List.length_nil]
  have hk := hmd.2
  have HT5 := Lib.hid (HT5.out.kept hk (fun hf => hf))
  have HQ5 := Lib.hid (HQ5.out.kept hk (fun _ _ hf => hf))
  have HK := Lib.hid (HK.out.then hk)
  clear hk hmd
  go_wp2_with (refine wpList_mkC rfl _ _ rfl 40 (by decide) rfl rfl ?_; intro m10 hb hk; simp only [Act.put, List.setIfInBounds_toArray, List.set_cons_succ, List.set_cons_zero])
  have HT5 := Lib.hid (HT5.out.kept hk (fun hf => hf))
  have HQ5 := Lib.hid (HQ5.out.kept hk (fun _ _ hf => hf))
  have HK := Lib.hid (HK.out.then hk)
  have HN := Lib.hid (bloB (show Blo m10 w9.heap.size 5 (bys (zs 40)).toArray from hb) 40 (zs_len 40) (by decide))
  clear hb hk
  have hp := tseal_yes 0 0 1 (by decide) (by decide) (by decide) _ 40 40 (zs 40) m10 HN.out (by decide)
  rw [kn10] at hp
  refine hp.mono ?_
  clear hp
  rintro e w10 ⟨v, rfl, hmd⟩
  obtain ⟨D10, f10, rfl, _, _⟩ := byt_own hmd
  dsimp only [List.length_nil]
  have hk := hmd.2
  have HT5 := Lib.hid (HT5.out.kept hk (fun hf => hf))
  have HQ5 := Lib.hid (HQ5.out.kept hk (fun _ _ hf => hf))
  have HK := Lib.hid (HK.out.then hk)
  clear hk hmd
  clear HN
  go_wp2_with (refine wpList_mkC rfl _ _ rfl 17 (by decide) rfl rfl ?_; intro m11 hb hk; simp only [Act.put, List.setIfInBounds_toArray, List.set_cons_succ, List.set_cons_zero])
  have HT5 := Lib.hid (HT5.out.kept hk (fun hf => hf))
  have HQ5 := Lib.hid (HQ5.out.kept hk (fun _ _ hf => hf))
  have HK := Lib.hid (HK.out.then hk)
  have HN := Lib.hid (bloB (show Blo m11 w10.heap.size 5 (bys (zs 17)).toArray from hb) 17 (zs_len 17) (by decide))
  clear hb hk
  have hp := tseal_yes 0 0 6 (by decide) (by decide) (by decide) _ 17 17 (zs 17) m11 HN.out (by decide)
  rw [kn11] at hp
  refine hp.mono ?_
  clear hp
  rintro e w11 ⟨v, rfl, hmd⟩
  obtain ⟨D11, f11, rfl, _, _⟩ := byt_own hmd
  dsimp only [List.length_nil]
  have hk := hmd.2
  have HT5 := Lib.hid (HT5.out.kept hk (fun hf => hf))
  have HQ5 := Lib.hid (HQ5.out.kept hk (fun _ _ hf => hf))
  have HK := Lib.hid (HK.out.then hk)
  clear hk hmd
  clear HN
  go_wp2_with (refine wpList_mkC rfl _ _ rfl 65536 (by decide) rfl rfl ?_; intro m12 hb hk; simp only [Act.put, List.setIfInBounds_toArray, List.set_cons_succ, List.set_cons_zero])
  have HT5 := Lib.hid (HT5.out.kept hk (fun hf => hf))
  have HQ5 := Lib.hid (HQ5.out.kept hk (fun _ _ hf => hf))
  have HK := Lib.hid (HK.out.then hk)
  have HN := Lib.hid (bloB (show Blo m12 w11.heap.size 5 (bys (zs 65536)).toArray from hb) 65536 (zs_len 65536) (by decide))
  clear hb hk
  have hp := tseal_yes 0 0 17 (by decide) (by decide) (by decide) _ 65536 65536 (zs 65536) m12 HN.out (by decide)
  rw [kn12] at hp
  refine hp.mono ?_
  clear hp
  rintro e w12 ⟨v, rfl, hmd⟩
  obtain ⟨D12, f12, rfl, _, _⟩ := byt_own hmd
  dsimp only [List.length_nil]
  have hk := hmd.2
  have HT5 := Lib.hid (HT5.out.kept hk (fun hf => hf))
  have HQ5 := Lib.hid (HQ5.out.kept hk (fun _ _ hf => hf))
  have HK := Lib.hid (HK.out.then hk)
  clear hk hmd
  clear HN
  go_wp2_with (fail)
  have hp := tparse_yes ⟨#[]⟩ (by decide) w12 (HGG.out.kept HK.out).nm
  rw [show (⟨#[]⟩ : ByteArray).data.toList = [] from rfl, kn13] at hp
  refine hp.mono ?_
  clear hp
  rintro e w13 ⟨rfl, hk⟩
  dsimp only
  have HT5 := Lib.hid (HT5.out.kept hk (fun hf => hf))
  have HQ5 := Lib.hid (HQ5.out.kept hk (fun _ _ hf => hf))
  have HK := Lib.hid (HK.out.then hk)
  clear hk
  go_wp2_with (fail)
  have hp := tparse_yes ⟨#[115, 121, 110, 44, 45]⟩ (by decide) w13 (HGG.out.kept HK.out).nm
  rw [show (⟨#[115, 121, 110, 44, 45]⟩ : ByteArray).data.toList = [115, 121, 110, 44, 45] from rfl, kn14] at hp
  refine hp.mono ?_
  clear hp
  rintro e w14 ⟨rfl, hk⟩
  dsimp only
  have HT5 := Lib.hid (HT5.out.kept hk (fun hf => hf))
  have HQ5 := Lib.hid (HQ5.out.kept hk (fun _ _ hf => hf))
  have HK := Lib.hid (HK.out.then hk)
  clear hk
  go_wp2_with (fail)
  have hp := tparse_yes ⟨#[115, 121, 110, 44, 97, 99, 107, 44, 115, 121, 110]⟩ (by decide) w14 (HGG.out.kept HK.out).nm
  rw [show (⟨#[115, 121, 110, 44, 97, 99, 107, 44, 115, 121, 110]⟩ : ByteArray).data.toList = [115, 121, 110, 44, 97, 99, 107, 44, 115, 121, 110] from rfl, kn15] at hp
  refine hp.mono ?_
  clear hp
  rintro e w15 ⟨rfl, hk⟩
  dsimp only
  have HT5 := Lib.hid (HT5.out.kept hk (fun hf => hf))
  have HQ5 := Lib.hid (HQ5.out.kept hk (fun _ _ hf => hf))
  have HK := Lib.hid (HK.out.then hk)
  clear hk
  go_wp2_with (fail)
  have hp := tparse_yes ⟨#[115, 121, 110, 44, 115, 121, 110, 44, 120]⟩ (by decide) w15 (HGG.out.kept HK.out).nm
  rw [show (⟨#[115, 121, 110, 44, 115, 121, 110, 44, 120]⟩ : ByteArray).data.toList = [115, 121, 110, 44, 115, 121, 110, 44, 120] from rfl, kn16] at hp
  refine hp.mono ?_
  clear hp
  rintro e w16 ⟨rfl, hk⟩
  dsimp only
  have HT5 := Lib.hid (HT5.out.kept hk (fun hf => hf))
  have HQ5 := Lib.hid (HQ5.out.kept hk (fun _ _ hf => hf))
  have HK := Lib.hid (HK.out.then hk)
  clear hk
  go_wp2_with (refine wpList_mkC rfl _ _ rfl 60 (by decide) rfl rfl ?_; intro m17 hb hk; simp only [Act.put, List.setIfInBounds_toArray, List.set_cons_succ, List.set_cons_zero])
  have HT5 := Lib.hid (HT5.out.kept hk (fun hf => hf))
  have HQ5 := Lib.hid (HQ5.out.kept hk (fun _ _ hf => hf))
  have HK := Lib.hid (HK.out.then hk)
  have HN := Lib.hid (bloB (show Blo m17 w16.heap.size 5 (bys (zs 60)).toArray from hb) 60 (zs_len 60) (by decide))
  clear hb hk
  have hp := tports_yes 1 (by decide) _ 60 60 (zs 60) m17 HN.out (by decide)
  rw [kn17] at hp
  refine hp.mono ?_
  clear hp
  rintro e w17 ⟨rfl, hk⟩
  dsimp only
  have HT5 := Lib.hid (HT5.out.kept hk (fun hf => hf))
  have HQ5 := Lib.hid (HQ5.out.kept hk (fun _ _ hf => hf))
  have HK := Lib.hid (HK.out.then hk)
  clear hk HN
  go_wp2_with (fail)
  have hk := (Kept.refl Nil w17).alloc (.cells #[.int .u8 0, .int .u8 0, .int .u8 0, .int .u8 0, .int .u8 0, .int .u8 8, .int .u8 0, .int .u8 0] 5)
  have hn := byt_lit w17 [0, 0, 0, 0, 0, 8, 0, 0] 5 #[.int .u8 0, .int .u8 0, .int .u8 0, .int .u8 0, .int .u8 0, .int .u8 8, .int .u8 0, .int .u8 0] rfl 8 rfl _ rfl (by decide)
  have hp := tseal_yes 0 0 17 (by decide) (by decide) (by decide) _ 8 8 [0, 0, 0, 0, 0, 8, 0, 0] _ hn (by decide)
  rw [kn18] at hp
  refine hp.mono ?_
  clear hp
  rintro e w18 ⟨v, rfl, hmd⟩
  obtain ⟨D18, f18, rfl, hy, _⟩ := byt_own hmd
  dsimp only [List.length_cons, List.length_nil] at hy ⊢
  have hk := hk.then hmd.2
  have HT5 := Lib.hid (HT5.out.kept hk (fun hf => hf))
  have HQ5 := Lib.hid (HQ5.out.kept hk (fun _ _ hf => hf))
  have HK := Lib.hid (HK.out.then hk)
  have HR := Lib.hid hy
  clear hk hmd hy hn
  have hf8 := HR.out.2.1
  have y4 := HT5.out.cb
  obtain ⟨b7, o7, eB, hc7⟩ := HQ5.out.at (i := 0) (by decide)
  subst eB
  rw [Nat.add_zero] at hc7
  have hs6 := run_cut_lo (P := Tryd.prog) Tryd.underlying22 inf5.1 inf5.2 D18 8 f18 6 (6 : Int) rfl (by decide)
  have HC6 := Lib.hid (HR.out.cut (lo := 6) (hi := 8) (by decide) (by decide))
  generalize cutA D18 f18 6 = D6 at *
  generalize f18 - 6 = f6 at *
  go_wp2_with (fail)
  have hk := (Kept.refl Nil w18).alloc (.cells #[.int .u8 255, .int .u8 222] 5)
  have hn := byt_lit w18 [255, 222] 5 #[.int .u8 255, .int .u8 222] rfl 2 rfl _ rfl (by decide)
  refine (equal _ _ _ _ _ _ _ _ _ (HC6.out.kept hk (fun _ _ hf => hf)) hn).mono ?_
  rintro e _ ⟨rfl, rfl⟩
  rw [show (List.drop 6 (List.take 8 [(0 : UInt8), 0, 0, 0, 0, 8, 255, 222]) == [255, 222]) = true from by decide]
  have HK := Lib.hid (HK.out.then hk)
  clear hk hn HC6 hs6 hc7 y4
  go_wp2_with (fail)
  have hp := ttext_yes 255 (by decide) _ (HGG.out.kept HK.out).nm
  rw [kn19] at hp
  refine hp.mono ?_
  clear hp
  rintro e w19 ⟨rfl, hk⟩
  have HK := Lib.hid (HK.out.then hk)
  clear hk
  go_wp2_with (refine wpList_mkO rfl _ _ rfl 65536 (by decide) rfl rfl ?_; intro m20 hb hk; simp only [Act.put, List.setIfInBounds_toArray, List.set_cons_succ, List.set_cons_zero])
  have HK := Lib.hid (HK.out.then hk)
  have HN := Lib.hid (bloB (show Blo m20 w19.heap.size 5 (bys (zs 65536)).toArray from hb) 65536 (zs_len 65536) (by decide))
  clear hb hk
  have hp := tright_yes 0 0 6 (by decide) (by decide) (by decide) _ 65536 65536 (zs 65536) m20 HN.out (by decide)
  rw [kn20] at hp
  refine hp.mono ?_
  clear hp
  rintro e w21 ⟨rfl, hk⟩
  have HK := Lib.hid (HK.out.then hk)
  clear hk HN
  go_wp2_with (fail)
  refine (twakes_yes _ (HGG.out.kept HK.out).nm).mono ?_
  rintro e w22 ⟨rfl, hk⟩
  have HK := Lib.hid (HK.out.then hk)
  go_wp2_with (fail)
  go_ret
  exact ⟨rfl, HK.out.below (Nat.le_refl _) (fun _ hf => hf.elim)⟩
end Go.Proofs.YthjbabkmjmfmjaaDoor
