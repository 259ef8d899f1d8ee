/- tolllaw06's helpers: tells, of, same. -/
import Derived.Test.YtflhbidmjlfjkaaDoorInL
import Derived.Test.YtflhbidmjlfjkaaDoorInJ
import Derived.Test.YtflhbidmjlfjkaaDoorAgg
import Derived.Test.YtflhbidmjlfjkaaDoorUpto
namespace Go.Proofs.YtflhbidmjlfjkaaDoor
open Go.RowKit Go.Sort
set_option linter.unusedVariables false

def tLit : List UInt8 := [49, 48, 46, 49, 46, 50, 46, 51, 47, 56]
def tOut : List UInt8 := [49, 48, 46, 48, 46, 48, 46, 48, 47, 56]
theorem t_parse : pparseM tLit = (167772160, 8, 0) := by decide +kernel
theorem t_text : ptextM 167772160 8 = tOut := by decide +kernel
theorem t_sum : sumM [0, 1, 242, 3, 244, 245, 246, 247] = 8717 := by decide +kernel
set_option maxRecDepth 100000 in
set_option maxHeartbeats 2000000 in
theorem tells_yes (w : World) (hG : Gl w) : Calls Tryd.prog 16 #[] w fun e w' => e = .returned (.bool true) ∧ Kept Nil w w' := by
  have HGG := Lib.hid hG
  go_enter Tryd.func16, Tryd.ntmps16
  go_wp2_with (fail)
  have hp := ippar_yes ⟨#[49, 48, 46, 49, 46, 50, 46, 51, 47, 56]⟩ (by decide) w hG
  rw [show (⟨#[49, 48, 46, 49, 46, 50, 46, 51, 47, 56]⟩ : ByteArray).data.toList = tLit from rfl, t_parse] at hp
  refine hp.mono ?_
  rintro e w1 ⟨rfl, hk1⟩
  clear hp
  dsimp only
  have HSZ := Lib.hid hk1.size
  have hP := Blo.new w1 46 (pfc 0 0).toArray
  have hk2 := hk1.alloc (.cells (pfc 0 0).toArray 46)
  have HP := Lib.hid hP
  have HK := Lib.hid hk2
  clear hP hk1 hk2
  go_upto_region 2 with (first
    | (refine wpList_st rfl _ (.tmp 1) _ rfl w1.heap.size 0 rfl (pfc 167772160 8) _ rfl rfl (infPf _ _) 46 _ HP.out (by decide) (pfc_one _ _) ?_; intro w2 hb2 hk2 hz2; simp only [Act.put])
    | fail)
  have HP2 := Lib.hid (PF.of_st hb2)
  have HK2 := Lib.hid (HK.out.fresh hk2 (fun i hi => by unfold One at hi; subst hi; exact HSZ.out))
  clear hb2 hk2 hz2 HP HK
  go_wp2_with (fail)
  have hka := (Kept.refl Nil w2).alloc (.cells #[.int .u8 0, .int .u8 1, .int .u8 242, .int .u8 3, .int .u8 244, .int .u8 245, .int .u8 246, .int .u8 247] 5)
  have hs := isum_yes _ 8 8 [0, 1, 242, 3, 244, 245, 246, 247] _ (byt_lit w2 [0, 1, 242, 3, 244, 245, 246, 247] 5 _ rfl 8 rfl _ rfl (by show 8 ≤ _; decide)) (by decide)
  rw [t_sum] at hs
  refine hs.mono ?_
  rintro e w3 ⟨rfl, hk3⟩
  clear hs
  dsimp only
  have HP3 := Lib.hid ((HP2.out.kept hka (fun hf => hf)).kept hk3 (fun hf => hf))
  have HK3 := Lib.hid ((HK2.out.then hka).then hk3)
  clear hka hk3 HP2 HK2
  go_wp2_with (first
    | (refine wpList_ld rfl _ _ rfl w1.heap.size 0 rfl (pfc 167772160 8) HP3.out.all _ Tryd.underlying46 rfl (infPf _ _) ?_; simp only [Act.put, List.setIfInBounds_toArray, List.set_cons_succ, List.set_cons_zero])
    | fail)
  have ht := iptext_yes 167772160 (by decide) 8 (by decide) w3 (HGG.out.kept HK3.out)
  rw [t_text] at ht
  refine ht.mono ?_
  rintro e w4 ⟨rfl, hk4⟩
  clear ht
  dsimp only [tOut]
  go_wp2
  go_ret
  exact ⟨rfl, HK3.out.then hk4⟩
theorem infI (h : Hd) (A : Option Addr) (n c : Nat) : (Tryd.prog.info? 27).map (·.size) = some (hcs h A n c).length := infHi h A n c
set_option maxRecDepth 100000 in
set_option maxHeartbeats 2000000 in
theorem of_yes (h : Hd) (A : Option Addr) (n c : Nat) (w : World) : Calls Tryd.prog 11 #[hdv h A n c] w fun e w' => e = .returned (hdv h A n c) ∧ Kept Nil w w' := by
  have hI := HB.new w 27 h A n c
  have hk := (Kept.refl Nil w).alloc (.cells (hcs h A n c).toArray 27)
  have hZ : HB ((w.alloc (.cells (hcs h A n c).toArray 27)).alloc (.cells (hcs Hd.zero none 0 0).toArray 34)) (w.heap.size + 1) 34 Hd.zero none 0 0 := by simpa using HB.new (w.alloc (.cells (hcs h A n c).toArray 27)) 34 Hd.zero none 0 0
  have hk2 := (Kept.refl Nil (w.alloc (.cells (hcs h A n c).toArray 27))).alloc (.cells (hcs Hd.zero none 0 0).toArray 34)
  have hI2 := hI.kept hk2 (fun hf => hf)
  go_enter Tryd.func11, Tryd.ntmps11
  go_upto_region 1 with (fail)
  refine wp_nameE (fun W => HB W w.heap.size 27 h A n c ∧ HB W (w.heap.size + 1) 34 Hd.zero none 0 0 ∧ Kept Nil w W) ⟨hI2, hZ, hk.then hk2⟩ ?_
  clear hI hk hZ hk2 hI2
  rintro W ⟨hI, hZ, hk⟩
  have y0 := hI.ct
  have y1 := hI.cl
  have y2 := hI.cp
  have y3 := hI.ci
  have y4 := hI.ce
  have y5 := hI.cd
  have y6 := hI.cm
  have y7 := hI.co
  have y8 := hI.cs
  have y9 := hI.cg
  have y10 := hI.cx
  have HZ := Lib.hid hZ
  have HK := Lib.hid hk
  clear hI hZ hk
  go_wp2_with (first
    | (refine wpList_st rfl _ (.tmp 2) _ rfl (w.heap.size + 1) 0 rfl (hcs h A n c) _ rfl rfl (infH _ _ _ _) 34 _ HZ.out (by rw [hcs_len, hcs_len]; omega) (hcs_one _ _ _ _) ?_; intro w2 hb2 hk2 hz2; simp only [Act.put])
    | fail)
  have h4 : HB w2 (w.heap.size + 1) 34 h A n c := HB.of_all hb2
  refine bodyPost_ret (res_cell0 Tryd.results11 rfl h4.all Tryd.underlying34 rfl (infH _ _ _ _)) rfl ⟨rfl, ?_⟩
  exact HK.out.fresh hk2 (fun i hi => by cases hi; omega)
set_option maxRecDepth 100000 in
set_option maxHeartbeats 4000000 in
theorem same_yes (h : Hd) (A : Option Addr) (n c : Nat) (B : Option Addr) (m d : Nat) (w : World) (hx : Byt w A n c h.x) (hy : Byt w B m d h.x) : Calls Tryd.prog 20 #[.agg (hcs h A n c).toArray, .agg (hcs h B m d).toArray] w fun e w' => e = .returned (.bool true) ∧ Kept Nil w w' := by
  have hI := HB.new w 34 h A n c
  have hk := (Kept.refl Nil w).alloc (.cells (hcs h A n c).toArray 34)
  have hJ : HB ((w.alloc (.cells (hcs h A n c).toArray 34)).alloc (.cells (hcs h B m d).toArray 34)) (w.heap.size + 1) 34 h B m d := by simpa using HB.new (w.alloc (.cells (hcs h A n c).toArray 34)) 34 h B m d
  have hk2 := (Kept.refl Nil (w.alloc (.cells (hcs h A n c).toArray 34))).alloc (.cells (hcs h B m d).toArray 34)
  have hI2 := hI.kept hk2 (fun hf => hf)
  have HK := Lib.hid (hk.then hk2)
  have hxx := (hx.kept (hk.then hk2) (fun _ _ hf => hf))
  have hyy := (hy.kept (hk.then hk2) (fun _ _ hf => hf))
  have htx := hxx.text (P := Tryd.prog) Tryd.underlying25 Tryd.underlying5 Tryd.underlying9
  have hty := hyy.text (P := Tryd.prog) Tryd.underlying25 Tryd.underlying5 Tryd.underlying9
  have y0 := hI2.ct
  have y1 := hI2.cl
  have y2 := hI2.cp
  have y3 := hI2.ci
  have y4 := hI2.ce
  have y5 := hI2.cd
  have y6 := hI2.cm
  have y7 := hI2.co
  have y8 := hI2.cs
  have y9 := hI2.cg
  have y10 := hI2.cx
  have z0 := hJ.ct
  have z1 := hJ.cl
  have z2 := hJ.cp
  have z3 := hJ.ci
  have z4 := hJ.ce
  have z5 := hJ.cd
  have z6 := hJ.cm
  have z7 := hJ.co
  have z8 := hJ.cs
  have z9 := hJ.cg
  have z10 := hJ.cx
  clear hI hk hJ hk2 hI2 hxx hyy hx hy
  go_enter Tryd.func20, Tryd.ntmps20
  go_wp2_with (fail)
  go_ret
  exact ⟨rfl, HK.out⟩
end Go.Proofs.YtflhbidmjlfjkaaDoor
