/- tolllaw08: heads as the reference's; heads are the same. -/
import Derived.Test.YtkpelaojjfcpfaaInL
import Derived.Test.YtkpelaojjfcpfaaAgg
import Derived.Test.YtkpelaojjfcpfaaUpto
namespace Go.Proofs.Ytkpelaojjfcpfaa
open Go.RowKit Go.Sort
set_option linter.unusedVariables false

set_option maxRecDepth 100000 in
set_option maxHeartbeats 2000000 in
theorem iof_yes (h : Hd) (A : Option Addr) (n c : Nat) (w : World) : Calls Try.prog 18 #[hdv h A n c] w fun e w' => e = .returned (hdv h A n c) ∧ Kept Nil w w' := by
  have hI := HB.new w 47 h A n c
  have hk := (Kept.refl Nil w).alloc (.cells (hcs h A n c).toArray 47)
  have hZ : HB ((w.alloc (.cells (hcs h A n c).toArray 47)).alloc (.cells (hcs Hd.zero none 0 0).toArray 54)) (w.heap.size + 1) 54 Hd.zero none 0 0 := by simpa using HB.new (w.alloc (.cells (hcs h A n c).toArray 47)) 54 Hd.zero none 0 0
  have hk2 := (Kept.refl Nil (w.alloc (.cells (hcs h A n c).toArray 47))).alloc (.cells (hcs Hd.zero none 0 0).toArray 54)
  have hI2 := hI.kept hk2 (fun hf => hf)
  go_enter Try.func18, Try.ntmps18
  go_upto_region 1 with (fail)
  refine wp_nameE (fun W => HB W w.heap.size 47 h A n c ∧ HB W (w.heap.size + 1) 54 Hd.zero none 0 0 ∧ Kept Nil w W) ⟨hI2, hZ, hk.then hk2⟩ ?_
  clear hI hk hZ hk2 hI2
  rintro W ⟨hI, hZ, hk⟩
  have y0 := hI.ct
  have y1 := hI.cl
  have y2 := hI.cp
  have y3 := hI.ci
  have y4 := hI.ce
  have y5 := hI.cd
  have y6 := hI.cm
  have y7 := hI.co
  have y8 := hI.cs
  have y9 := hI.cg
  have y10 := hI.cx
  have HZ := Lib.hid hZ
  have HK := Lib.hid hk
  clear hI hZ hk
  go_wp2_with (first
    | (refine wpList_st rfl _ (.tmp 2) _ rfl (w.heap.size + 1) 0 rfl (hcs h A n c) _ rfl rfl (infH _ _ _ _) 54 _ HZ.out (by rw [hcs_len, hcs_len]; omega) (hcs_one _ _ _ _) ?_; intro w2 hb2 hk2 hz2; simp only [Act.put])
    | fail)
  have h4 : HB w2 (w.heap.size + 1) 54 h A n c := HB.of_all hb2
  refine bodyPost_ret (res_cell0 Try.results18 rfl h4.all Try.underlying54 rfl (infH _ _ _ _)) rfl ⟨rfl, ?_⟩
  exact HK.out.fresh hk2 (fun i hi => by cases hi; omega)
set_option maxRecDepth 100000 in
set_option maxHeartbeats 4000000 in
theorem isame_yes (h : Hd) (A : Option Addr) (n c : Nat) (B : Option Addr) (m d : Nat) (w : World) (hx : Byt w A n c h.x) (hy : Byt w B m d h.x) : Calls Try.prog 17 #[.agg (hcs h A n c).toArray, .agg (hcs h B m d).toArray] w fun e w' => e = .returned (.bool true) ∧ Kept Nil w w' := by
  have hI := HB.new w 54 h A n c
  have hk := (Kept.refl Nil w).alloc (.cells (hcs h A n c).toArray 54)
  have hJ : HB ((w.alloc (.cells (hcs h A n c).toArray 54)).alloc (.cells (hcs h B m d).toArray 54)) (w.heap.size + 1) 54 h B m d := by simpa using HB.new (w.alloc (.cells (hcs h A n c).toArray 54)) 54 h B m d
  have hk2 := (Kept.refl Nil (w.alloc (.cells (hcs h A n c).toArray 54))).alloc (.cells (hcs h B m d).toArray 54)
  have hI2 := hI.kept hk2 (fun hf => hf)
  have HK := Lib.hid (hk.then hk2)
  have hxx := (hx.kept (hk.then hk2) (fun _ _ hf => hf))
  have hyy := (hy.kept (hk.then hk2) (fun _ _ hf => hf))
  have htx := hxx.text (P := Try.prog) Try.underlying22 Try.underlying5 Try.underlying9
  have hty := hyy.text (P := Try.prog) Try.underlying22 Try.underlying5 Try.underlying9
  have y0 := hI2.ct
  have y1 := hI2.cl
  have y2 := hI2.cp
  have y3 := hI2.ci
  have y4 := hI2.ce
  have y5 := hI2.cd
  have y6 := hI2.cm
  have y7 := hI2.co
  have y8 := hI2.cs
  have y9 := hI2.cg
  have y10 := hI2.cx
  have z0 := hJ.ct
  have z1 := hJ.cl
  have z2 := hJ.cp
  have z3 := hJ.ci
  have z4 := hJ.ce
  have z5 := hJ.cd
  have z6 := hJ.cm
  have z7 := hJ.co
  have z8 := hJ.cs
  have z9 := hJ.cg
  have z10 := hJ.cx
  clear hI hk hJ hk2 hI2 hxx hyy hx hy
  go_enter Try.func17, Try.ntmps17
  go_wp2_with (fail)
  go_ret
  exact ⟨rfl, HK.out⟩
end Go.Proofs.Ytkpelaojjfcpfaa
