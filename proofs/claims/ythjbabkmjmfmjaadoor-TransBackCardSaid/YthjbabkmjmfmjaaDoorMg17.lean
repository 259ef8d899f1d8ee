/- Texts that belong together, one behind the other: Upto, TrZ. Conditions: those of each. -/
import Derived.Test.YthjbabkmjmfmjaaDoorMg5
import Derived.Test.YthjbabkmjmfmjaaDoorMg6
import Derived.Test.YthjbabkmjmfmjaaDoorMg7
import Derived.Deep.DeepCutAuto
/- Bytes copied one by one into zeros; a byte of a slice. Nothing of the program is named here. -/
namespace Go.Proofs.YthjbabkmjmfmjaaDoor
open Go.RowKit Go.Sort
set_option linter.unusedVariables false

/-- The first q of l, zeros behind. -/
def upto (N q : Nat) (l : List UInt8) : List UInt8 := l.take q ++ List.replicate (N - q) 0
theorem upto_len (N q : Nat) (l : List UInt8) (h : q ≤ l.length) (hq : q ≤ N) : (upto N q l).length = N := by unfold upto; rw [List.length_append, List.length_take, List.length_replicate]; omega
theorem upto_set (N q : Nat) (l : List UInt8) (h : q < l.length) (hq : q < N) : (upto N q l).set q l[q] = upto N (q + 1) l := by
  unfold upto
  have h1 : (l.take q).length = q := by rw [List.length_take]; omega
  rw [List.set_append_right _ _ (by omega), h1, Nat.sub_self, show N - q = (N - (q + 1)) + 1 by omega, List.replicate_succ, List.set_cons_zero, List.take_succ_eq_append_getElem h, List.append_assoc]
  rfl
theorem upto_all (N : Nat) (l : List UInt8) : upto N N l = l.take N := by unfold upto; rw [Nat.sub_self, List.replicate_zero, List.append_nil]
theorem upto_zero (N : Nat) (l : List UInt8) : upto N 0 l = List.replicate N 0 := rfl
theorem byt_ge {w : World} {b o n c : Nat} {l : List UInt8} (h : Byt w (some ⟨b, o, none⟩) n c l) (i : Nat) (u : UInt8) (hu : l[i]? = some u) : w.cell? ⟨b, o + i, none⟩ = some (.int .u8 (u.toNat : Int)) := by
  obtain ⟨hi, rfl⟩ := List.getElem?_eq_some_iff.1 hu
  obtain ⟨b', o', e, hc⟩ := h.at hi
  cases e
  exact hc
theorem set_split {α : Type} (cs : List α) (i : Nat) (v : α) (h : i < cs.length) : cs.take i ++ [v] ++ cs.drop (i + [v].length) = cs.set i v := by
  rw [List.set_eq_take_append_cons_drop, if_pos h]
  simp
theorem bys_put (l : List UInt8) (i : Nat) (b : UInt8) : (bys l).set i (.int .u8 (b.toNat : Int)) = bys (l.set i b) := by simp [bys, List.map_set]
end Go.Proofs.YthjbabkmjmfmjaaDoor
/- tolllaw07's helpers: ofTcp, ofUdp, same, like. -/
namespace Go.Proofs.YthjbabkmjmfmjaaDoor
open Go.RowKit Go.Sort
set_option linter.unusedVariables false

def tcv (h : Tc) (A : Option Addr) (n c : Nat) (B : Option Addr) (m d : Nat) : Value := .agg (tcs h A n c B m d).toArray
set_option maxRecDepth 100000 in
set_option maxHeartbeats 4000000 in
theorem oft_yes (h : Tc) (hok : h.ok) (A : Option Addr) (n c : Nat) (B : Option Addr) (m d : Nat) (w : World) : Calls Tryd.prog 19 #[.agg (tcs h A n c B m d).toArray] w fun e w' => e = .returned (.agg (tqs h A n c B m d).toArray) ∧ Kept Nil w w' := by
  have b0 := hok.f
  have b1 := hok.t
  have b4 := hok.o
  have b5 := hok.g
  have b6 := hok.w
  have b7 := hok.c
  have b8 := hok.u
  have hI := TB.new w 29 h A n c B m d
  have hk := (Kept.refl Nil w).alloc (.cells (tcs h A n c B m d).toArray 29)
  have hZ : TQ ((w.alloc (.cells (tcs h A n c B m d).toArray 29)).alloc (.cells (tqs Tc.zero none 0 0 none 0 0).toArray 34)) (w.heap.size + 1) 34 Tc.zero none 0 0 none 0 0 := by simpa using TQ.new (w.alloc (.cells (tcs h A n c B m d).toArray 29)) 34 Tc.zero none 0 0 none 0 0
  have hk2 := (Kept.refl Nil (w.alloc (.cells (tcs h A n c B m d).toArray 29))).alloc (.cells (tqs Tc.zero none 0 0 none 0 0).toArray 34)
  have hI2 := hI.kept hk2 (fun hf => hf)
  go_enter Tryd.func19, Tryd.ntmps19
  go_upto_region 1 with (fail)
  refine wp_nameE (fun W => TB W w.heap.size 29 h A n c B m d ∧ TQ W (w.heap.size + 1) 34 Tc.zero none 0 0 none 0 0 ∧ Kept Nil w W) ⟨hI2, hZ, hk.then hk2⟩ ?_
  clear hI hk hZ hk2 hI2
  rintro W ⟨hI, hZ, hk⟩
  have y0 := hI.cf
  have y1 := hI.ct
  have y2 := hI.cs
  have y3 := hI.ca
  have y4 := hI.co
  have y5 := hI.cg
  have y6 := hI.cw
  have y7 := hI.cc
  have y8 := hI.cu
  have y9 := hI.cx
  have y10 := hI.cb
  have HZ := Lib.hid hZ
  have HK := Lib.hid hk
  clear hI hZ hk
  go_wp2_with (first
    | (refine wpList_st rfl _ (.tmp 2) _ rfl (w.heap.size + 1) 0 rfl (tqs h A n c B m d) _ rfl rfl (infTq _ _ _ _ _ _ _) 34 _ HZ.out (by rw [tqs_len, tqs_len]; omega) (tqs_one _ _ _ _ _ _ _) ?_; intro w2 hb2 hk2 hz2; simp only [Act.put])
    | fail)
  have h4 : TQ w2 (w.heap.size + 1) 34 h A n c B m d := hb2
  refine bodyPost_ret (res_cell0 Tryd.results19 rfl h4.all Tryd.underlying34 rfl (infTq _ _ _ _ _ _ _)) rfl ⟨rfl, ?_⟩
  exact HK.out.fresh hk2 (fun i hi => by cases hi; omega)
set_option maxRecDepth 100000 in
set_option maxHeartbeats 4000000 in
theorem ofu_yes (h : Ud) (hok : h.ok) (B : Option Addr) (m d : Nat) (w : World) : Calls Tryd.prog 21 #[.agg (ucs h B m d).toArray] w fun e w' => e = .returned (.agg (uqs h B m d).toArray) ∧ Kept Nil w w' := by
  have b0 := hok.f
  have b1 := hok.t
  have b2 := hok.n
  have b3 := hok.c
  have hI := UB.new w 38 h B m d
  have hk := (Kept.refl Nil w).alloc (.cells (ucs h B m d).toArray 38)
  have hZ : UQ ((w.alloc (.cells (ucs h B m d).toArray 38)).alloc (.cells (uqs Ud.zero none 0 0).toArray 42)) (w.heap.size + 1) 42 Ud.zero none 0 0 := by simpa using UQ.new (w.alloc (.cells (ucs h B m d).toArray 38)) 42 Ud.zero none 0 0
  have hk2 := (Kept.refl Nil (w.alloc (.cells (ucs h B m d).toArray 38))).alloc (.cells (uqs Ud.zero none 0 0).toArray 42)
  have hI2 := hI.kept hk2 (fun hf => hf)
  go_enter Tryd.func21, Tryd.ntmps21
  go_upto_region 1 with (fail)
  refine wp_nameE (fun W => UB W w.heap.size 38 h B m d ∧ UQ W (w.heap.size + 1) 42 Ud.zero none 0 0 ∧ Kept Nil w W) ⟨hI2, hZ, hk.then hk2⟩ ?_
  clear hI hk hZ hk2 hI2
  rintro W ⟨hI, hZ, hk⟩
  have y0 := hI.cf
  have y1 := hI.ct
  have y2 := hI.cn
  have y3 := hI.cc
  have y4 := hI.cb
  have HZ := Lib.hid hZ
  have HK := Lib.hid hk
  clear hI hZ hk
  go_wp2_with (first
    | (refine wpList_st rfl _ (.tmp 2) _ rfl (w.heap.size + 1) 0 rfl (uqs h B m d) _ rfl rfl (infUq _ _ _ _) 42 _ HZ.out (by rw [uqs_len, uqs_len]; omega) (uqs_one _ _ _ _) ?_; intro w2 hb2 hk2 hz2; simp only [Act.put])
    | fail)
  have h4 : UQ w2 (w.heap.size + 1) 42 h B m d := hb2
  refine bodyPost_ret (res_cell0 Tryd.results21 rfl h4.all Tryd.underlying42 rfl (infUq _ _ _ _)) rfl ⟨rfl, ?_⟩
  exact HK.out.fresh hk2 (fun i hi => by cases hi; omega)
set_option maxRecDepth 100000 in
set_option maxHeartbeats 4000000 in
/-- One head told at two places. -/
theorem tsame_yes (h : Tc) (A : Option Addr) (n c : Nat) (B : Option Addr) (m d : Nat) (A2 : Option Addr) (n2 c2 : Nat) (B2 : Option Addr) (m2 d2 : Nat) (w : World) (hx : Byt w A n c h.x) (hb : Byt w B m d h.b) (hx2 : Byt w A2 n2 c2 h.x) (hb2 : Byt w B2 m2 d2 h.b) : Calls Tryd.prog 18 #[.agg (tqs h A n c B m d).toArray, .agg (tqs h A2 n2 c2 B2 m2 d2).toArray] w fun e w' => e = .returned (.bool true) ∧ Kept Nil w w' := by
  have hI := TQ.new w 34 h A n c B m d
  have hk := (Kept.refl Nil w).alloc (.cells (tqs h A n c B m d).toArray 34)
  have hJ : TQ ((w.alloc (.cells (tqs h A n c B m d).toArray 34)).alloc (.cells (tqs h A2 n2 c2 B2 m2 d2).toArray 34)) (w.heap.size + 1) 34 h A2 n2 c2 B2 m2 d2 := by simpa using TQ.new (w.alloc (.cells (tqs h A n c B m d).toArray 34)) 34 h A2 n2 c2 B2 m2 d2
  have hk2 := (Kept.refl Nil (w.alloc (.cells (tqs h A n c B m d).toArray 34))).alloc (.cells (tqs h A2 n2 c2 B2 m2 d2).toArray 34)
  have hI2 := hI.kept hk2 (fun hf => hf)
  have hkk := hk.then hk2
  go_enter Tryd.func18, Tryd.ntmps18
  go_upto_region 1 with (fail)
  refine wp_nameE (fun W => TQ W w.heap.size 34 h A n c B m d ∧ TQ W (w.heap.size + 1) 34 h A2 n2 c2 B2 m2 d2 ∧ Kept Nil w W) ⟨hI2, hJ, hkk⟩ ?_
  clear hI hk hJ hk2 hI2 hkk
  rintro W ⟨hI, hJ, hk⟩
  have HX := Lib.hid (hx.kept hk (fun _ _ hf => hf))
  have HX2 := Lib.hid (hx2.kept hk (fun _ _ hf => hf))
  have HB := Lib.hid (hb.kept hk (fun _ _ hf => hf))
  have HB2 := Lib.hid (hb2.kept hk (fun _ _ hf => hf))
  have y0 := hI.cf
  have y1 := hI.ct
  have y2 := hI.cs
  have y3 := hI.ca
  have y4 := hI.co
  have y5 := hI.cg
  have y6 := hI.cw
  have y7 := hI.cc
  have y8 := hI.cu
  have y9 := hI.cx
  have y10 := hI.cb
  have z0 := hJ.cf
  have z1 := hJ.ct
  have z2 := hJ.cs
  have z3 := hJ.ca
  have z4 := hJ.co
  have z5 := hJ.cg
  have z6 := hJ.cw
  have z7 := hJ.cc
  have z8 := hJ.cu
  have z9 := hJ.cx
  have z10 := hJ.cb
  have HK := Lib.hid hk
  clear hI hJ hk hx hx2 hb hb2
  go_wp2_with (fail)
  refine (equal _ _ _ _ _ _ _ _ W HX.out HX2.out).mono ?_
  rintro e _ ⟨rfl, rfl⟩
  rw [beq_self_eq_true]
  go_wp2_with (fail)
  refine (equal _ _ _ _ _ _ _ _ W HB.out HB2.out).mono ?_
  rintro e _ ⟨rfl, rfl⟩
  rw [beq_self_eq_true]
  go_wp2
  go_ret
  exact ⟨rfl, HK.out⟩
set_option maxRecDepth 100000 in
set_option maxHeartbeats 4000000 in
theorem ulike_yes (h : Ud) (B : Option Addr) (m d : Nat) (B2 : Option Addr) (m2 d2 : Nat) (w : World) (hb : Byt w B m d h.b) (hb2 : Byt w B2 m2 d2 h.b) : Calls Tryd.prog 20 #[.agg (uqs h B m d).toArray, .agg (uqs h B2 m2 d2).toArray] w fun e w' => e = .returned (.bool true) ∧ Kept Nil w w' := by
  have hI := UQ.new w 42 h B m d
  have hk := (Kept.refl Nil w).alloc (.cells (uqs h B m d).toArray 42)
  have hJ : UQ ((w.alloc (.cells (uqs h B m d).toArray 42)).alloc (.cells (uqs h B2 m2 d2).toArray 42)) (w.heap.size + 1) 42 h B2 m2 d2 := by simpa using UQ.new (w.alloc (.cells (uqs h B m d).toArray 42)) 42 h B2 m2 d2
  have hk2 := (Kept.refl Nil (w.alloc (.cells (uqs h B m d).toArray 42))).alloc (.cells (uqs h B2 m2 d2).toArray 42)
  have hI2 := hI.kept hk2 (fun hf => hf)
  have hkk := hk.then hk2
  go_enter Tryd.func20, Tryd.ntmps20
  go_upto_region 1 with (fail)
  refine wp_nameE (fun W => UQ W w.heap.size 42 h B m d ∧ UQ W (w.heap.size + 1) 42 h B2 m2 d2 ∧ Kept Nil w W) ⟨hI2, hJ, hkk⟩ ?_
  clear hI hk hJ hk2 hI2 hkk
  rintro W ⟨hI, hJ, hk⟩
  have HB := Lib.hid (hb.kept hk (fun _ _ hf => hf))
  have HB2 := Lib.hid (hb2.kept hk (fun _ _ hf => hf))
  have y0 := hI.cf
  have y1 := hI.ct
  have y2 := hI.cn
  have y3 := hI.cc
  have y4 := hI.cb
  have z0 := hJ.cf
  have z1 := hJ.ct
  have z2 := hJ.cn
  have z3 := hJ.cc
  have z4 := hJ.cb
  have HK := Lib.hid hk
  clear hI hJ hk hb hb2
  go_wp2_with (fail)
  refine (equal _ _ _ _ _ _ _ _ W HB.out HB2.out).mono ?_
  rintro e _ ⟨rfl, rfl⟩
  rw [beq_self_eq_true]
  go_wp2
  go_ret
  exact ⟨rfl, HK.out⟩
end Go.Proofs.YthjbabkmjmfmjaaDoor
