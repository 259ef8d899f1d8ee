/- tolllaw05: the examples (wakes). -/
import Derived.Test.YtddpdopccejmbaaArpE
import Derived.Test.YtddpdopccejmbaaZer
namespace Go.Proofs.Ytddpdopccejmbaa
open Go.RowKit Go.Sort
set_option linter.unusedVariables false

def e28 : List UInt8 := [0, 1, 8, 0, 6, 4, 0, 1] ++ List.replicate 20 0
def pk1 : Pk := ⟨1, o6, 0, o6, 0⟩
theorem pk1_ok : pk1.ok := ⟨by decide, rfl, by decide, rfl, by decide⟩
theorem ex_one : getP e28 = (pk1, 0) := by decide +kernel
theorem ex_short : getP (e28.take 27) = (Pk.zero, 4) := by decide +kernel
theorem ex_form : getP (e28.set 7 6) = (Pk.zero, 5) := by decide +kernel
theorem ex_pr : probesP pk1 = true := by decide +kernel
/-- A row known whole, whose first bytes are l. -/
theorem blo_byt {w : World} {g : Nat} {T : TypeId} {l : List UInt8} {r : List Value} (h : Blo w g T (bys l ++ r).toArray) (n c : Nat) (hn : l.length = n) (hc : n ≤ c) (hcc : c ≤ 9223372036854775807) : Byt w (some ⟨g, 0, none⟩) n c l := by
  subst hn
  refine ⟨rfl, hc, hcc, fun _ => ⟨g, 0, rfl, fun i hi => ?_⟩⟩
  rw [h.cell]
  simp [bys, List.getElem?_append_left, hi]
theorem blo_put {w : World} {g : Nat} {T : TypeId} {l : List UInt8} {r : List Value} {i : Nat} {b : UInt8} (hi : i < l.length) (h : Blo w g T ((bys l ++ r).take i ++ [Value.int .u8 (b.toNat : Int)] ++ (bys l ++ r).drop (i + [Value.int .u8 (b.toNat : Int)].length)).toArray) : Blo w g T (bys (l.set i b) ++ r).toArray := by
  rw [set_split _ _ _ (by simp [bys_len]; omega), List.set_append_left _ _ (by rw [bys_len]; exact hi), bys_put] at h
  exact h
theorem e28_len : e28.length = 28 := by decide +kernel
set_option maxRecDepth 100000 in
set_option maxHeartbeats 4000000 in
theorem wakes_yes (w : World) : Calls Try.prog 21 #[] w fun e w' => e = .returned (.bool true) ∧ Kept Nil w w' := by
  obtain ⟨i0, hi, hz0, hz1, hz2⟩ := info_parts Try.infb
  have hl1 := (Blo.new w 5 (bys [0, 1, 8, 0, 6, 4, 0, 1]).toArray)
  have hrun := run_append_zeros (P := Try.prog) (w.alloc (.cells (bys [0, 1, 8, 0, 6, 4, 0, 1]).toArray 5)) 26 3 26 5 i0 (.int .u8 0) .i64 .i64 Try.underlying26 Try.underlying3 hi hz0 hz1 hz2 20 8 (by decide) ⟨w.heap.size, 0, none⟩ (bys [0, 1, 8, 0, 6, 4, 0, 1]) rfl (fun j u hu => by rw [addr_add, hl1.cell]; simpa using hu) (by decide)
  have hcap := grownCap_ge (w.alloc (.cells (bys [0, 1, 8, 0, 6, 4, 0, 1]).toArray 5)) (8 + 20) 8 5
  have hcm := grownCap_le_maxLen (w.alloc (.cells (bys [0, 1, 8, 0, 6, 4, 0, 1]).toArray 5)) (8 + 20) 8 5 (by decide)
  generalize grownCap (w.alloc (.cells (bys [0, 1, 8, 0, 6, 4, 0, 1]).toArray 5)) (8 + 20) 8 5 = C at *
  rw [zeros_bytes, zeros_bytes] at hrun
  have hcm' : C ≤ 9223372036854775807 := by unfold maxLen at hcm; omega
  obtain ⟨W, hrW, hB, hK⟩ : ∃ W, (Builtin.append_ #[26, 3] 26 #[.slice (some ⟨w.heap.size, 0, none⟩) 8 8, .int .i64 ((20 : Nat) : Int)]).run Try.prog (w.alloc (.cells (bys [0, 1, 8, 0, 6, 4, 0, 1]).toArray 5)) = .ok (.slice (some ⟨w.heap.size + 1, 0, none⟩) 28 C) W ∧ Blo W (w.heap.size + 1) 5 (bys e28 ++ bys (List.replicate (C - (8 + 20)) 0)).toArray ∧ Kept Nil w W := by
    refine ⟨_, by rw [hrun, World.size_alloc], ?_, (((Kept.refl Nil w).alloc _).drew).alloc _⟩
    have hN := Blo.new ((w.alloc (.cells (bys [0, 1, 8, 0, 6, 4, 0, 1]).toArray 5)).drew) 5 ((bys [0, 1, 8, 0, 6, 4, 0, 1]).toArray ++ (bys (List.replicate 20 0)).toArray ++ (bys (List.replicate (C - (8 + 20)) 0)).toArray)
    rw [show (w.alloc (.cells (bys [0, 1, 8, 0, 6, 4, 0, 1]).toArray 5)).drew.heap.size = w.heap.size + 1 from by show (w.alloc _).heap.size = _; simp] at hN
    rw [show (bys [0, 1, 8, 0, 6, 4, 0, 1]).toArray ++ (bys (List.replicate 20 0)).toArray ++ (bys (List.replicate (C - (8 + 20)) 0)).toArray = (bys e28 ++ bys (List.replicate (C - (8 + 20)) 0)).toArray by unfold e28; rw [bys_app, List.append_toArray, List.append_toArray]] at hN ⊢
    exact hN
  have HR := Lib.hid hrW
  clear hrun hl1 hcm hrW
  go_enter Try.func21, Try.ntmps21
  go_upto_region 2 with (at_builtin; refine Lib.wpList_append_run _ rfl _ _ 26 3 rfl _ _ rfl rfl _ _ HR.out ?_)
  clear HR
  have HB := Lib.hid hB
  have HK := Lib.hid hK
  have HY := Lib.hid (blo_byt hB 28 C e28_len (by omega) hcm')
  generalize bys (List.replicate (C - (8 + 20)) 0) = R at *
  clear hB hK
  go_wp2_with (fail)
  refine (pget_yes _ 28 C e28 _ HY.out (by decide)).mono ?_
  rintro e w1 ⟨rfl, hk⟩
  rw [ex_one]
  have HB1 := Lib.hid (HB.out.kept hk (fun hf => hf))
  have HK1 := Lib.hid (HK.out.then hk)
  have HN1 := Lib.hid (PB.new w1 49 Pk.zero)
  clear hk HB HK HY
  go_upto_region 3 with (first | (refine wpList_st rfl _ (.tmp 2) _ rfl _ 0 rfl (pcs pk1) _ rfl rfl (infP _ pk1_ok) 49 _ HN1.out (by rw [pcs_len Pk.zero_ok, pcs_len pk1_ok]; omega) (pcs_one _) ?_; intro w2 hb2 hk2 hz2) | fail)
  have hk12 := ((Kept.refl Nil w1).alloc (.cells (pcs Pk.zero).toArray 49)).fresh hk2 (fun i hi => by cases hi; exact Nat.le_refl _)
  have HP2 := Lib.hid (PB.of_all (p' := pk1) Pk.zero_ok pk1_ok hb2)
  have HB2 := Lib.hid (HB1.out.kept hk12 (fun hf => hf))
  have HK2 := Lib.hid (HK1.out.then hk12)
  have HY2 := Lib.hid ((blo_byt HB2.out 28 C e28_len (by omega) hcm').pre (hi := 27) (by decide))
  obtain ⟨gp, hgp⟩ : ∃ g, w1.heap.size = g := ⟨_, rfl⟩
  have HGP := Lib.hid (show w.heap.size + 1 < gp by rw [← hgp]; exact HB1.out.lt)
  rw [hgp] at HP2 ⊢
  have hsl := run_cut_hi (P := Try.prog) Try.underlying26 inf5.1 (some ⟨w.heap.size + 1, 0, none⟩) 28 C 27 (27 : Int) rfl (by omega)
  clear hb2 hk2 hz2 hk12 hgp HB1 HK1 HN1
  go_wp2_with (fail)
  refine (pget_yes _ 27 C (e28.take 27) _ HY2.out (by decide)).mono ?_
  rintro e w3 ⟨rfl, hk⟩
  rw [ex_short]
  have HB3 := Lib.hid (HB2.out.kept hk (fun hf => hf))
  have HK3 := Lib.hid (HK2.out.then hk)
  have HP3 := Lib.hid (HP2.out.kept hk (fun hf => hf))
  have HN3 := Lib.hid (PB.new w3 49 Pk.zero)
  clear hk HB2 HK2 HY2 HP2 hsl
  go_upto_region 4 with (first | (refine wpList_st rfl _ (.tmp 4) _ rfl _ 0 rfl (pcs Pk.zero) _ rfl rfl (infP _ Pk.zero_ok) 49 _ HN3.out (by rw [pcs_len Pk.zero_ok]; omega) (pcs_one _) ?_; intro w4 hb4 hk4 hz4) | fail)
  have hk34 := ((Kept.refl Nil w3).alloc (.cells (pcs Pk.zero).toArray 49)).fresh hk4 (fun i hi => by cases hi; exact Nat.le_refl _)
  have HB4 := Lib.hid (HB3.out.kept hk34 (fun hf => hf))
  have HK4 := Lib.hid (HK3.out.then hk34)
  have HP4 := Lib.hid (HP3.out.kept hk34 (fun hf => hf))
  clear hb4 hk4 hz4 hk34 HB3 HK3 HN3 HP3
  go_upto_region 5 with (first | (refine wpList_st rfl _ _ _ rfl (w.heap.size + 1) 7 rfl [.int .u8 ((6 : UInt8).toNat : Int)] _ rfl rfl sz5 5 _ HB4.out (by rw [List.length_append, bys_len, e28_len, List.length_singleton]; omega) (by intro u hu; simp at hu; subst hu; rfl) ?_; intro w5 hb5 hk5 hz5) | fail)
  have HB5 := Lib.hid (blo_put (by rw [e28_len]; decide) hb5)
  have HY5 := Lib.hid (blo_byt HB5.out 28 C (by rw [List.length_set, e28_len]) (by omega) hcm')
  have HP5 := Lib.hid (HP4.out.kept hk5 (fun hf => by unfold One at hf; have := HGP.out; omega))
  have HK5 := Lib.hid (HK4.out.fresh hk5 (fun i hi => by cases hi; omega))
  clear hb5 hk5 hz5 HB4 HK4 HP4
  go_wp2_with (fail)
  refine (pget_yes _ 28 C (e28.set 7 6) _ HY5.out (by decide)).mono ?_
  rintro e w6 ⟨rfl, hk⟩
  rw [ex_form]
  have HK6 := Lib.hid (HK5.out.then hk)
  have HP6 := Lib.hid (HP5.out.kept hk (fun hf => hf))
  have HN6 := Lib.hid (PB.new w6 49 Pk.zero)
  clear hk HB5 HK5 HY5 HP5
  go_upto_region 6 with (first | (refine wpList_st rfl _ (.tmp 6) _ rfl _ 0 rfl (pcs Pk.zero) _ rfl rfl (infP _ Pk.zero_ok) 49 _ HN6.out (by rw [pcs_len Pk.zero_ok]; omega) (pcs_one _) ?_; intro w7 hb7 hk7 hz7) | fail)
  have hk67 := ((Kept.refl Nil w6).alloc (.cells (pcs Pk.zero).toArray 49)).fresh hk7 (fun i hi => by cases hi; exact Nat.le_refl _)
  have HK7 := Lib.hid (HK6.out.then hk67)
  have HP7 := Lib.hid (HP6.out.kept hk67 (fun hf => hf))
  have c0 := HP7.out.co
  clear hb7 hk7 hz7 hk67 HK6 HN6 HP6
  simp only [pk1] at c0
  go_wp2_with (first | (refine wpList_ld rfl _ _ rfl gp 0 rfl (pcs pk1) HP7.out.all _ Try.underlying49 rfl (infP _ pk1_ok) ?_) | fail)
  refine (probes_yes pk1 pk1_ok _).mono ?_
  rintro e w8 ⟨rfl, hk⟩
  rw [ex_pr]
  have HK8 := Lib.hid (HK7.out.then hk)
  clear hk c0
  go_wp2
  go_ret
  exact ⟨rfl, HK8.out⟩
end Go.Proofs.Ytddpdopccejmbaa
