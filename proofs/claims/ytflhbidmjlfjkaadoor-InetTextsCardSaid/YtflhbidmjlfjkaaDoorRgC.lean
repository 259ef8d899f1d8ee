/- tollref06: contracts of Text, PrefixText. -/
import Derived.Test.YtflhbidmjlfjkaaDoorRgB
import Derived.Deep.DeepCutAuto
namespace Go.Proofs.YtflhbidmjlfjkaaDoor
open Go.RowKit Go.Sort
set_option linter.unusedVariables false

theorem dig_len (n : Nat) : (digM n).length ≤ 3 := by unfold digM; split; simp; split <;> simp
theorem bs_size (l : List UInt8) : (⟨l.toArray⟩ : ByteArray).size = l.length := rfl
set_option maxRecDepth 100000 in
set_option maxHeartbeats 2000000 in
theorem gtext_yes (ip : Nat) (hip : ip < 4294967296) (w : World) : Calls Tryd.prog 26 #[.int .u32 (ip : Int)] w fun e w' => e = .returned (.string ⟨(textM ip).toArray⟩) ∧ Kept Nil w w' := by
  have hw : IntKind.wrap .i64 (ip : Int) = (ip : Int) := by rw [IntKind.wrap_i64]; omega
  go_enter Tryd.func26, Tryd.ntmps26
  go_wp2_with (fail)
  refine (glay4 ip _ hip).mono ?_
  rintro e w1 ⟨v, rfl, hm⟩
  obtain ⟨A, c, rfl, hy, -⟩ := byt_own hm
  have hl : (beM 4 ip).length = 4 := beM_len _ _
  rw [hl] at hy ⊢
  have HK := Lib.hid hm.2
  have e4 : beM 4 ip = [UInt8.ofNat (ip / 16777216), UInt8.ofNat (ip / 65536), UInt8.ofNat (ip / 256), UInt8.ofNat ip] := by simp [beM, List.range_succ]
  rw [e4] at hy
  obtain ⟨b, o, rfl, -⟩ := hy.2.2.2 (by omega)
  have HY := Lib.hid hy
  have v0 : (UInt8.ofNat (ip / 16777216)).toNat = ip / 16777216 := by rw [UInt8.toNat_ofNat']; omega
  have v1 : (UInt8.ofNat (ip / 65536)).toNat = ip / 65536 % 256 := by rw [UInt8.toNat_ofNat']
  have v2 : (UInt8.ofNat (ip / 256)).toNat = ip / 256 % 256 := by rw [UInt8.toNat_ofNat']
  have v3 : (UInt8.ofNat ip).toNat = ip % 256 := by rw [UInt8.toNat_ofNat']
  have c0 := fun d os => byt_ge (HY.out.kept (kept_grown' w1 d os) (fun _ _ hf => hf)) 0 _ rfl
  have c1 := fun d os => byt_ge (HY.out.kept (kept_grown' w1 d os) (fun _ _ hf => hf)) 1 _ rfl
  have c2 := fun d os => byt_ge (HY.out.kept (kept_grown' w1 d os) (fun _ _ hf => hf)) 2 _ rfl
  have c3 := fun d os => byt_ge (HY.out.kept (kept_grown' w1 d os) (fun _ _ hf => hf)) 3 _ rfl
  simp only [Nat.add_zero] at c0
  rw [v0] at c0
  rw [v1] at c1
  rw [v2] at c2
  rw [v3] at c3
  have HT := Lib.hid (show textM ip = digM (ip / 16777216) ++ dot :: (digM (ip / 65536 % 256) ++ dot :: (digM (ip / 256 % 256) ++ dot :: digM (ip % 256))) from rfl)
  obtain ⟨n0, h0⟩ : ∃ n, ip / 16777216 = n := ⟨_, rfl⟩
  obtain ⟨n1, h1⟩ : ∃ n, ip / 65536 % 256 = n := ⟨_, rfl⟩
  obtain ⟨n2, h2⟩ : ∃ n, ip / 256 % 256 = n := ⟨_, rfl⟩
  obtain ⟨n3, h3⟩ : ∃ n, ip % 256 = n := ⟨_, rfl⟩
  rw [h0] at c0 HT
  rw [h1] at c1 HT
  rw [h2] at c2 HT
  rw [h3] at c3 HT
  have l0 : n0 < 256 := by omega
  have l1 : n1 < 256 := by omega
  have l2 : n2 < 256 := by omega
  have l3 : n3 < 256 := by omega
  have g0 : ∀ u, Calls Tryd.prog _ _ u _ := fun u => gdig_yes n0 (by omega) u
  have g1 : ∀ u, Calls Tryd.prog _ _ u _ := fun u => gdig_yes n1 (by omega) u
  have g2 : ∀ u, Calls Tryd.prog _ _ u _ := fun u => gdig_yes n2 (by omega) u
  have g3 : ∀ u, Calls Tryd.prog _ _ u _ := fun u => gdig_yes n3 (by omega) u
  obtain ⟨d0, e0⟩ : ∃ d, digM n0 = d := ⟨_, rfl⟩
  obtain ⟨d1, e1⟩ : ∃ d, digM n1 = d := ⟨_, rfl⟩
  obtain ⟨d2, e2⟩ : ∃ d, digM n2 = d := ⟨_, rfl⟩
  obtain ⟨d3, e3⟩ : ∃ d, digM n3 = d := ⟨_, rfl⟩
  have k0 := dig_len n0
  have k1 := dig_len n1
  have k2 := dig_len n2
  have k3 := dig_len n3
  rw [e0] at k0 g0 HT
  rw [e1] at k1 g1 HT
  rw [e2] at k2 g2 HT
  rw [e3] at k3 g3 HT
  have s0 : (⟨d0.toArray⟩ : ByteArray).size ≤ 3 := k0
  have s1 : (⟨d1.toArray⟩ : ByteArray).size ≤ 3 := k1
  have s2 : (⟨d2.toArray⟩ : ByteArray).size ≤ 3 := k2
  have s3 : (⟨d3.toArray⟩ : ByteArray).size ≤ 3 := k3
  have sd : (⟨#[46]⟩ : ByteArray).size = 1 := rfl
  have q0 : ((⟨d0.toArray⟩ : ByteArray) ++ (⟨#[46]⟩ : ByteArray)).size ≤ 4 := by rw [ByteArray.size_append]; omega
  have q1 : (((⟨d0.toArray⟩ : ByteArray) ++ (⟨#[46]⟩ : ByteArray)) ++ ⟨d1.toArray⟩).size ≤ 7 := by rw [ByteArray.size_append]; omega
  have q2 : ((((⟨d0.toArray⟩ : ByteArray) ++ (⟨#[46]⟩ : ByteArray)) ++ ⟨d1.toArray⟩) ++ (⟨#[46]⟩ : ByteArray)).size ≤ 8 := by rw [ByteArray.size_append]; omega
  have q3 : (((((⟨d0.toArray⟩ : ByteArray) ++ (⟨#[46]⟩ : ByteArray)) ++ ⟨d1.toArray⟩) ++ (⟨#[46]⟩ : ByteArray)) ++ ⟨d2.toArray⟩).size ≤ 11 := by rw [ByteArray.size_append]; omega
  have q4 : ((((((⟨d0.toArray⟩ : ByteArray) ++ (⟨#[46]⟩ : ByteArray)) ++ ⟨d1.toArray⟩) ++ (⟨#[46]⟩ : ByteArray)) ++ ⟨d2.toArray⟩) ++ (⟨#[46]⟩ : ByteArray)).size ≤ 12 := by rw [ByteArray.size_append]; omega
  have HF := Lib.hid (show ((((((⟨d0.toArray⟩ : ByteArray) ++ ⟨#[46]⟩) ++ ⟨d1.toArray⟩) ++ ⟨#[46]⟩) ++ ⟨d2.toArray⟩) ++ ⟨#[46]⟩) ++ ⟨d3.toArray⟩ = (⟨(textM ip).toArray⟩ : ByteArray) by
    rw [HT.out]
    have hd : (⟨#[46]⟩ : ByteArray) = ⟨[dot].toArray⟩ := rfl
    rw [hd, str_app, str_app, str_app, str_app, str_app, str_app]
    simp)
  have n4 : (0 : Nat) < 4 := by omega
  clear hy hm e4 v0 v1 v2 v3 h0 h1 h2 h3 e0 e1 e2 e3 k0 k1 k2 k3 HT HY
  go_wp2_with (fail)
  refine wp_region_quiet_below (by kernel_rfl) (by kernel_rfl) ?_
  repeat (go_big_quiet_step (first | with_reducible exact quietK (g0 _) | with_reducible exact quietK (g1 _) | with_reducible exact quietK (g2 _) | with_reducible exact quietK (g3 _)))
  refine wpQuiet_nil ?_
  rintro w2 ⟨nq, hw2⟩
  have HK2 := Lib.hid (HK.out.then (show Kept Nil w1 w2 by rw [hw2]; exact kept_grown _ _))
  clear hw2
  go_wp2
  go_ret
  exact ⟨by rw [← HF.out]; rfl, HK2.out⟩
theorem text_len (ip : Nat) : (textM ip).length ≤ 15 := by
  unfold textM
  have h1 := dig_len (ip / 16777216)
  have h2 := dig_len (ip / 65536 % 256)
  have h3 := dig_len (ip / 256 % 256)
  have h4 := dig_len (ip % 256)
  simp only [List.length_append, List.length_cons]
  omega
set_option maxHeartbeats 2000000 in
theorem gptext_yes (ip : Nat) (hip : ip < 4294967296) (bits : Int) (hb : -9223372036854775808 ≤ bits ∧ bits ≤ 9223372036854775807) (w : World) : Calls Tryd.prog 28 #[.int .u32 (ip : Int), .int .i64 bits] w fun e w' => e = .returned (.string ⟨(ptextM ip bits).toArray⟩) ∧ Kept Nil w w' := by
  by_cases h0 : bits < 0
  · obtain ⟨K, hK, hK0⟩ : ∃ K, clipM bits = K ∧ K = 0 := ⟨_, rfl, by unfold clipM; rw [if_pos h0]⟩
    subst hK0
    clear hb
    go_enter Tryd.func28, Tryd.ntmps28
    go_upto_region 5 with (fail)
    have cm : ∀ u, Calls Tryd.prog _ _ u _ := fun u => gmask_yes ip hip 0 (by omega) u
    rw [show clipM 0 = 0 from rfl] at cm
    have hml : maskM ip 0 < 4294967296 := Nat.lt_of_le_of_lt (mask_le _ _) hip
    have ct : ∀ u, Calls Tryd.prog _ _ u _ := fun u => gtext_yes (maskM ip 0) hml u
    have cd : ∀ u, Calls Tryd.prog 58 #[.int .i64 0] u _ := fun u => gdig_yes 0 (by omega) u
    have HP := Lib.hid (show ptextM ip bits = textM (maskM ip 0) ++ slash :: digM 0 by unfold ptextM; rw [hK, if_neg (by omega)])
    generalize maskM ip 0 = M at *
    have htl := text_len M
    have hdl := dig_len 0
    generalize textM M = T at *
    generalize digM 0 = D at *
    have sT : (⟨T.toArray⟩ : ByteArray).size ≤ 15 := htl
    have sD : (⟨D.toArray⟩ : ByteArray).size ≤ 3 := hdl
    have sd : (⟨#[47]⟩ : ByteArray).size = 1 := rfl
    have q0 : ((⟨T.toArray⟩ : ByteArray) ++ (⟨#[47]⟩ : ByteArray)).size ≤ 16 := by rw [ByteArray.size_append]; omega
    have HF := Lib.hid (show ((⟨T.toArray⟩ : ByteArray) ++ ⟨#[47]⟩) ++ ⟨D.toArray⟩ = (⟨(ptextM ip bits).toArray⟩ : ByteArray) by
      rw [HP.out]
      have hd : (⟨#[47]⟩ : ByteArray) = ⟨[slash].toArray⟩ := rfl
      rw [hd, str_app, str_app]
      simp)
    have CM := Lib.hid cm
    have CT := Lib.hid ct
    have CD := Lib.hid cd
    clear cm ct cd hml htl hdl HP
    go_wp2_with (fail)
    refine (CM.out _).mono ?_
    rintro e w1 ⟨rfl, rfl⟩
    go_wp2_with (fail)
    refine (CT.out _).mono ?_
    rintro e w2 ⟨rfl, hk⟩
    have HK2 := Lib.hid hk
    clear hk
    go_wp2_with (fail)
    refine (CD.out _).mono ?_
    rintro e w3 ⟨rfl, hk⟩
    have HK3 := Lib.hid (HK2.out.then hk)
    clear hk
    go_wp2
    go_ret
    exact ⟨by rw [← HF.out]; rfl, HK3.out⟩
  · by_cases h32 : (32 : Int) ≤ bits
    · have HP := Lib.hid (show ptextM ip bits = textM ip by unfold ptextM; rw [if_pos]; unfold clipM; rw [if_neg h0]; split; rfl; omega)
      go_enter Tryd.func28, Tryd.ntmps28
      go_wp2_with (fail)
      refine (gtext_yes ip hip _).mono ?_
      rintro e w1 ⟨rfl, hk⟩
      have HK := Lib.hid hk
      clear hk
      go_wp2
      go_ret
      exact ⟨by rw [HP.out]; first | done | rfl, HK.out⟩
    · obtain ⟨K, hK, hKb⟩ : ∃ K, clipM bits = K ∧ bits = (K : Int) := ⟨_, rfl, by unfold clipM; rw [if_neg h0, if_neg (by omega)]; omega⟩
      have hK32 : K < 32 := by omega
      subst hKb
      clear hb
      go_enter Tryd.func28, Tryd.ntmps28
      go_upto_region 5 with (fail)
      have cm : ∀ u, Calls Tryd.prog _ _ u _ := fun u => gmask_yes ip hip (K : Int) (by omega) u
      rw [clip_nat K (by omega)] at cm
      have hml : maskM ip K < 4294967296 := Nat.lt_of_le_of_lt (mask_le _ _) hip
      have ct : ∀ u, Calls Tryd.prog _ _ u _ := fun u => gtext_yes (maskM ip K) hml u
      have cd : ∀ u, Calls Tryd.prog _ _ u _ := fun u => gdig_yes K (by omega) u
      have HP := Lib.hid (show ptextM ip (K : Int) = textM (maskM ip K) ++ slash :: digM K by unfold ptextM; rw [hK, if_neg (by omega)])
      generalize maskM ip K = M at *
      have htl := text_len M
      have hdl := dig_len K
      generalize textM M = T at *
      generalize digM K = D at *
      have sT : (⟨T.toArray⟩ : ByteArray).size ≤ 15 := htl
      have sD : (⟨D.toArray⟩ : ByteArray).size ≤ 3 := hdl
      have sd : (⟨#[47]⟩ : ByteArray).size = 1 := rfl
      have q0 : ((⟨T.toArray⟩ : ByteArray) ++ (⟨#[47]⟩ : ByteArray)).size ≤ 16 := by rw [ByteArray.size_append]; omega
      have HF := Lib.hid (show ((⟨T.toArray⟩ : ByteArray) ++ ⟨#[47]⟩) ++ ⟨D.toArray⟩ = (⟨(ptextM ip (K : Int)).toArray⟩ : ByteArray) by
        rw [HP.out]
        have hd : (⟨#[47]⟩ : ByteArray) = ⟨[slash].toArray⟩ := rfl
        rw [hd, str_app, str_app]
        simp)
      have CM := Lib.hid cm
      have CT := Lib.hid ct
      have CD := Lib.hid cd
      clear cm ct cd hml htl hdl HP
      go_wp2_with (fail)
      refine (CM.out _).mono ?_
      rintro e w1 ⟨rfl, rfl⟩
      go_wp2_with (fail)
      refine (CT.out _).mono ?_
      rintro e w2 ⟨rfl, hk⟩
      have HK2 := Lib.hid hk
      clear hk
      go_wp2_with (fail)
      refine (CD.out _).mono ?_
      rintro e w3 ⟨rfl, hk⟩
      have HK3 := Lib.hid (HK2.out.then hk)
      clear hk
      go_wp2
      go_ret
      exact ⟨by rw [← HF.out]; rfl, HK3.out⟩
end Go.Proofs.YtflhbidmjlfjkaaDoor
