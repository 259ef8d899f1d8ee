/- tolllaw06.InetTexts: the walk. -/
import Derived.Test.YtflhbidmjlfjkaaDoorInZ
import Derived.Test.YtflhbidmjlfjkaaDoorRgF
import Derived.Test.YtflhbidmjlfjkaaDoorRgC
namespace Go.Proofs.YtflhbidmjlfjkaaDoor
open Go.RowKit Go.Sort
set_option linter.unusedVariables false

theorem pp_lt (s : List UInt8) : (pparseM s).1 < 4294967296 := (pparse_ok s).1
set_option maxRecDepth 100000 in
set_option maxHeartbeats 8000000 in
theorem texts_yes (a b : Nat) (ha : a < 4294967296) (hb : b < 4294967296) (bits : Int) (hbits : -9223372036854775808 ≤ bits ∧ bits ≤ 9223372036854775807) (s : ByteArray) (hs63 : s.size ≤ 9223372036854775807) (w : World) (hG : Gl w) :
    Calls Tryd.prog 5 #[.int .u32 (a : Int), .int .u32 (b : Int), .int .i64 bits, .string s] w fun e w' => e = .returned (.bool true) ∧ Below w.heap.size w w' := by
  have hs0 : (0 : Int) ≤ (s.size : Int) := by omega
  have hs1 : (s.size : Int) ≤ 9223372036854775807 := by omega
  obtain ⟨t, ht⟩ : ∃ t, s.extract 0 (min (s.size : Int) 30).toNat = t := ⟨_, rfl⟩
  have ht30 : t.size ≤ 30 := by rw [← ht, ByteArray.size_extract]; omega
  have C1 := Lib.hid (fun w h => iparse_yes t (by omega) w h)
  have C2 := Lib.hid (fun w => gparse_yes t (by omega) w)
  have C3 := Lib.hid (fun w h => ippar_yes t (by omega) w h)
  have C4 := Lib.hid (fun w => gpparse_yes t (by omega) w)
  have C5 := Lib.hid (fun w h => itext_yes a ha w h)
  have C6 := Lib.hid (fun w => gtext_yes a ha w)
  have C7 := Lib.hid (fun w h => iptext_yes a ha bits hbits w h)
  have C8 := Lib.hid (fun w => gptext_yes a ha bits hbits w)
  have C9 := Lib.hid (fun w => ihas_yes a b ha hb bits hbits w)
  have C10 := Lib.hid (fun w => ghas_yes a b ha hb bits hbits w)
  obtain ⟨p1, hp1⟩ : ∃ x, (parseM t.data.toList).1 = x := ⟨_, rfl⟩
  obtain ⟨p2, hp2⟩ : ∃ x, (parseM t.data.toList).2 = x := ⟨_, rfl⟩
  obtain ⟨q1, hq1⟩ : ∃ x, (pparseM t.data.toList).1 = x := ⟨_, rfl⟩
  obtain ⟨q2, hq2⟩ : ∃ x, (pparseM t.data.toList).2.1 = x := ⟨_, rfl⟩
  obtain ⟨q3, hq3⟩ : ∃ x, (pparseM t.data.toList).2.2 = x := ⟨_, rfl⟩
  obtain ⟨X, hX⟩ : ∃ x : ByteArray, ⟨(textM a).toArray⟩ = x := ⟨_, rfl⟩
  obtain ⟨Y, hY⟩ : ∃ x : ByteArray, ⟨(ptextM a bits).toArray⟩ = x := ⟨_, rfl⟩
  obtain ⟨Z, hZ⟩ : ∃ x, decide (maskM a (clipM bits) = maskM b (clipM bits)) = x := ⟨_, rfl⟩
  rw [hp1, hp2] at C1 C2
  rw [hq1, hq2, hq3] at C3 C4
  rw [hX] at C5 C6
  rw [hY] at C7 C8
  rw [hZ] at C9 C10
  clear hp1 hp2 hq1 hq2 hq3 hX hY hZ
  have HT := Lib.hid ht
  clear ht
  have HGG := Lib.hid hG
  go_enter Tryd.func5, Tryd.ntmps5
  go_upto_region 3 with (fail)
  rw [HT.out]
  refine wp_nameE (fun W => PF W w.heap.size a bits ∧ Kept Nil w W) ⟨Blo.new w 46 (pfc a bits).toArray, (Kept.refl Nil w).alloc _⟩ ?_
  rintro w1 ⟨hp1, hk1⟩
  have HP1 := Lib.hid hp1
  have HK1 := Lib.hid hk1
  clear hp1 hk1
  go_wp2_with (fail)
  refine (C1.out _ (HGG.out.kept HK1.out)).mono ?_
  rintro e w2 ⟨rfl, hk2⟩
  dsimp only
  have HP2 := Lib.hid (HP1.out.kept hk2 (fun hf => hf))
  have HK2 := Lib.hid (HK1.out.then hk2)
  clear hk2 HP1 HK1
  go_wp2_with (fail)
  refine (C2.out _).mono ?_
  rintro e w3 ⟨rfl, rfl⟩
  dsimp only
  go_wp2_with (fail)
  refine (C3.out _ (HGG.out.kept HK2.out)).mono ?_
  rintro e w4 ⟨rfl, hk4⟩
  dsimp only
  have HP4 := Lib.hid (HP2.out.kept hk4 (fun hf => hf))
  have HK4 := Lib.hid (HK2.out.then hk4)
  clear hk4 HP2 HK2
  go_upto_region 6 with (fail)
  refine wp_nameE (fun W => PF W w4.heap.size q1 (q2 : Int) ∧ Kept Nil w4 W) ⟨Blo.new w4 46 (pfc q1 (q2 : Int)).toArray, (Kept.refl Nil w4).alloc _⟩ ?_
  rintro w5 ⟨hq5, hk5⟩
  have HQ5 := Lib.hid hq5
  have HP5 := Lib.hid (HP4.out.kept hk5 (fun hf => hf))
  have HK5 := Lib.hid (HK4.out.then hk5)
  clear hq5 hk5 HP4 HK4
  go_wp2_with (fail)
  refine (C4.out _).mono ?_
  rintro e w6 ⟨rfl, rfl⟩
  dsimp only
  go_wp2_with (fail)
  refine (C5.out _ (HGG.out.kept HK5.out)).mono ?_
  rintro e w7 ⟨rfl, hk7⟩
  dsimp only
  have HQ7 := Lib.hid (HQ5.out.kept hk7 (fun hf => hf))
  have HP7 := Lib.hid (HP5.out.kept hk7 (fun hf => hf))
  have HK7 := Lib.hid (HK5.out.then hk7)
  clear hk7 HQ5 HP5 HK5
  go_wp2_with (fail)
  refine (C6.out _).mono ?_
  rintro e w8 ⟨rfl, hk8⟩
  dsimp only
  have HQ8 := Lib.hid (HQ7.out.kept hk8 (fun hf => hf))
  have HP8 := Lib.hid (HP7.out.kept hk8 (fun hf => hf))
  have HK8 := Lib.hid (HK7.out.then hk8)
  clear hk8 HQ7 HP7 HK7
  go_wp2_with (first
    | (refine wpList_ld rfl _ _ rfl w.heap.size 0 rfl (pfc a bits) HP8.out.all _ Tryd.underlying46 rfl (infPf _ _) ?_; simp only [Act.put, List.setIfInBounds_toArray, List.set_cons_succ, List.set_cons_zero])
    | fail)
  refine (C7.out _ (HGG.out.kept HK8.out)).mono ?_
  rintro e w9 ⟨rfl, hk9⟩
  dsimp only
  have HQ9 := Lib.hid (HQ8.out.kept hk9 (fun hf => hf))
  have HP9 := Lib.hid (HP8.out.kept hk9 (fun hf => hf))
  have HK9 := Lib.hid (HK8.out.then hk9)
  clear hk9 HQ8 HP8 HK8
  go_wp2_with (fail)
  refine (C8.out _).mono ?_
  rintro e u1 ⟨rfl, hk1⟩
  dsimp only
  have HQ10 := Lib.hid (HQ9.out.kept hk1 (fun hf => hf))
  have HP10 := Lib.hid (HP9.out.kept hk1 (fun hf => hf))
  have HK10 := Lib.hid (HK9.out.then hk1)
  clear hk1 HQ9 HP9 HK9
  go_wp2_with (first
    | (refine wpList_ld rfl _ _ rfl w.heap.size 0 rfl (pfc a bits) HP10.out.all _ Tryd.underlying46 rfl (infPf _ _) ?_; simp only [Act.put, List.setIfInBounds_toArray, List.set_cons_succ, List.set_cons_zero])
    | fail)
  refine (C9.out _).mono ?_
  rintro e u2 ⟨rfl, hk2⟩
  dsimp only
  have HQ11 := Lib.hid (HQ10.out.kept hk2 (fun hf => hf))
  have HK11 := Lib.hid (HK10.out.then hk2)
  clear hk2 HQ10 HP10 HK10
  go_wp2_with (fail)
  refine (C10.out _).mono ?_
  rintro e u3 ⟨rfl, rfl⟩
  dsimp only
  have y0 := HQ11.out.c0
  have y1 := HQ11.out.c1
  go_wp2_with (fail)
  refine (tells_yes _ (HGG.out.kept HK11.out)).mono ?_
  rintro e u4 ⟨rfl, hk4⟩
  dsimp only
  go_wp2
  go_ret
  exact ⟨rfl, (HK11.out.then hk4).below (Nat.le_refl _) (fun _ hf => hf.elim)⟩
theorem texts_go (a b bits : Int) (s : ByteArray) (w : World) (ha : (Lit.int .u32 a).wf = true) (hb : (Lit.int .u32 b).wf = true) (hbits : (Lit.int .i64 bits).wf = true) (hs : s.size ≤ 9223372036854775807) (hG : Gl w) :
    Calls Tryd.prog 5 #[.int .u32 a, .int .u32 b, .int .i64 bits, .string s] w fun e w' => e = .returned (.bool true) ∧ Below w.heap.size w w' := by
  have h1 : 0 ≤ a ∧ a ≤ 4294967295 := by simp [Lit.wf, IntKind.min, IntKind.max, IntKind.signed, IntKind.bits] at ha; omega
  have h2 : 0 ≤ b ∧ b ≤ 4294967295 := by simp [Lit.wf, IntKind.min, IntKind.max, IntKind.signed, IntKind.bits] at hb; omega
  have h3 : -9223372036854775808 ≤ bits ∧ bits ≤ 9223372036854775807 := by simp [Lit.wf, IntKind.min, IntKind.max, IntKind.signed, IntKind.bits] at hbits; omega
  obtain ⟨m, rfl⟩ := Int.eq_ofNat_of_zero_le h1.1
  obtain ⟨n, rfl⟩ := Int.eq_ofNat_of_zero_le h2.1
  exact texts_yes m n (by omega) (by omega) bits h3 s hs w hG
end Go.Proofs.YtflhbidmjlfjkaaDoor
