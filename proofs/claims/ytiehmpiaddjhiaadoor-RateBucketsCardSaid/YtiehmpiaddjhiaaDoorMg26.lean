/- Texts that belong together, one behind the other: RaJ, RaU. Conditions: those of each. -/
import Derived.Test.YtiehmpiaddjhiaaDoorRaI
import Derived.Test.YtiehmpiaddjhiaaDoorMg19
/- FormatFloat and Text at the values that the examples meet. -/
namespace Go.Proofs.YtiehmpiaddjhiaaDoor
open Go.RowKit Go.Sort
set_option linter.unusedVariables false

set_option maxRecDepth 100000 in
set_option maxHeartbeats 8000000 in
theorem ftoa_z (B : Nat) (v0 : Value) (w : World) (ho : w.ownsRow B 5 1 v0 0 (bys [])) (hB : B ≤ w.heap.size) : Calls Tryd.prog 41 #[v0, .float .f64 0, .int .u8 102, .int .i64 (-1)] w fun e w' => ∃ v, e = .returned v ∧ w'.ownsRow B 5 1 v 1 (bys [48]) ∧ Kept (fun k => B ≤ k) w w' := by
  have cf : ∀ w, (callFunc 43 #[.float .f64 0]).run Tryd.prog w = .ok (.value (.int .u64 0)) w := fun w => by kernel_rfl
  have f1 : ∀ w, (Op.shift .shr .u64 0 .i64 63).run Tryd.prog w = .ok (.int .u64 0) w := fun w => by kernel_rfl
  have f2 : ∀ w, (Op.shift .shr .u64 0 .i64 52).run Tryd.prog w = .ok (.int .u64 0) w := fun w => by kernel_rfl
  have f3 : ∀ w, (Op.shift .shl .i64 1 .i64 11).run Tryd.prog w = .ok (.int .i64 2048) w := fun w => by kernel_rfl
  have f4 : bits .and .i64 0 2047 = 0 := by kernel_rfl
  have f5 : ∀ w, (Op.shift .shl .u64 1 .i64 52).run Tryd.prog w = .ok (.int .u64 4503599627370496) w := fun w => by kernel_rfl
  have f6 : bits .and .u64 0 4503599627370495 = 0 := by kernel_rfl
  have HO := Lib.hid ho
  have HB := Lib.hid hB
  clear ho hB
  go_enter Tryd.func41, Tryd.ntmps41
  go_upto_region 14 with (fail)
  refine wp_region_quiet_below (by kernel_rfl) (by kernel_rfl) ?_
  repeat (go_big_quiet_step (fail))
  refine wpQuiet_nil ?_
  rintro w1 ⟨nq, hw⟩
  have hk : Kept Nil w w1 := by rw [hw]; exact kept_grown _ _
  have HO := Lib.hid (own_kept HO.out hk (fun _ _ hf => hf))
  have HB := Lib.hid (Nat.le_trans HB.out hk.size)
  have HK := Lib.hid hk
  clear hk hw
  go_upto_region 31 with (fail)
  go_wp2_with (fail)
  refine (efg_z B v0 _ HO.out HB.out).mono ?_
  rintro e w6 ⟨v, rfl, hn, hk⟩
  have HN := Lib.hid hn
  have HK := Lib.hid (HK.out.nil.trans hk (fun _ _ hf => hf) : Kept (fun k => B ≤ k) w w6)
  clear hn hk
  dsimp only
  go_wp2_with (fail)
  go_ret
  exact ⟨_, rfl, HN.out, HK.out⟩
def z24 : Array Value := #[.int .u8 0, .int .u8 0, .int .u8 0, .int .u8 0, .int .u8 0, .int .u8 0, .int .u8 0, .int .u8 0, .int .u8 0, .int .u8 0, .int .u8 0, .int .u8 0, .int .u8 0, .int .u8 0, .int .u8 0, .int .u8 0, .int .u8 0, .int .u8 0, .int .u8 0, .int .u8 0, .int .u8 0, .int .u8 0, .int .u8 0, .int .u8 0]
theorem mk24 (w : World) : (Instr.makeSlice 68 (.int .i64 0) (.int .i64 24)).run Tryd.prog w = .ok (.slice (some ⟨w.heap.size, 0, none⟩) 0 24) (w.alloc (.cells z24 5)) := by kernel_rfl
set_option maxRecDepth 100000 in
set_option maxHeartbeats 8000000 in
theorem ff_a (w : World) (hg : GlF w) : Calls Tryd.prog 39 #[.float .f64 4591870180066957722, .int .u8 102, .int .i64 (-1), .int .i64 64] w fun e w' => e = .returned (.string ⟨#[48, 46, 49]⟩) ∧ Kept Nil w w' := by
  have HG := Lib.hid hg
  clear hg
  go_enter Tryd.func39, Tryd.ntmps39
  have m1 : max (3 : Int) 24 = 24 := by decide
  have mk := mk24
  go_wp2_with (fail)
  have hka := (Kept.refl Nil w).alloc (.cells z24 5)
  refine (ftoa_a w.heap.size _ _ (HG.out.kept hka) (World.ownsRow_made w z24 24 (Nat.le_refl _) (by decide) rfl) (by simp)).mono ?_
  rintro e w1 ⟨v, rfl, hn, hk⟩
  have HK := Lib.hid (hka.trans hk (fun i hi hf => absurd hf (by omega)))
  obtain ⟨A, c, rfl, hy, -⟩ := Byt.of_own hn
  have tx := hy.text (P := Tryd.prog) Tryd.underlying68 Tryd.underlying5 Tryd.underlying9
  have HT := Lib.hid hy
  clear hn hk hy hka
  dsimp only
  go_wp2_with (fail)
  go_ret
  exact ⟨rfl, HK.out⟩
theorem sf_a (w : World) (hg : GlF w) : Calls Tryd.prog 38 #[.float .f64 4591870180066957722, .int .u8 102, .int .i64 (-1), .int .i64 64] w fun e w' => e = .returned (.string ⟨#[48, 46, 49]⟩) ∧ Kept Nil w w' := by
  have HG := Lib.hid hg
  clear hg
  go_enter Tryd.func38, Tryd.ntmps38
  go_wp2_with (fail)
  refine (ff_a _ HG.out).mono ?_
  rintro e w1 ⟨rfl, hk⟩
  have HK := Lib.hid hk
  clear hk
  dsimp only
  go_wp2_with (fail)
  go_ret
  exact ⟨rfl, HK.out⟩
set_option maxRecDepth 100000 in
set_option maxHeartbeats 8000000 in
theorem ff_b (w : World) (hg : GlF w) : Calls Tryd.prog 39 #[.float .f64 4921056587992461136, .int .u8 102, .int .i64 (-1), .int .i64 64] w fun e w' => e = .returned (.string ⟨#[49, 48, 48, 48, 48, 48, 48, 48, 48, 48, 48, 48, 48, 48, 48, 48, 48, 48, 48, 48, 48, 48]⟩) ∧ Kept Nil w w' := by
  have HG := Lib.hid hg
  clear hg
  go_enter Tryd.func39, Tryd.ntmps39
  have m1 : max (3 : Int) 24 = 24 := by decide
  have mk := mk24
  go_wp2_with (fail)
  have hka := (Kept.refl Nil w).alloc (.cells z24 5)
  refine (ftoa_b w.heap.size _ _ (HG.out.kept hka) (World.ownsRow_made w z24 24 (Nat.le_refl _) (by decide) rfl) (by simp)).mono ?_
  rintro e w1 ⟨v, rfl, hn, hk⟩
  have HK := Lib.hid (hka.trans hk (fun i hi hf => absurd hf (by omega)))
  obtain ⟨A, c, rfl, hy, -⟩ := Byt.of_own hn
  have tx := hy.text (P := Tryd.prog) Tryd.underlying68 Tryd.underlying5 Tryd.underlying9
  have HT := Lib.hid hy
  clear hn hk hy hka
  dsimp only
  go_wp2_with (fail)
  go_ret
  exact ⟨rfl, HK.out⟩
theorem sf_b (w : World) (hg : GlF w) : Calls Tryd.prog 38 #[.float .f64 4921056587992461136, .int .u8 102, .int .i64 (-1), .int .i64 64] w fun e w' => e = .returned (.string ⟨#[49, 48, 48, 48, 48, 48, 48, 48, 48, 48, 48, 48, 48, 48, 48, 48, 48, 48, 48, 48, 48, 48]⟩) ∧ Kept Nil w w' := by
  have HG := Lib.hid hg
  clear hg
  go_enter Tryd.func38, Tryd.ntmps38
  go_wp2_with (fail)
  refine (ff_b _ HG.out).mono ?_
  rintro e w1 ⟨rfl, hk⟩
  have HK := Lib.hid hk
  clear hk
  dsimp only
  go_wp2_with (fail)
  go_ret
  exact ⟨rfl, HK.out⟩
set_option maxRecDepth 100000 in
set_option maxHeartbeats 8000000 in
theorem ff_z (w : World) (hg : GlF w) : Calls Tryd.prog 39 #[.float .f64 0, .int .u8 102, .int .i64 (-1), .int .i64 64] w fun e w' => e = .returned (.string ⟨#[48]⟩) ∧ Kept Nil w w' := by
  have HG := Lib.hid hg
  clear hg
  go_enter Tryd.func39, Tryd.ntmps39
  have m1 : max (3 : Int) 24 = 24 := by decide
  have mk := mk24
  go_wp2_with (fail)
  have hka := (Kept.refl Nil w).alloc (.cells z24 5)
  refine (ftoa_z w.heap.size _ _ (World.ownsRow_made w z24 24 (Nat.le_refl _) (by decide) rfl) (by simp)).mono ?_
  rintro e w1 ⟨v, rfl, hn, hk⟩
  have HK := Lib.hid (hka.trans hk (fun i hi hf => absurd hf (by omega)))
  obtain ⟨A, c, rfl, hy, -⟩ := Byt.of_own hn
  have tx := hy.text (P := Tryd.prog) Tryd.underlying68 Tryd.underlying5 Tryd.underlying9
  have HT := Lib.hid hy
  clear hn hk hy hka
  dsimp only
  go_wp2_with (fail)
  go_ret
  exact ⟨rfl, HK.out⟩
theorem sf_z (w : World) (hg : GlF w) : Calls Tryd.prog 38 #[.float .f64 0, .int .u8 102, .int .i64 (-1), .int .i64 64] w fun e w' => e = .returned (.string ⟨#[48]⟩) ∧ Kept Nil w w' := by
  have HG := Lib.hid hg
  clear hg
  go_enter Tryd.func38, Tryd.ntmps38
  go_wp2_with (fail)
  refine (ff_z _ HG.out).mono ?_
  rintro e w1 ⟨rfl, hk⟩
  have HK := Lib.hid hk
  clear hk
  dsimp only
  go_wp2_with (fail)
  go_ret
  exact ⟨rfl, HK.out⟩
end Go.Proofs.YtiehmpiaddjhiaaDoor
/- Package rate: Text of three; Copysign of 0 and -1. -/
namespace Go.Proofs.YtiehmpiaddjhiaaDoor
open Go.RowKit Go.Sort
set_option linter.unusedVariables false

theorem text_of (x y : Nat) (hx : x < 18446744073709551616) (hy : clF x = y) (hyI : y < INFB) (S : ByteArray) (w : World) (hsf : ∀ u, Kept Nil w u → Calls Tryd.prog 38 #[.float .f64 y, .int .u8 102, .int .i64 (-1), .int .i64 64] u fun e w' => e = .returned (.string S) ∧ Kept Nil u w') : Calls Tryd.prog 35 #[.float .f64 x] w fun e w' => e = .returned (.string S) ∧ Kept Nil w w' := by
  have HX := Lib.hid hx
  have HS := Lib.hid hsf
  have hd : decide (y = INFB) = false := decide_eq_false (Nat.ne_of_lt hyI)
  have HI := Lib.hid (isinf_yes y (Nat.le_of_lt hyI))
  rw [hd] at HI
  clear hx hyI hsf hd
  go_enter Tryd.func35, Tryd.ntmps35
  go_wp2_with (fail)
  refine (fclean_yes x HX.out _).mono ?_
  rintro e w1 ⟨rfl, hk⟩
  rw [hy]
  have HK := Lib.hid hk
  clear hk
  dsimp only
  go_wp2_with (fail)
  refine (HI.out _).mono ?_
  rintro e w2 ⟨rfl, hk⟩
  have HK := Lib.hid (HK.out.then hk)
  clear hk
  dsimp only
  go_wp2_with (fail)
  refine (HS.out _ HK.out).mono ?_
  rintro e w3 ⟨rfl, hk⟩
  have HK := Lib.hid (HK.out.then hk)
  clear hk
  dsimp only
  go_wp2_with (fail)
  go_ret
  exact ⟨rfl, HK.out⟩
theorem text_a (w : World) (hg : GlF w) : Calls Tryd.prog 35 #[.float .f64 4591870180066957722] w fun e w' => e = .returned (.string ⟨#[48, 46, 49]⟩) ∧ Kept Nil w w' :=
  text_of _ _ (by decide) (by decide +kernel) (by decide) _ w fun u hk => sf_a u (hg.kept hk)
theorem text_b (w : World) (hg : GlF w) : Calls Tryd.prog 35 #[.float .f64 4921056587992461136] w fun e w' => e = .returned (.string ⟨#[49, 48, 48, 48, 48, 48, 48, 48, 48, 48, 48, 48, 48, 48, 48, 48, 48, 48, 48, 48, 48, 48]⟩) ∧ Kept Nil w w' :=
  text_of _ _ (by decide) (by decide +kernel) (by decide) _ w fun u hk => sf_b u (hg.kept hk)
theorem text_z (w : World) (hg : GlF w) : Calls Tryd.prog 35 #[.float .f64 9221120237041090561] w fun e w' => e = .returned (.string ⟨#[48]⟩) ∧ Kept Nil w w' :=
  text_of _ _ (by decide) (by decide +kernel) (by decide) _ w fun u hk => sf_z u (hg.kept hk)
theorem cf_b0 (w : World) : (callFunc 27 #[.float .f64 0]).run Tryd.prog w = .ok (.value (.int .u64 0)) w := by kernel_rfl
theorem cf_b1 (w : World) : (callFunc 27 #[.float .f64 13830554455654793216]).run Tryd.prog w = .ok (.value (.int .u64 13830554455654793216)) w := by kernel_rfl
open Go.Op in
open Go.Value in
theorem cf_f8 (w : World) : (callFunc 7 #[.int .u64 (bits .or .u64 (bits .andNot .u64 0 9223372036854775808) (bits .and .u64 13830554455654793216 9223372036854775808))]).run Tryd.prog w = .ok (.value (.float .f64 9223372036854775808)) w := by kernel_rfl
set_option maxRecDepth 100000 in
theorem cs_yes (w : World) : Calls Tryd.prog 34 #[.float .f64 0, .float .f64 13830554455654793216] w fun e w' => e = .returned (.float .f64 9223372036854775808) ∧ Kept Nil w w' := by
  have h1 := cf_b0
  have h2 := cf_b1
  have h3 := cf_f8
  go_enter Tryd.func34, Tryd.ntmps34
  go_wp2_with (fail)
  go_ret
  exact ⟨rfl, Kept.refl _ _⟩
end Go.Proofs.YtiehmpiaddjhiaaDoor
