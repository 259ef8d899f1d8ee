/- Texts that belong together, one behind the other: Qb, RaB. Conditions: those of each. -/
import Derived.Test.YtiehmpiaddjhiaaDoorMg0
import Derived.Lib.QuietBelow
import Derived.BigQuiet
import Derived.Test.YtiehmpiaddjhiaaDoorMg1
import Derived.Test.YtiehmpiaddjhiaaDoorMg2
/- A region that draws its order, whose operations only read and whose callees make memory alone: walked once, in the order of the text (the library's QuietBelow), with the words of Mem. Nothing of the program is named here. -/
namespace Go.Proofs.YtiehmpiaddjhiaaDoor
open Go.RowKit Go.Sort
set_option linter.unusedVariables false

theorem kept_grown (w : World) (p : Regrown) : Kept Nil w (grow (redrawn w p.d) p.os) := Kept.of_below (below_regrown w p.d p.os)
theorem kept_grown' (w : World) (d : Nat) (os : Array Obj) : Kept Nil w (grow (redrawn w d) os) := Kept.of_below (below_regrown w d os)
/-- A callee's contract that ends in 'Kept Nil', met in a world of the class. -/
theorem quietK {P : Program} {f : FuncId} {args : Array Value} {w : World} {d : Nat} {os : Array Obj} {v : Value}
    (h : Calls P f args (grow (redrawn w d) os) fun e w' => e = .returned v ∧ Kept Nil (grow (redrawn w d) os) w') : Calls P f args (grow (redrawn w d) os) fun e w'' => e = .returned v ∧ ∃ p : Regrown, w'' = grow (redrawn w p.d) p.os :=
  Calls.regrown_of (h.mono fun _ _ ⟨he, hk⟩ => ⟨he, hk.os, hk.tape, hk.output, hk.size, fun k hk' => hk.block k hk' (fun hf => hf)⟩)
/-- .. of a callee that leaves the world alone. -/
theorem quietS {P : Program} {f : FuncId} {args : Array Value} {w : World} {d : Nat} {os : Array Obj} {v : Value}
    (h : Calls P f args (grow (redrawn w d) os) fun e w' => e = .returned v ∧ grow (redrawn w d) os = w') : Calls P f args (grow (redrawn w d) os) fun e w'' => e = .returned v ∧ ∃ p : Regrown, w'' = grow (redrawn w p.d) p.os :=
  h.mono fun _ _ ⟨he, hk⟩ => ⟨he, ⟨d, os⟩, hk.symm⟩
/-- What a block holds, in every world of the class. -/
theorem Blo.grown {w : World} {g : Nat} {t : TypeId} {cs : Array Value} (h : Blo w g t cs) (d : Nat) (os : Array Obj) : Blo (grow (redrawn w d) os) g t cs := h.kept (kept_grown' w d os) (fun hf => hf)
theorem Blo.gcell {w : World} {g : Nat} {t : TypeId} {cs : Array Value} (h : Blo w g t cs) (i : Nat) (d : Nat) (os : Array Obj) : (grow (redrawn w d) os).cell? ⟨g, i, none⟩ = cs[i]? := (h.grown d os).cell i
theorem Blo.at_new {w : World} {g : Nat} {t : TypeId} {cs : Array Value} (h : g = w.heap.size) : Blo (w.alloc (.cells cs t)) g t cs := by rw [h]; exact Blo.new w t cs
theorem Blo.drew {w : World} {g : Nat} {t : TypeId} {cs : Array Value} (h : Blo w g t cs) : Blo w.drew g t cs := h
/-- A cell of an old block, where only newer blocks have been written. -/
theorem kpc {W w' : World} {g i : Nat} {v : Value} (hc : W.cell? ⟨g, i, none⟩ = some v) (hk : Kept (fun i => W.heap.size ≤ i) W w') (hl : g < W.heap.size) : w'.cell? ⟨g, i, none⟩ = some v := hk.cell hc (by simp; omega)
end Go.Proofs.YtiehmpiaddjhiaaDoor
/- Floats: bits, IsNaN, NaN, Inf, Abs, IsInf, Signbit, Copysign; package rate: Less, Same, Clean; tolllaw11.alike. -/
namespace Go.Proofs.YtiehmpiaddjhiaaDoor
open Go.RowKit Go.Sort
set_option linter.unusedVariables false

theorem cf_from (x : Nat) (w : World) : (callFunc 7 #[.int .u64 (x : Int)]).run Tryd.prog w = .ok (.value (.float .f64 x)) w := by kernel_rfl
theorem cf_bits (x : Nat) (w : World) : (callFunc 27 #[.float .f64 x]).run Tryd.prog w = .ok (.value (.int .u64 (x : Int))) w := by kernel_rfl
theorem cf_nan (w : World) : (callFunc 7 #[.int .u64 9221120237041090561]).run Tryd.prog w = .ok (.value (.float .f64 9221120237041090561)) w := by kernel_rfl
theorem cf_inf (w : World) : (callFunc 7 #[.int .u64 9218868437227405312]).run Tryd.prog w = .ok (.value (.float .f64 9218868437227405312)) w := by kernel_rfl
theorem cf_ninf (w : World) : (callFunc 7 #[.int .u64 18442240474082181120]).run Tryd.prog w = .ok (.value (.float .f64 18442240474082181120)) w := by kernel_rfl
theorem f64_fmt (x y : Nat) : FloatKind.f64.format.order x y = Ieee.double.order x y := rfl
theorem isnan_yes (x : Nat) (hx : x < 18446744073709551616) (w : World) : Calls Tryd.prog 37 #[.float .f64 x] w fun e w' => e = .returned (.bool (nanF x)) ∧ Kept Nil w w' := by
  have h1 : (FloatKind.f64.format.order x x != some .eq) = nanF x := nan_self hx
  go_enter Tryd.func37, Tryd.ntmps37
  go_wp2_with (fail)
  go_ret
  exact ⟨by first | rfl | rw [h1], Kept.refl _ _⟩
theorem fless_yes (x y : Nat) (hx : x < 18446744073709551616) (hy : y < 18446744073709551616) (w : World) : Calls Tryd.prog 31 #[.float .f64 x, .float .f64 y] w fun e w' => e = .returned (.bool (decide (KF x < KF y))) ∧ Kept Nil w w' := by
  have h1 : (FloatKind.f64.format.order x y == some .lt) = ltF x y := lt_is hx hy
  have HR := Lib.hid (less_is hx hy)
  have HX := Lib.hid hx
  have HY := Lib.hid hy
  go_enter Tryd.func31, Tryd.ntmps31
  cases hl : ltF x y
  · rw [hl] at h1 HR
    go_wp2_with (fail)
    refine (isnan_yes x HX.out _).mono ?_
    rintro e w1 ⟨rfl, hk⟩
    have HK := Lib.hid hk
    cases hn : nanF x
    · rw [hn] at HR
      clear hk
      go_wp2_with (fail)
      refine (isnan_yes y HY.out _).mono ?_
      rintro e w2 ⟨rfl, hk⟩
      have HK := Lib.hid (HK.out.then hk)
      clear hk
      go_wp2_with (fail)
      go_ret
      exact ⟨by rw [← HR.out]; simp, HK.out⟩
    · rw [hn] at HR
      clear hk
      go_wp2_with (fail)
      go_ret
      exact ⟨by rw [← HR.out]; simp, HK.out⟩
  · rw [hl] at h1 HR
    go_wp2_with (fail)
    go_ret
    exact ⟨by rw [← HR.out]; simp, Kept.refl _ _⟩
theorem fsame_yes (x y : Nat) (hx : x < 18446744073709551616) (hy : y < 18446744073709551616) (w : World) : Calls Tryd.prog 33 #[.float .f64 x, .float .f64 y] w fun e w' => e = .returned (.bool (decide (KF x = KF y))) ∧ Kept Nil w w' := by
  have h1 : (FloatKind.f64.format.order x y == some .eq) = eqF x y := eq_is hx hy
  have HR := Lib.hid (alike_is hx hy)
  have HX := Lib.hid hx
  have HY := Lib.hid hy
  go_enter Tryd.func33, Tryd.ntmps33
  cases hl : eqF x y
  · rw [hl] at h1 HR
    go_wp2_with (fail)
    refine (isnan_yes x HX.out _).mono ?_
    rintro e w1 ⟨rfl, hk⟩
    have HK := Lib.hid hk
    cases hn : nanF x
    · rw [hn] at HR
      clear hk
      go_wp2_with (fail)
      go_ret
      exact ⟨by rw [← HR.out]; simp, HK.out⟩
    · rw [hn] at HR
      clear hk
      go_wp2_with (fail)
      refine (isnan_yes y HY.out _).mono ?_
      rintro e w2 ⟨rfl, hk⟩
      have HK := Lib.hid (HK.out.then hk)
      clear hk
      go_wp2_with (fail)
      go_ret
      exact ⟨by rw [← HR.out]; simp, HK.out⟩
  · rw [hl] at h1 HR
    go_wp2_with (fail)
    go_ret
    exact ⟨by rw [← HR.out]; simp, Kept.refl _ _⟩
theorem fclean_yes (x : Nat) (hx : x < 18446744073709551616) (w : World) : Calls Tryd.prog 18 #[.float .f64 x] w fun e w' => e = .returned (.float .f64 (clF x)) ∧ Kept Nil w w' := by
  have h1 : (FloatKind.f64.format.order x 0 == some .gt) = ltF 0 x := gt_is hx (by decide)
  have HC := Lib.hid (show clF x = if ltF 0 x then x else 0 from rfl)
  go_enter Tryd.func18, Tryd.ntmps18
  cases hl : ltF 0 x
  · rw [hl] at h1 HC
    go_wp2_with (fail)
    go_ret
    exact ⟨by rw [HC.out]; rfl, Kept.refl _ _⟩
  · rw [hl] at h1 HC
    go_wp2_with (fail)
    go_ret
    exact ⟨by rw [HC.out]; rfl, Kept.refl _ _⟩
theorem fnan_yes (w : World) : Calls Tryd.prog 32 #[] w fun e w' => e = .returned (.float .f64 9221120237041090561) ∧ Kept Nil w w' := by
  have h1 := cf_nan
  go_enter Tryd.func32, Tryd.ntmps32
  go_wp2_with (fail)
  go_ret
  exact ⟨rfl, Kept.refl _ _⟩
theorem fsign_yes (x : Nat) (hx : x < 18446744073709551616) (w : World) : Calls Tryd.prog 19 #[.float .f64 x] w fun e w' => e = .returned (.bool (decide (9223372036854775808 ≤ x))) ∧ Kept Nil w w' := by
  have h1 := cf_bits x
  go_enter Tryd.func19, Tryd.ntmps19
  by_cases h : x < 9223372036854775808
  · have h2 : IntKind.i64.wrap (x : Int) = (x : Int) := IntWalk.i64_in _ (by omega)
    go_wp2_with (fail)
    go_ret
    exact ⟨by simp; omega, Kept.refl _ _⟩
  · have h2 : IntKind.i64.wrap (x : Int) = (x : Int) - 18446744073709551616 := by unfold IntKind.wrap; simp [IntKind.signed, IntKind.bits]; omega
    go_wp2_with (fail)
    go_ret
    exact ⟨by simp; omega, Kept.refl _ _⟩
theorem falike_yes (x y : Nat) (hx : x < 18446744073709551616) (hy : y < 18446744073709551616) (w : World) : Calls Tryd.prog 12 #[.float .f64 x, .float .f64 y] w fun e w' => e = .returned (.bool (decide (x = y) || (nanF x && nanF y))) ∧ Kept Nil w w' := by
  have h1 : (FloatKind.f64.format.order x x != some .eq) = nanF x := nan_self hx
  have h2 : (FloatKind.f64.format.order y y != some .eq) = nanF y := nan_self hy
  have h3 := cf_bits x
  have h4 := cf_bits y
  have h5 : ((x : Int) == (y : Int)) = decide (x = y) := by by_cases h : x = y <;> simp [h]; omega
  clear hx hy
  go_enter Tryd.func12, Tryd.ntmps12
  cases hd : decide (x = y)
  · rw [hd] at h5
    cases hn : nanF x
    · rw [hn] at h1
      go_wp2_with (fail)
      go_ret
      exact ⟨rfl, Kept.refl _ _⟩
    · rw [hn] at h1
      go_wp2_with (fail)
      go_ret
      exact ⟨by simp, Kept.refl _ _⟩
  · rw [hd] at h5
    go_wp2_with (fail)
    go_ret
    exact ⟨by simp, Kept.refl _ _⟩
end Go.Proofs.YtiehmpiaddjhiaaDoor
