/- Texts that belong together, one behind the other: RaR, RaS. Conditions: those of each. -/
import Derived.Test.YtiehmpiaddjhiaaDoorMg15
import Derived.Test.YtiehmpiaddjhiaaDoorMg6
/- Package rate: Wait, its closure, least. -/
namespace Go.Proofs.YtiehmpiaddjhiaaDoor
open Go.RowKit Go.Sort
set_option linter.unusedVariables false

def isSo (c : Bk) (n : Nat) (t : Nat) : Bool := decide (n ≤ afM c t)
def lsM (p : Nat → Bool) : Nat → Nat → Nat → Nat
  | 0, lo, _ => lo
  | f + 1, lo, hi => if lo < hi then (if p (lo + (hi - lo) / 2) then lsM p f lo (lo + (hi - lo) / 2) else lsM p f (lo + (hi - lo) / 2 + 1) hi) else lo
set_option maxRecDepth 100000 in
theorem clo_yes (g6 g3 : Nat) (c : Bk) (hc : c.cl) (n : Nat) (hn : n ≤ INFB) (t : Nat) (ht : t ≤ 1099511627777) (w : World) (h6 : KB w g6 c) (h3 : w.cell? ⟨g3, 0, none⟩ = some (.float .f64 n)) : Calls Tryd.prog 29 #[.int .i64 (t : Int), .pointer (some ⟨g6, 0, none⟩), .pointer (some ⟨g3, 0, none⟩)] w fun e w' => e = .returned (.bool (isSo c n t)) ∧ Kept Nil w w' := by
  have HC := Lib.hid hc
  have H6 := Lib.hid h6
  have H3 := Lib.hid h3
  have hcv : ∀ u, (convert 2 22 (.int .i64 (t : Int))).run Tryd.prog u = .ok (.int .u64 (t : Int)) u := fun u => by
    have e : IntKind.u64.wrap (t : Int) = (t : Int) := IntWalk.u64_in _ (by omega)
    simp [convert, run_underlying Tryd.underlying2, run_underlying Tryd.underlying22, Conv.intToInt, e]
  have hIB : INFB < 18446744073709551616 := by decide
  have ha := Nat.le_trans (afM_le hc t) hc.b
  have hg : (FloatKind.f64.format.order (afM c t) n == some .gt) = decide (n < afM c t) := (gt_is (Nat.lt_of_le_of_lt ha hIB) (Nat.lt_of_le_of_lt hn hIB)).trans (lt_clean hn ha)
  have he : (FloatKind.f64.format.order (afM c t) n == some .eq) = decide (afM c t = n) := (eq_is (Nat.lt_of_le_of_lt ha hIB) (Nat.lt_of_le_of_lt hn hIB)).trans (eq_clean ha hn)
  have HAF := Lib.hid (fun u => after_yes c hc t (by omega) u)
  have HSO := Lib.hid (show (decide (n < afM c t) || decide (afM c t = n)) = isSo c n t by
    unfold isSo
    by_cases h1 : n < afM c t
    · rw [decide_eq_true h1, decide_eq_true (Nat.le_of_lt h1)]; rfl
    · by_cases h2 : afM c t = n
      · rw [decide_eq_true h2, decide_eq_true (Nat.le_of_eq h2.symm), Bool.or_true]
      · rw [decide_eq_false h1, decide_eq_false h2, decide_eq_false (show ¬ n ≤ afM c t from fun hh => (Nat.lt_or_eq_of_le hh).elim h1 (fun e => h2 e.symm))]; rfl)
  generalize afM c t = AF at *
  clear hc h6 h3 hn ha hIB
  go_enter Tryd.func29, Tryd.ntmps29
  go_upto_region 1 with (fail)
  have h3g := fun d os => (kept_grown' w d os).cell H3.out (fun hf => hf)
  refine wp_region_quiet_below (by kernel_rfl) (by kernel_rfl) ?_
  refine wpQuiet_ld rfl _ _ rfl g6 0 rfl (bkl c) (fun w1 hw => row_grown H6.out.all hw) _ Tryd.underlying26 rfl (infBk _) ?_; simp only [Act.put, List.setIfInBounds_toArray, List.set_cons_succ, List.set_cons_zero]
  go_big_quiet_step (fail)
  go_big_quiet_step (fail)
  go_big_quiet_step (exact quietK (HAF.out _))
  repeat (go_big_quiet_step (fail))
  refine wpQuiet_nil ?_
  rintro u ⟨nq, hw⟩
  have hk : Kept Nil w u := by rw [hw]; exact kept_grown _ _
  clear hw h3g
  go_wp2_with (fail)
  go_ret
  exact ⟨by first | (rw [← HSO.out]; rfl) | (rw [← HSO.out, hg, he]; rfl), hk⟩
end Go.Proofs.YtiehmpiaddjhiaaDoor
/- Package rate: least. -/
namespace Go.Proofs.YtiehmpiaddjhiaaDoor
open Go.RowKit Go.Sort
set_option linter.unusedVariables false

theorem lsM_end (p : Nat → Bool) (f lo hi : Nat) (h : ¬ lo < hi) : lsM p f lo hi = lo := by
  cases f with
  | zero => rfl
  | succ f => unfold lsM; rw [if_neg h]
set_option maxRecDepth 100000 in
set_option maxHeartbeats 4000000 in
theorem least_yes (g6 g3 : Nat) (c : Bk) (hc : c.cl) (n : Nat) (hn : n ≤ INFB) (w : World) (h6 : KB w g6 c) (h3 : w.cell? ⟨g3, 0, none⟩ = some (.float .f64 n)) : Calls Tryd.prog 28 #[.int .i64 1099511627777, .func (.func 29) #[] #[.pointer (some ⟨g6, 0, none⟩), .pointer (some ⟨g3, 0, none⟩)]] w fun e w' => e = .returned (.int .i64 (lsM (isSo c n) 41 0 1099511627777 : Nat)) ∧ Kept Nil w w' := by
  have HC := Lib.hid hc
  have HNN := Lib.hid hn
  have H6 := Lib.hid h6
  have H3 := Lib.hid h3
  have HK0 := Lib.hid (Kept.refl Nil w)
  have HCL := Lib.hid (fun (t : Nat) (ht : t ≤ 1099511627777) (u : World) (hk : Kept Nil w u) => clo_yes g6 g3 c hc n hn t ht u (h6.kept hk (fun hf => hf)) (hk.cell h3 (fun hf => hf)))
  obtain ⟨p, hp⟩ : ∃ p, isSo c n = p := ⟨_, rfl⟩
  obtain ⟨R, hR⟩ : ∃ R, lsM p 41 0 1099511627777 = R := ⟨_, rfl⟩
  rw [hp] at HCL ⊢
  rw [hR]
  have HR := Lib.hid hR
  clear hc hn h6 h3 hp hR
  go_enter Tryd.func28, Tryd.ntmps28
  go_wp2_with (fail)
  go_loopw [0, 5] (fun e l wr => ∃ f hi lo : Nat, e = .int .i64 (hi : Int) ∧ l = .int .i64 (lo : Int) ∧ lo ≤ hi ∧ hi ≤ 1099511627777 ∧ hi - lo < 2 ^ f ∧ Hid (lsM p f lo hi = R) ∧ Hid (Kept Nil w wr)) (fun e l _ => (intOf e).toNat - (intOf l).toNat)
  case atStart => exact ⟨41, 1099511627777, 0, rfl, rfl, by omega, by omega, by decide, HR, HK0⟩
  case round =>
    obtain ⟨f, hi, lo, rfl, rfl, hle, hE, hf, HL, HK⟩ := hrel
    by_cases hlt : lo < hi
    · cases f with
      | zero => exact absurd hf (by omega)
      | succ f =>
        obtain ⟨d, hd⟩ : ∃ d, (hi - lo) / 2 = d := ⟨_, rfl⟩
        have hdd : lo + d < hi := by omega
        have hd1 : d < 2 ^ f := by rw [Nat.pow_succ] at hf; omega
        have hd2 : hi - (lo + d + 1) < 2 ^ f := by rw [Nat.pow_succ] at hf; omega
        have hq : ((hi : Int) - (lo : Int)).tdiv 2 = (d : Int) := by
          rw [show (hi : Int) - (lo : Int) = ((hi - lo : Nat) : Int) by omega]
          show ((hi - lo : Nat) : Int).tdiv ((2 : Nat) : Int) = _
          rw [← Int.ofNat_tdiv, hd]
        have HSTEP := Lib.hid (show lsM p (f + 1) lo hi = if p (lo + d) then lsM p f lo (lo + d) else lsM p f (lo + d + 1) hi by
          rw [lsM, if_pos hlt, hd])
        have HF := Lib.hid hf
        clear hd hf
        go_wp2_with (fail)
        refine (HCL.out (lo + d) (by omega) _ HK.out).mono ?_
        rintro e w2 ⟨rfl, hk⟩
        have HK2 := Lib.hid (HK.out.then hk)
        clear hk
        dsimp only
        cases hpv : p (lo + d)
        · have HS2 := Lib.hid (show lsM p f (lo + d + 1) hi = R by rw [← HL.out, HSTEP.out, hpv]; rfl)
          go_wp2_with (fail)
          go_roundw
          case rel => exact ⟨f, hi, lo + d + 1, rfl, by go_num, by omega, hE, hd2, HS2, HK2⟩
          case measure => simp [intOf]; omega
        · have HS2 := Lib.hid (show lsM p f lo (lo + d) = R by rw [← HL.out, HSTEP.out, hpv]; rfl)
          go_wp2_with (fail)
          go_roundw
          case rel => exact ⟨f, lo + d, lo, by go_num, rfl, by omega, by omega, by omega, HS2, HK2⟩
          case measure => simp [intOf]; omega
    · obtain rfl : lo = hi := by omega
      have HE := Lib.hid (show lo = R by rw [← HL.out, lsM_end p f lo lo (Nat.lt_irrefl _)])
      clear hf
      go_wp2_with (fail)
      go_ret
      exact ⟨by rw [HE.out]; rfl, HK.out⟩
end Go.Proofs.YtiehmpiaddjhiaaDoor
