/- Texts that belong together, one behind the other: RtA, Bd. Conditions: those of each. -/
import Derived.Test.YthjbabkmjmfmjaaDoorMg6
import Derived.Test.YthjbabkmjmfmjaaDoorMg3
import Derived.Test.YthjbabkmjmfmjaaDoorMg16
import Derived.Test.YthjbabkmjmfmjaaDoorMg7
import Derived.Deep.DeepCutAuto
/- tollref07: contracts of two, four. -/
namespace Go.Proofs.YthjbabkmjmfmjaaDoor
open Go.RowKit Go.Sort
set_option linter.unusedVariables false

theorem two_at (l : List UInt8) (k : Nat) (h : k + 2 ≤ l.length) : (l.drop k).take 2 = [l[k]'(by omega), l[k + 1]'(by omega)] := by
  rw [List.drop_eq_getElem_cons (by omega), List.drop_eq_getElem_cons (by omega)]
  rfl
theorem fourOf (l : List UInt8) (h : 4 ≤ l.length) : ∃ a b c d r, l = a :: b :: c :: d :: r := by
  match l, h with
  | a :: b :: c :: d :: r, _ => exact ⟨a, b, c, d, r, rfl⟩
theorem four_at (l : List UInt8) (k : Nat) (h : k + 4 ≤ l.length) : numM ((l.drop k).take 4) = 65536 * numM ((l.drop k).take 2) + numM ((l.drop (k + 2)).take 2) := by
  obtain ⟨a, b, c, d, r, e⟩ := fourOf (l.drop k) (by rw [List.length_drop]; omega)
  rw [← List.drop_drop, e]
  simp only [List.take_succ_cons, List.take_zero, List.drop_succ_cons, List.drop_zero, numM, List.foldl_cons, List.foldl_nil]
  omega
set_option maxRecDepth 100000 in
theorem qtwo_yes (A : Option Addr) (n c : Nat) (l : List UInt8) (k : Nat) (w : World) (h : Byt w A n c l) (hk : k + 2 ≤ n) (hk6 : k ≤ 1000000000) : Calls Tryd.prog 43 #[.slice A n c, .int .i64 (k : Int)] w fun e w' => e = .returned (.int .i64 (numM ((l.drop k).take 2) : Int)) ∧ Kept Nil w w' := by
  have hl := h.1
  obtain ⟨b, o, rfl, -⟩ := h.2.2.2 (by omega)
  obtain ⟨x, hx⟩ : ∃ x, l[k]? = some x := ⟨_, List.getElem?_eq_getElem (by omega)⟩
  obtain ⟨y, hy⟩ : ∃ y, l[k + 1]? = some y := ⟨_, List.getElem?_eq_getElem (by omega)⟩
  have c0 := fun d os => byt_ge (h.kept (kept_grown' w d os) (fun _ _ hf => hf)) k x hx
  have c1 := fun d os => byt_ge (h.kept (kept_grown' w d os) (fun _ _ hf => hf)) (k + 1) y hy
  have hv : numM ((l.drop k).take 2) = 256 * x.toNat + y.toNat := by
    rw [two_at l k (by omega)]
    rw [List.getElem?_eq_getElem (by omega)] at hx hy
    simp only [Option.some.injEq] at hx hy
    rw [hx, hy]
    simp [numM]
    omega
  have HV := Lib.hid hv
  have hxl := x.toNat_lt
  have hyl := y.toNat_lt
  have n0 : k < n := by omega
  have n1 : k + 1 < n := by omega
  have n0' : (k : Int) < (n : Int) := by omega
  have n1' : (k : Int) + 1 < (n : Int) := by omega
  clear h hx hy hv hl
  go_enter Tryd.func43, Tryd.ntmps43
  go_wp2_with (fail)
  refine wp_region_quiet_below (by kernel_rfl) (by kernel_rfl) ?_
  repeat (go_big_quiet_step (fail))
  refine wpQuiet_nil ?_
  rintro w' ⟨nq, hw⟩
  have hk : Kept Nil w w' := by rw [hw]; exact kept_grown _ _
  go_wp2
  go_ret
  rw [HV.out]
  exact ⟨by first | rfl | go_num, hk⟩
set_option maxRecDepth 100000 in
theorem qfour_yes (A : Option Addr) (n c : Nat) (l : List UInt8) (k : Nat) (w : World) (h : Byt w A n c l) (hk : k + 4 ≤ n) (hk6 : k ≤ 100000000) : Calls Tryd.prog 44 #[.slice A n c, .int .i64 (k : Int)] w fun e w' => e = .returned (.int .u32 (numM ((l.drop k).take 4) : Int)) ∧ Kept Nil w w' := by
  have HV := Lib.hid (four_at l k (by rw [h.1]; exact hk))
  have C1 := Lib.hid (fun u hu => qtwo_yes A n c l k u hu (by omega) (by omega))
  have C2 := Lib.hid (fun u hu => qtwo_yes A n c l (k + 2) u hu (by omega) (by omega))
  have hlx : ∀ j, numM ((l.drop j).take 2) < 65536 := fun j => Nat.lt_of_lt_of_le (numM_lt _) (Nat.le_trans (Nat.pow_le_pow_right (by decide) (show ((l.drop j).take 2).length ≤ 2 by simp; omega)) (by decide))
  have h1 := hlx k
  have h2 := hlx (k + 2)
  obtain ⟨x, hx⟩ : ∃ x, numM ((l.drop k).take 2) = x := ⟨_, rfl⟩
  obtain ⟨y, hy⟩ : ∃ y, numM ((l.drop (k + 2)).take 2) = y := ⟨_, rfl⟩
  rw [hx] at h1 HV C1
  rw [hy] at h2 HV C2
  rw [show ((k + 2 : Nat) : Int) = (k : Int) + 2 by omega] at C2
  have w1 : IntKind.wrap .u32 (x : Int) = (x : Int) := IntWalk.u32_in _ (by omega)
  have w2 : IntKind.wrap .u32 (65536 * (x : Int)) = 65536 * (x : Int) := IntWalk.u32_in _ (by omega)
  have w3 : IntKind.wrap .u32 (y : Int) = (y : Int) := IntWalk.u32_in _ (by omega)
  have w4 : IntKind.wrap .u32 (65536 * (x : Int) + (y : Int)) = 65536 * (x : Int) + (y : Int) := IntWalk.u32_in _ (by omega)
  have HB := Lib.hid h
  clear hlx hx hy h
  go_enter Tryd.func44, Tryd.ntmps44
  go_wp2_with (fail)
  refine (C1.out _ HB.out).mono ?_
  rintro e u1 ⟨rfl, hk1⟩
  have HK1 := Lib.hid hk1
  clear hk1
  go_wp2_with (fail)
  refine (C2.out _ (HB.out.kept HK1.out (fun _ _ hf => hf))).mono ?_
  rintro e u2 ⟨rfl, hk2⟩
  have HK2 := Lib.hid (HK1.out.then hk2)
  clear hk2
  go_wp2_with (fail)
  go_ret
  rw [HV.out]
  exact ⟨by first | rfl | go_num, HK2.out⟩
end Go.Proofs.YthjbabkmjmfmjaaDoor
/- A struct built in a region that only reads. Nothing of the program is named here. -/
namespace Go.Proofs.YthjbabkmjmfmjaaDoor
open Go.RowKit Go.Sort
set_option linter.unusedVariables false

theorem wpQuiet_bd {P : Program} {ops : Array Oper} {C : World → Prop} {Q : Act → Prop} {o : Oper} {rest : List Oper} {a : Act} (hgd : Region.wanted o (yielded ops a.tmps) = true) (ty : TypeId) (ps : Array (Nat × Operand)) (ho : o.op = .build ty ps) (xs : Array (Nat × Value)) (hxs : (ps.toList.map fun x => (x.1, a.eval x.2)) = xs.toList) (v : Value)
    (hv : ∀ w, (Instr.build ty xs).run P w = .ok v w) (h : wpQuiet P ops C Q rest (a.put o.dst v)) : wpQuiet P ops C Q (o :: rest) a := by
  have e : (ps.map fun x => (x.1, a.eval x.2)) = xs := Array.toList_inj.1 (by rw [Array.toList_map]; exact hxs)
  unfold wpQuiet
  rw [if_pos hgd]
  refine ⟨v, fun w hw => ?_, h⟩
  unfold Oper.quietAt execOp
  simp only [ho, e, Sem.run_bind, Sem.run_pure, hv, Result.andThen_ok]
  exact ⟨rfl, rfl⟩
end Go.Proofs.YthjbabkmjmfmjaaDoor
