/- Texts that belong together, one behind the other: RaP, RaQ. Conditions: those of each. -/
import Derived.Test.YtiehmpiaddjhiaaDoorMg10
import Derived.Test.YtiehmpiaddjhiaaDoorMg14
/- Package rate: bring. -/
namespace Go.Proofs.YtiehmpiaddjhiaaDoor
open Go.RowKit Go.Sort
set_option linter.unusedVariables false

def brM (m : Bk) (now : Int) : Bk := if (clB m).a < now then { clB m with l := afM (clB m) (now - (clB m).a).toNat, a := now } else clB m
theorem brM_cl {m : Bk} (h : m.ok) (now : Int) (hn : -9223372036854775808 ≤ now ∧ now ≤ 9223372036854775807) : (brM m now).cl := by
  have hc := clB_cl h
  unfold brM
  split
  · exact ⟨hc.r, hc.b, afM_le hc _, hn⟩
  · exact hc
theorem exec_nc {P : Program} {o : Oper} {a : Act} {u : World} (x : Operand) (ho : o.op = .nilCheck x) {g f : Nat} (hx : a.eval x = pAt g f) : (execOp a.eval o).run P u = .ok (.value (pAt g f)) u := by
  unfold execOp pAt at *
  simp only [ho, hx]
  rfl
theorem fa_b2 (g : Nat) (u : World) : (Instr.fieldAt 26 (pAt g 0) 2).run Tryd.prog u = .ok (pAt g 2) u := by kernel_rfl
theorem fa_b3 (g : Nat) (u : World) : (Instr.fieldAt 26 (pAt g 0) 3).run Tryd.prog u = .ok (pAt g 3) u := by kernel_rfl
theorem infI6 : (Tryd.prog.info? 2).map (·.size) = some 1 := by kernel_rfl
theorem c_call {P : Program} {o : Oper} {a : Act} {u : World} {D : List Nat} {m : Nat} {x y : Value} {K : World → Prop} {a0 : Act} {V : List (Value → Prop)} {S : List Sto} {Q : Exit → Act → World → Prop} {i : Nat} (hI : cI D m x y K a0 a u) (f : FuncId) (avs : Array Value) (h : (execOp a.eval o).run P u = .ok (.enter f avs) u) (v : Value) (hc : Calls P f avs u fun e w' => e = .returned v ∧ Kept Nil u w') (k : Nat) (hd : o.dst = some k) (hk : D.contains k = true) (hm : (k == m) = false) (hV : V.getD i (fun _ => True) v) (hS : (S.all fun e => e.i != i) = true) (hK : ∀ u', Kept Nil u u' → K u') :
    o.wp P a u (fun a' w' => ∃ v, a' = a.put o.dst v ∧ cI D m x y K a0 a' w' ∧ (cR V S i (if o.dst.isSome then v else undef) w') ∧ (∀ j x, j ≠ i → cR V S j x u → cR V S j x w') ∧ ∀ j, j ≠ i → cU S j u → cU S j w') Q := by
  unfold Oper.wp
  rw [h]
  refine hc.mono ?_
  rintro e w' ⟨rfl, kk⟩
  refine ⟨v, rfl, ?_, ⟨by rw [hd]; exact hV, fun e he hi => ?_⟩, fun j x hj hr => ⟨hr.1, fun e he hi => kk.cell (hr.2 e he hi) (fun hf => hf)⟩, fun j hj hu e he hi => kk.cell (hu e he hi) (fun hf => hf)⟩
  · rw [hd]
    have := hI.put k v (by simpa using hk) (by simpa using hm)
    exact ⟨this.size, this.defs, this.fr, this.mv, hK w' kk⟩
  · have := List.all_eq_true.1 hS e he
    simp [hi] at this
/-- What bring's region keeps up. -/
def brK (w0 : World) (g : Nat) (c : Bk) (u : World) : Prop := Kept (One g) w0 u ∧ ∃ cs : List Value, Blo u g 26 cs.toArray ∧ cs.length = 4 ∧ cs[0]? = some (.float .f64 c.r) ∧ cs[1]? = some (.float .f64 c.b)
theorem four_of {cs : List Value} (h : cs.length = 4) : ∃ a b c d, cs = [a, b, c, d] := by
  match cs, h with
  | [a, b, c, d], _ => exact ⟨a, b, c, d, rfl⟩
theorem brK.next {w0 u u' : World} {g : Nat} {c : Bk} (h : brK w0 g c u) (k : Kept Nil u u') : brK w0 g c u' := by
  obtain ⟨h1, cs, h2, h3⟩ := h
  exact ⟨h1.then k, cs, h2.kept k (fun hf => hf), h3⟩
theorem brK.row {w0 u : World} {g : Nat} {c : Bk} (h : brK w0 g c u) (z2 : u.cell? ⟨g, 2, none⟩ = some (.float .f64 c.l)) (z3 : u.cell? ⟨g, 3, none⟩ = some (.int .i64 c.a)) : Row u g 0 (bkl c) := by
  obtain ⟨h1, cs, hb, hl, h0, h11⟩ := h
  obtain ⟨x0, x1, x2, x3, rfl⟩ := four_of hl
  rw [hb.cell] at z2 z3
  simp at z2 z3 h0 h11
  subst z2 z3 h0 h11
  exact KB.all hb
theorem brK.fin {w0 u : World} {g : Nat} {c : Bk} {AF : Nat} {now : Int} (h : brK w0 g c u) (z2 : u.cell? ⟨g, 2, none⟩ = some (.float .f64 AF)) (z3 : u.cell? ⟨g, 3, none⟩ = some (.int .i64 now)) : KB u g { c with l := AF, a := now } := by
  obtain ⟨h1, cs, hb, hl, h0, h11⟩ := h
  obtain ⟨x0, x1, x2, x3, rfl⟩ := four_of hl
  rw [hb.cell] at z2 z3
  simp at z2 z3 h0 h11
  subst z2 z3 h0 h11
  exact hb
theorem brK_st {w0 u u' : World} {g : Nat} {c : Bk} {cs : List Value} {z : Value} (h : Kept (One g) w0 u ∧ ∃ cs : List Value, Blo u g 26 cs.toArray ∧ cs.length = 4 ∧ cs[0]? = some (.float .f64 c.r) ∧ cs[1]? = some (.float .f64 c.b)) (f : Nat) (hf2 : 2 ≤ f) (hf4 : f < 4) (hb : Blo u' g 26 (cs.take f ++ [z] ++ cs.drop (f + [z].length)).toArray) (k : Kept (One g) u u') : cs.length = 4 → cs[0]? = some (.float .f64 c.r) → cs[1]? = some (.float .f64 c.b) → brK w0 g c u' := by
  intro hl h0 h1
  obtain ⟨x0, x1, x2, x3, rfl⟩ := four_of hl
  refine ⟨h.1.trans k (fun _ _ hf => hf), _, hb, ?_, ?_, ?_⟩
  · rcases (show f = 2 ∨ f = 3 by omega) with rfl | rfl <;> rfl
  · rcases (show f = 2 ∨ f = 3 by omega) with rfl | rfl <;> exact h0
  · rcases (show f = 2 ∨ f = 3 by omega) with rfl | rfl <;> exact h1
set_option maxRecDepth 100000 in
set_option maxHeartbeats 8000000 in
theorem bring_yes (g : Nat) (m : Bk) (hm : m.ok) (now : Int) (hn : -9223372036854775808 ≤ now ∧ now ≤ 9223372036854775807) (w : World) (hb : KB w g m) : Calls Tryd.prog 22 #[.pointer (some ⟨g, 0, none⟩), .int .i64 now] w fun e w' => e = .returned (.tuple #[]) ∧ KB w' g (brM m now) ∧ Kept (One g) w w' := by
  have HM := Lib.hid hm
  have HN := Lib.hid hn
  have HB := Lib.hid hb
  clear hm hn hb
  go_enter Tryd.func22, Tryd.ntmps22
  go_wp2_with (first
    | (refine wpList_ld rfl _ (.tmp 6) rfl g 0 rfl (bkl m) HB.out.all _ Tryd.underlying26 rfl (infBk _) ?_; simp only [Act.put, List.setIfInBounds_toArray, List.set_cons_succ, List.set_cons_zero])
    | fail)
  refine (bclean_yes m HM.out _).mono ?_
  rintro e w1 ⟨rfl, hk⟩
  have HB := Lib.hid (HB.out.kept hk (fun hf => hf))
  have HK := Lib.hid (hk.nil : Kept (One g) w w1)
  have HC := Lib.hid (clB_cl HM.out)
  have HBR := Lib.hid (show brM m now = if (clB m).a < now then { clB m with l := afM (clB m) (now - (clB m).a).toNat, a := now } else clB m from rfl)
  generalize clB m = c at *
  clear hk
  dsimp only
  go_upto_region 1 with (first
    | (refine wpList_st rfl 26 (.tmp 9) _ rfl g 0 rfl (bkl c) _ rfl rfl (infBk _) 26 _ HB.out (by show 0 + 4 ≤ 4; decide) (bkl_one _) ?_; intro w2 hb2 hk2 hz2; simp only [Act.put, List.setIfInBounds_toArray, List.set_cons_succ, List.set_cons_zero])
    | fail)
  have HB := Lib.hid (show KB w2 g c from hb2)
  have HK := Lib.hid (HK.out.trans hk2 (fun _ _ hf => hf))
  clear hb2 hk2 hz2
  have c3 := HB.out.c3
  obtain ⟨ha1, ha2⟩ := HC.out.a
  obtain ⟨hn1, hn2⟩ := HN.out
  by_cases hlt : c.a < now
  · rw [if_pos hlt] at HBR
    go_upto_region 2 with (fail)
    obtain ⟨D, hD⟩ : ∃ D : Nat, now - c.a = (D : Int) := ⟨(now - c.a).toNat, by omega⟩
    have hDt : (now - c.a).toNat = D := by omega
    have hD64 : D < 18446744073709551616 := by omega
    rw [hDt] at HBR
    obtain ⟨N1, hN1⟩ : ∃ x, IntKind.u64.wrap now = x := ⟨_, rfl⟩
    obtain ⟨N2, hN2⟩ : ∃ x, IntKind.u64.wrap c.a = x := ⟨_, rfl⟩
    have hc1 : ∀ u, (convert 2 22 (.int .i64 now)).run Tryd.prog u = .ok (.int .u64 N1) u := fun u => by rw [← hN1]; simp [convert, run_underlying Tryd.underlying2, run_underlying Tryd.underlying22, Conv.intToInt]
    have hc2 : ∀ u, (convert 2 22 (.int .i64 c.a)).run Tryd.prog u = .ok (.int .u64 N2) u := fun u => by rw [← hN2]; simp [convert, run_underlying Tryd.underlying2, run_underlying Tryd.underlying22, Conv.intToInt]
    have hsb : ∀ (p q : Operand) (u : World), ((do eqGuard .sub 22 p q (.int .u64 N1) (.int .u64 N2); binOp .sub 22 (.int .u64 N1) (.int .u64 N2)) : Sem Value).run Tryd.prog u = .ok (.int .u64 (D : Int)) u := fun p q u => by
      have e : IntKind.u64.wrap (N1 - N2) = (D : Int) := by
        rw [← hN1, ← hN2]
        show (now % 18446744073709551616 - c.a % 18446744073709551616) % 18446744073709551616 = (D : Int)
        omega
      simp [eqGuard, binOp, Op.intArith, e]
    have haf := after_yes c HC.out D hD64
    obtain ⟨AF, hAF⟩ : ∃ x, afM c D = x := ⟨_, rfl⟩
    rw [hAF] at haf HBR
    clear hD hDt hD64 hN1 hN2 hAF hlt ha1 ha2 hn1 hn2
    refine wp_nameC2 fun A0 hA0 => ?_
    have HSZ : A0.tmps.size = 35 := by rw [hA0]; rfl
    have am : A0.eval (.tmp 0) = pAt g 0 := by rw [hA0]; rfl
    have a1 : A0.tmps.getD 1 undef = .int .i64 now := by rw [hA0]; rfl
    have HA0 := Lib.hid hA0
    clear hA0 c3
    refine wp_region_posts 35 (cI [16, 17, 18, 19, 20, 21, 22, 23, 24, 25, 26, 27, 28, 29, 30, 31, 32, 33, 34] 0 (pAt g 0) (pAt g 0) (brK w2 g c) A0) (cR [(fun v => v = pAt g 0), (fun v => v = pAt g 0), (fun v => v = pAt g 0), (fun v => v = pAt g 0), (fun v => v = bkv c), (fun v => v = .int .i64 now), (fun v => v = .int .u64 N1), (fun v => v = pAt g 0), (fun v => v = pAt g 0), (fun v => v = pAt g 3), (fun v => v = .int .i64 c.a), (fun v => v = .int .u64 N2), (fun v => v = .int .u64 (D : Int)), (fun v => v = .float .f64 AF), (fun v => v = .int .i64 now), (fun v => v = pAt g 0), (fun v => v = pAt g 2), (fun v => v = undef), (fun v => v = pAt g 0), (fun v => v = pAt g 3), (fun v => v = undef)] [⟨17, g, 2, .float .f64 c.l, .float .f64 AF⟩, ⟨20, g, 3, .int .i64 c.a, .int .i64 now⟩]) (cU [⟨17, g, 2, .float .f64 c.l, .float .f64 AF⟩, ⟨20, g, 3, .int .i64 c.a, .int .i64 now⟩]) (by kernel_rfl) (by kernel_rfl) (fun a u h => h.size.trans HSZ) (fun u hu => ⟨⟨rfl, rfl, fun _ _ => rfl, .inl am, ⟨hu.nil, _, HB.out.kept hu (fun hf => hf), rfl, rfl, rfl⟩⟩, fun j e he _ => by
      simp only [List.mem_cons, List.not_mem_nil, or_false] at he
      rcases he with rfl | rfl
      · exact (HB.out.kept hu (fun hf => hf)).c2
      · exact (HB.out.kept hu (fun hf => hf)).c3⟩) ?_ ?_
    · refine ⟨?_, ?_, ?_, ?_, ?_, ?_, ?_, ?_, ?_, ?_, ?_, ?_, ?_, ?_, ?_, ?_, ?_, ?_, ?_, ?_, ?_, trivial⟩
      · intro a u hI hp hU
        exact c_pure hI (pAt g 0) (exec_mv2 _ rfl (hI.mv.elim id id)) 16 rfl (by rfl) (by rfl) rfl (by rfl)
      · intro a u hI hp hU
        exact c_pure hI (pAt g 0) (exec_mv2 _ rfl (hI.mv.elim id id)) 17 rfl (by rfl) (by rfl) rfl (by rfl)
      · intro a u hI hp hU
        exact c_pure hI (pAt g 0) (exec_mv2 _ rfl (hI.mv.elim id id)) 18 rfl (by rfl) (by rfl) rfl (by rfl)
      · intro a u hI hp hU
        exact c_pure hI (pAt g 0) (exec_nc _ rfl (got hp ⟨2, .data⟩ (by simp) rfl 18 rfl).1) 19 rfl (by rfl) (by rfl) rfl (by rfl)
      · intro a u hI hp hU
        have z2 := c_old hU _ rfl ⟨⟨4, .phase⟩, by simp, rfl, rfl⟩ ⟨17, g, 2, .float .f64 c.l, .float .f64 AF⟩ (by simp) rfl
        have z3 := c_old hU _ rfl ⟨⟨4, .phase⟩, by simp, rfl, rfl⟩ ⟨20, g, 3, .int .i64 c.a, .int .i64 now⟩ (by simp) rfl
        exact c_pure hI (bkv c) (exec_ldR _ _ rfl (got hp ⟨3, .data⟩ (by simp) rfl 19 rfl).1 (bkl c) (hI.inv.row z2 z3) _ Tryd.underlying26 rfl (infBk _)) 20 rfl (by rfl) (by rfl) rfl (by rfl)
      · intro a u hI hp hU
        have e1 : a.eval (.tmp 1) = .int .i64 now := (hI.fr 1 (by decide)).trans a1
        exact c_pure hI (.int .i64 now) (exec_mv2 _ rfl e1) 21 rfl (by rfl) (by rfl) rfl (by rfl)
      · intro a u hI hp hU
        exact c_pure hI (.int .u64 N1) (exec_cvI _ _ _ rfl (got hp ⟨5, .data⟩ (by simp) rfl 21 rfl).1 (hc1 u)) 22 rfl (by rfl) (by rfl) rfl (by rfl)
      · intro a u hI hp hU
        exact c_pure hI (pAt g 0) (exec_mv2 _ rfl (hI.mv.elim id id)) 23 rfl (by rfl) (by rfl) rfl (by rfl)
      · intro a u hI hp hU
        exact c_pure hI (pAt g 0) (exec_nc _ rfl (got hp ⟨7, .data⟩ (by simp) rfl 23 rfl).1) 24 rfl (by rfl) (by rfl) rfl (by rfl)
      · intro a u hI hp hU
        exact c_pure hI (pAt g 3) (exec_fa _ _ _ rfl (got hp ⟨8, .data⟩ (by simp) rfl 24 rfl).1 (fa_b3 _ _)) 25 rfl (by rfl) (by rfl) rfl (by rfl)
      · intro a u hI hp hU
        exact c_pure hI (.int .i64 c.a) (exec_ldI _ _ rfl (got hp ⟨9, .data⟩ (by simp) rfl 25 rfl).1 (c_old hU _ rfl ⟨⟨10, .phase⟩, by simp, rfl, rfl⟩ ⟨20, g, 3, .int .i64 c.a, .int .i64 now⟩ (by simp) rfl) Tryd.underlying2) 26 rfl (by rfl) (by rfl) rfl (by rfl)
      · intro a u hI hp hU
        exact c_pure hI (.int .u64 N2) (exec_cvI _ _ _ rfl (got hp ⟨10, .data⟩ (by simp) rfl 26 rfl).1 (hc2 u)) 27 rfl (by rfl) (by rfl) rfl (by rfl)
      · intro a u hI hp hU
        exact c_pure hI (.int .u64 (D : Int)) (exec_bin2 _ _ _ _ _ rfl (got hp ⟨6, .data⟩ (by simp) rfl 22 rfl).1 (got hp ⟨11, .data⟩ (by simp) rfl 27 rfl).1 (hsb _ _ u)) 28 rfl (by rfl) (by rfl) rfl (by rfl)
      · intro a u hI hp hU
        refine c_call hI 30 #[bkv c, .int .u64 (D : Int)] ?_ (.float .f64 AF) (haf u) 29 rfl (by rfl) (by rfl) rfl (by rfl) (fun u' k => hI.inv.next k)
        have e1 := ev_simp (got hp ⟨4, .data⟩ (by simp) rfl 20 rfl).1
        have e2 := ev_simp (got hp ⟨12, .data⟩ (by simp) rfl 28 rfl).1
        simp [execOp, go_sem]
        exact ⟨e1, e2⟩
      · intro a u hI hp hU
        have e1 : a.eval (.tmp 1) = .int .i64 now := (hI.fr 1 (by decide)).trans a1
        exact c_pure hI (.int .i64 now) (exec_mv2 _ rfl e1) 30 rfl (by rfl) (by rfl) rfl (by rfl)
      · intro a u hI hp hU
        exact c_pure hI (pAt g 0) (exec_nc _ rfl (got hp ⟨0, .data⟩ (by simp) rfl 16 rfl).1) 31 rfl (by rfl) (by rfl) rfl (by rfl)
      · intro a u hI hp hU
        exact c_pure hI (pAt g 2) (exec_fa _ _ _ rfl (got hp ⟨15, .data⟩ (by simp) rfl 31 rfl).1 (fa_b2 _ _)) 32 rfl (by rfl) (by rfl) rfl (by rfl)
      · intro a u hI hp hU
        obtain ⟨hk1, cs, hb, hl, h0, h1⟩ := hI.inv
        refine c_st hI _ _ _ rfl rfl (got hp ⟨16, .data⟩ (by simp) rfl 32 rfl).1 (got hp ⟨13, .data⟩ (by simp) rfl 29 rfl).1 rfl rfl infFl hb (by rw [hl]; decide) ?_ rfl fun u' hbl hk hz => brK_st ⟨hk1, cs, hb, hl, h0, h1⟩ 2 (by decide) (by decide) hbl hk hl h0 h1
        intro e he
        simp only [List.mem_cons, List.not_mem_nil, or_false] at he
        rcases he with rfl | rfl
        · exact .inl ⟨rfl, rfl, rfl, rfl⟩
        · exact .inr ⟨by show (20 : Nat) ≠ 17; decide, .inr (by show (2 : Nat) ≠ 3; decide)⟩
      · intro a u hI hp hU
        exact c_pure hI (pAt g 0) (exec_nc _ rfl (got hp ⟨1, .data⟩ (by simp) rfl 17 rfl).1) 33 rfl (by rfl) (by rfl) rfl (by rfl)
      · intro a u hI hp hU
        exact c_pure hI (pAt g 3) (exec_fa _ _ _ rfl (got hp ⟨18, .data⟩ (by simp) rfl 33 rfl).1 (fa_b3 _ _)) 34 rfl (by rfl) (by rfl) rfl (by rfl)
      · intro a u hI hp hU
        obtain ⟨hk1, cs, hb, hl, h0, h1⟩ := hI.inv
        refine c_st hI _ _ _ rfl rfl (got hp ⟨19, .data⟩ (by simp) rfl 34 rfl).1 (got hp ⟨14, .data⟩ (by simp) rfl 30 rfl).1 rfl rfl infI6 hb (by rw [hl]; decide) ?_ rfl fun u' hbl hk hz => brK_st ⟨hk1, cs, hb, hl, h0, h1⟩ 3 (by decide) (by decide) hbl hk hl h0 h1
        intro e he
        simp only [List.mem_cons, List.not_mem_nil, or_false] at he
        rcases he with rfl | rfl
        · exact .inr ⟨by show (17 : Nat) ≠ 20; decide, .inr (by show (3 : Nat) ≠ 2; decide)⟩
        · exact .inl ⟨rfl, rfl, rfl, rfl⟩
    · intro a u hI hR
      have z17 := (hR 17 _ rfl).2 ⟨17, g, 2, .float .f64 c.l, .float .f64 AF⟩ (by simp) rfl
      have z20 := (hR 20 _ rfl).2 ⟨20, g, 3, .int .i64 c.a, .int .i64 now⟩ (by simp) rfl
      have ha := act_eq a A0 [(16, pAt g 0), (17, pAt g 0), (18, pAt g 0), (19, pAt g 0), (20, bkv c), (21, .int .i64 now), (22, .int .u64 N1), (23, pAt g 0), (24, pAt g 0), (25, pAt g 3), (26, .int .i64 c.a), (27, .int .u64 N2), (28, .int .u64 (D : Int)), (29, .float .f64 AF), (30, .int .i64 now), (31, pAt g 0), (32, pAt g 2), (33, pAt g 0), (34, pAt g 3)] hI.size hI.defs (show ([16, 17, 18, 19, 20, 21, 22, 23, 24, 25, 26, 27, 28, 29, 30, 31, 32, 33, 34] : List Nat).Nodup by decide) (fun p hp => by
          rw [HSZ]
          have h1 : p.1 ∈ [16, 17, 18, 19, 20, 21, 22, 23, 24, 25, 26, 27, 28, 29, 30, 31, 32, 33, 34] := List.mem_map_of_mem (f := Prod.fst) hp
          simp at h1
          omega) (fun p hp => by
          simp only [List.mem_cons, List.not_mem_nil, or_false] at hp
          rcases hp with rfl | rfl | rfl | rfl | rfl | rfl | rfl | rfl | rfl | rfl | rfl | rfl | rfl | rfl | rfl | rfl | rfl | rfl | rfl
          · exact (hR 0 _ rfl).1
          · exact (hR 1 _ rfl).1
          · exact (hR 2 _ rfl).1
          · exact (hR 3 _ rfl).1
          · exact (hR 4 _ rfl).1
          · exact (hR 5 _ rfl).1
          · exact (hR 6 _ rfl).1
          · exact (hR 7 _ rfl).1
          · exact (hR 8 _ rfl).1
          · exact (hR 9 _ rfl).1
          · exact (hR 10 _ rfl).1
          · exact (hR 11 _ rfl).1
          · exact (hR 12 _ rfl).1
          · exact (hR 13 _ rfl).1
          · exact (hR 14 _ rfl).1
          · exact (hR 15 _ rfl).1
          · exact (hR 16 _ rfl).1
          · exact (hR 18 _ rfl).1
          · exact (hR 19 _ rfl).1) (fun d hd => hI.fr d hd)
      have HF := Lib.hid (hI.inv.fin z17 z20)
      have HKF := Lib.hid (HK.out.trans hI.inv.1 (fun _ _ hf => hf))
      clear hI hR z17 z20 am a1 HSZ
      subst ha
      have hA0 := HA0.out
      clear HA0
      subst hA0
      simp only [List.foldl_cons, List.foldl_nil, pAt]
      simp only [Act.put, List.setIfInBounds_toArray, List.set_cons_succ, List.set_cons_zero]
      go_wp2_with (fail)
      go_end0
      exact ⟨rfl, by rw [HBR.out]; exact HF.out, HKF.out⟩
  · rw [if_neg hlt] at HBR
    go_wp2_with (fail)
    go_end0
    exact ⟨rfl, by rw [HBR.out]; exact HB.out, HK.out⟩
end Go.Proofs.YtiehmpiaddjhiaaDoor
/- Package rate: Take. math.IsInf. -/
namespace Go.Proofs.YtiehmpiaddjhiaaDoor
open Go.RowKit Go.Sort
set_option linter.unusedVariables false

set_option maxRecDepth 100000 in
theorem isinf_yes (x : Nat) (hx : x ≤ INFB) (w : World) : Calls Tryd.prog 23 #[.float .f64 x, .int .i64 1] w fun e w' => e = .returned (.bool (decide (x = INFB))) ∧ Kept Nil w w' := by
  have hx2 : x < 18446744073709551616 := Nat.lt_of_le_of_lt hx (by decide)
  have hm : (9218868437227405311 : Nat) ≤ INFB := by decide
  have hI : INFB = 9218868437227405312 := rfl
  have h1 : (FloatKind.f64.format.order x 9218868437227405311 == some .gt) = decide (x = INFB) := by
    refine (gt_is hx2 (by decide)).trans ?_
    rw [lt_clean hm hx]
    rw [hI] at hx ⊢
    simp
    omega
  clear hx hx2 hm hI
  go_enter Tryd.func23, Tryd.ntmps23
  go_wp2_with (fail)
  go_ret
  exact ⟨by first | rfl | rw [h1], Kept.refl _ _⟩
def tkM (m : Bk) (now : Int) (n s : Nat) : Bk := if (brM m now).l < clF n then brM m now else if (brM m now).l = INFB then brM m now else { brM m now with l := s }
set_option maxRecDepth 100000 in
set_option maxHeartbeats 4000000 in
theorem take_yes (g : Nat) (m : Bk) (hm : m.ok) (now : Int) (hn : -9223372036854775808 ≤ now ∧ now ≤ 9223372036854775807) (n s : Nat) (hn64 : n < 18446744073709551616) (hs : ¬ (brM m now).l < clF n → (brM m now).l ≠ INFB → Ieee.double.sub (brM m now).l (clF n) = some s) (w : World) (hb : KB w g m) : Calls Tryd.prog 9 #[.pointer (some ⟨g, 0, none⟩), .int .i64 now, .float .f64 n] w fun e w' => e = .returned (.bool (!decide ((brM m now).l < clF n))) ∧ KB w' g (tkM m now n s) ∧ Kept (One g) w w' := by
  have HM := Lib.hid hm
  have HN := Lib.hid hn
  have HB := Lib.hid hb
  have HN64 := Lib.hid hn64
  have HS := Lib.hid hs
  have HTK := Lib.hid (show tkM m now n s = if (brM m now).l < clF n then brM m now else if (brM m now).l = INFB then brM m now else { brM m now with l := s } from rfl)
  have HC := Lib.hid (brM_cl hm now hn)
  clear hm hn hb hn64 hs
  go_enter Tryd.func9, Tryd.ntmps9
  go_wp2_with (fail)
  refine (bring_yes g m HM.out now HN.out _ HB.out).mono ?_
  rintro e w1 ⟨rfl, hb, hk⟩
  have HB := Lib.hid hb
  have HK := Lib.hid hk
  clear hb hk
  generalize hbc : brM m now = c at *
  have HBC := Lib.hid hbc
  clear hbc
  dsimp only
  go_wp2_with (fail)
  refine (fclean_yes n HN64.out _).mono ?_
  rintro e w2 ⟨rfl, hk⟩
  have HB := Lib.hid (HB.out.kept hk (fun hf => hf))
  have HK := Lib.hid (HK.out.trans (hk.nil : Kept (One g) w1 w2) (fun _ _ hf => hf))
  have HNL := Lib.hid (clF_le HN64.out)
  generalize hqc : clF n = q at *
  have HQC := Lib.hid hqc
  clear hqc
  clear hk
  dsimp only
  have c2 := HB.out.c2
  have hlI : c.l ≤ INFB := Nat.le_trans HC.out.l HC.out.b
  have hIB : INFB < 18446744073709551616 := by decide
  have hcmp : (FloatKind.f64.format.order q c.l == some .gt) = decide (c.l < q) := (gt_is (Nat.lt_of_le_of_lt HNL.out hIB) (Nat.lt_of_le_of_lt hlI hIB)).trans (lt_clean hlI HNL.out)
  clear hIB
  by_cases hlt : c.l < q
  · rw [decide_eq_true hlt] at hcmp
    rw [if_pos hlt] at HTK
    have HD := Lib.hid (show decide (c.l < q) = true from decide_eq_true hlt)
    clear hlt hlI
    go_wp2_with (fail)
    go_ret
    exact ⟨by rw [HBC.out, HQC.out, HD.out]; rfl, by rw [HTK.out]; exact HB.out, HK.out⟩
  · rw [decide_eq_false hlt] at hcmp
    rw [if_neg hlt] at HTK
    have HD := Lib.hid (show decide (c.l < q) = false from decide_eq_false hlt)
    have HS := Lib.hid (HS.out hlt)
    have HLI := Lib.hid hlI
    clear hlt hlI
    go_wp2_with (fail)
    refine (isinf_yes c.l HLI.out _).mono ?_
    rintro e w3 ⟨rfl, hk⟩
    have HB := Lib.hid (HB.out.kept hk (fun hf => hf))
    have HK := Lib.hid (HK.out.trans (hk.nil : Kept (One g) w2 w3) (fun _ _ hf => hf))
    have c2 := HB.out.c2
    clear hk
    dsimp only
    cases hi : decide (c.l = INFB)
    · have hne : c.l ≠ INFB := of_decide_eq_false hi
      have hsub : ∀ t u, (binOp .sub t (.float .f64 c.l) (.float .f64 q)).run Tryd.prog u = .ok (.float .f64 s) u := fun t u => run_float_arith u .sub t .f64 _ _ _ (HS.out hne)
      rw [if_neg hne] at HTK
      clear hi hne
      go_wp2_with (first
        | (refine wpList_st rfl 24 (.tmp 33) _ rfl g 2 rfl [.float .f64 s] _ rfl rfl infFl 26 _ HB.out (by show 2 + 1 ≤ 4; decide) (by intro u hu; obtain rfl := List.mem_singleton.1 hu; rfl) ?_; intro w4 hb4 hk4 hz4; simp only [Act.put, List.setIfInBounds_toArray, List.set_cons_succ, List.set_cons_zero])
        | fail)
      have hf : KB w4 g { c with l := s } := hb4
      go_ret
      exact ⟨by rw [HBC.out, HQC.out, HD.out]; rfl, by rw [HTK.out]; exact hf, HK.out.trans hk4 (fun _ _ hf => hf)⟩
    · have he : c.l = INFB := of_decide_eq_true hi
      rw [if_pos he] at HTK
      clear hi he
      go_wp2_with (fail)
      go_ret
      exact ⟨by rw [HBC.out, HQC.out, HD.out]; rfl, by rw [HTK.out]; exact HB.out, HK.out⟩
end Go.Proofs.YtiehmpiaddjhiaaDoor
