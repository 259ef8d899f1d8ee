/- Texts that belong together, one behind the other: RaGl, RaTr. Conditions: those of each. -/
import Derived.Test.YtiehmpiaddjhiaaDoorMg27
import Derived.Test.YtiehmpiaddjhiaaDoorRows
import Derived.LaidSub
import Derived.LaidLaws
import Derived.FnData
import Derived.Shelf.Vars
import Derived.ChangeSame
import Derived.OpenShut
import Derived.Test.YtiehmpiaddjhiaaDoorMg18
import Derived.Test.YtiehmpiaddjhiaaDoorMg1
/- What a row's listed variables say of the tables that a rate's text reads, and of the law's own inf. -/
namespace Go.Proofs.YtiehmpiaddjhiaaDoor
open Go Go.RowKit
set_option linter.unusedVariables false

theorem trod_f64 {H : Type} {enc : TypeId × Value → H} {P : Program} {w : World} {base : Nat} {sp : Nat → Bool} {held : Bool} {fuel : Nat} {t : TypeId} {cs : List Value} {n : Nat} {p : List MemPlace} (ht : P.underlying t = some (.float .f64)) (h : DataW.trod enc P w base sp held fuel t cs = some (.lit (.float .f64 n), p)) : cs = [.float .f64 n] := by
  cases fuel with
  | zero => simp [DataW.trod] at h
  | succ m =>
    unfold DataW.trod at h
    rw [ht] at h
    split at h <;> simp_all
theorem pair_of {H : Type} {enc : TypeId × Value → H} {P : Program} {w : World} {base : Nat} {sp : Nat → Bool} {held : Bool} {fuel : Nat} {t t1 e : TypeId} {f0 f1 : Field} {cs : List Value} {n i : Nat} {zs : List (Nat × Nat)} {p : List MemPlace}
    (ht : P.underlying t = some (.array n t1)) (h1 : P.underlying t1 = some (.struct #[f0, f1])) (hc1 : P.cellsOf t1 = 2) (ho0 : f0.offset = 0) (ho1 : f1.offset = 1) (ht0 : f0.type = e) (ht1 : f1.type = e) (he : P.underlying e = some (.int .u64)) (hce : P.cellsOf e = 1)
    (h : DataW.trod enc P w base sp held fuel t cs = some (.agg (zs.map fun x => .agg [.lit (.int .u64 x.1), .lit (.int .u64 x.2)]), p)) (hi : i < n) (a b : Nat) (hz : zs[i]? = some (a, b)) : cs[2 * i]? = some (.int .u64 (a : Int)) ∧ cs[2 * i + 1]? = some (.int .u64 (b : Int)) := by
  obtain ⟨xs, m, _, hx, hl, hxs, hel⟩ := DataW.trod_array ht h
  have hx2 : xs.map (·.1) = zs.map fun x => (DataW.agg [.lit (.int .u64 x.1), .lit (.int .u64 x.2)] : DataW H) := by
    have := congrArg Prod.fst hx
    simpa using this.symm
  have hf := hel i hi
  rw [hc1, List.getElem?_eq_getElem (by omega)] at hf
  have hv : xs[i].1 = DataW.agg [.lit (.int .u64 (a : Int)), .lit (.int .u64 (b : Int))] := by
    have h2 : (xs.map (·.1))[i]? = some (DataW.agg [.lit (.int .u64 (a : Int)), .lit (.int .u64 (b : Int))] : DataW H) := by
      rw [hx2, List.getElem?_map, hz]; rfl
    rw [List.getElem?_map, List.getElem?_eq_getElem (by omega)] at h2
    exact Option.some.inj h2
  obtain ⟨y0, y1, k, hy, hlen, e0, e1⟩ := Go.ChangeShapes.trod_struct2 h1 hf
  rw [ho0, ht0, hce] at e0
  rw [ho1, ht1, hce] at e1
  have hy2 := congrArg Prod.fst hy
  rw [hv] at hy2
  simp only [DataW.agg.injEq, List.cons.injEq, and_true] at hy2
  obtain ⟨n0, c0, z0, _⟩ := DataW.trod_int he e0
  obtain ⟨n1, c1, z1, _⟩ := DataW.trod_int he e1
  rw [z0, z1] at hy2
  simp only [DataW.lit.injEq, Lit.int.injEq, true_and] at hy2
  obtain ⟨q0, q1⟩ := hy2
  subst q0 q1
  rw [hc1] at hlen
  have g0 := congrArg (fun l : List Value => l[0]?) c0
  have g1 := congrArg (fun l : List Value => l[0]?) c1
  simp [List.getElem?_take, List.getElem?_drop] at g0 g1
  rw [Nat.mul_comm 2 i]
  exact ⟨by simpa using g0, by simpa using g1⟩
def Gl (w : World) : Prop := GlR w
set_option maxRecDepth 100000 in
theorem gl_of {w : World} {l : List (String × DataW Unit)} (h : laidMetH Tryd.prog l w) (hsh : w.ShapedOpen Tryd.prog)
    (e1 : l.filter (fun x => x.1 == "internal/strconv.uint64pow10") = [("internal/strconv.uint64pow10", Rows.laid_internal_strconv_uint64pow10)])
    (e2 : l.filter (fun x => x.1 == "internal/strconv.pow10Tab") = [("internal/strconv.pow10Tab", Rows.laid_internal_strconv_pow10Tab)])
    (e3 : l.filter (fun x => x.1 == "toll/tolllaw11.inf") = [("toll/tolllaw11.inf", Rows.laid_toll_tolllaw11_inf)]) : Gl w := by
  have h1 := h.filter (fun x => x.1 == "internal/strconv.uint64pow10")
  have h2 := h.filter (fun x => x.1 == "internal/strconv.pow10Tab")
  have h3 := h.filter (fun x => x.1 == "toll/tolllaw11.inf")
  rw [e1] at h1
  rw [e2] at h2
  rw [e3] at h3
  have k1 : laidMet Tryd.prog [("internal/strconv.uint64pow10", Rows.laid_internal_strconv_uint64pow10)] w := h1
  have k2 : laidMet Tryd.prog [("internal/strconv.pow10Tab", Rows.laid_internal_strconv_pow10Tab)] w := h2
  have k3 : laidMet Tryd.prog [("toll/tolllaw11.inf", Rows.laid_toll_tolllaw11_inf)] w := h3
  have T : Lib.TabIs Tryd.prog w "internal/strconv.uint64pow10" .u64 Lib.pow10Tab := Lib.tabIs_of_head (g := 3) (t := 105) (e := 22) (n := 20) (by kernel_rfl) (by kernel_rfl) (by kernel_rfl) Tryd.underlying22 (by kernel_rfl) (by kernel_rfl) k1
  have hP : ∀ (i a b : Nat), i < 696 → Go.Pinned.pow10Rows[i]? = some (a, b) → w.cell? ⟨4, 2 * i, none⟩ = some (.int .u64 (a : Int)) ∧ w.cell? ⟨4, 2 * i + 1, none⟩ = some (.int .u64 (b : Int)) := by
    intro i a b hi hz
    obtain ⟨ps, ⟨g', t', cs, fuel, p, q, hg', ht', hvar, hd, _, _⟩, _⟩ := k2
    obtain rfl := Option.some.inj ((show Tryd.prog.globalNamed "internal/strconv.pow10Tab" = some 4 by kernel_rfl).symm.trans hg')
    obtain rfl := Option.some.inj ((show (Tryd.prog.globals[4]?).map (·.type) = some 115 by kernel_rfl).symm.trans ht')
    obtain ⟨c0, c1⟩ := pair_of (zs := Go.Pinned.pow10Rows) Tryd.underlying115 Tryd.underlying114 (by kernel_rfl) rfl rfl rfl rfl Tryd.underlying22 (by kernel_rfl) hd hi a b hz
    have v0 := World.var?_cell (show Tryd.prog.globalNamed "internal/strconv.pow10Tab" = some 4 by kernel_rfl) hvar (2 * i)
    have v1 := World.var?_cell (show Tryd.prog.globalNamed "internal/strconv.pow10Tab" = some 4 by kernel_rfl) hvar (2 * i + 1)
    refine ⟨?_, ?_⟩
    · rw [v0]; simpa using c0
    · rw [v1]; simpa using c1
  have hI : w.cell? ⟨1, 0, none⟩ = some (.float .f64 9218868437227405312) := by
    obtain ⟨ps, ⟨g', t', cs, fuel, p, q, hg', ht', hvar, hd, _, _⟩, _⟩ := k3
    obtain rfl := Option.some.inj ((show Tryd.prog.globalNamed "toll/tolllaw11.inf" = some 1 by kernel_rfl).symm.trans hg')
    obtain rfl := Option.some.inj ((show (Tryd.prog.globals[1]?).map (·.type) = some 24 by kernel_rfl).symm.trans ht')
    have hcs := trod_f64 Tryd.underlying24 hd
    have v0 := World.var?_cell (show Tryd.prog.globalNamed "toll/tolllaw11.inf" = some 1 by kernel_rfl) hvar 0
    have h0 : cs.toList[0]? = some (.float .f64 9218868437227405312) := by rw [hcs]; rfl
    rw [v0]
    simpa using h0
  exact show GlR w from ⟨⟨T, hP 365 12800000000000000000 0 (by decide) (by decide +kernel), hP 343 12089258196146291748 17307473159717249708 (by decide) (by decide +kernel)⟩, hI⟩
end Go.Proofs.YtiehmpiaddjhiaaDoor
/- tolllaw11's tries as plain data, read off an argument; what RateBounds' walk asks of floats. -/
namespace Go.Proofs.YtiehmpiaddjhiaaDoor
open Go.RowKit Go.ChangeShapes Go.WideShapes Go.Sort
set_option linter.unusedVariables false

structure TrD where
  later : Nat
  n : Nat
def Tries (w : World) (A : Option Addr) (n c : Nat) (ts : List TrD) : Prop :=
  ts.length = n ∧ n ≤ c ∧ c ≤ 9223372036854775807 ∧ (∀ t ∈ ts, t.later < 4294967296 ∧ t.n < 18446744073709551616) ∧ (0 < n → ∃ b o, A = some ⟨b, o, none⟩ ∧ ∀ i (h : i < ts.length),
    w.cell? ⟨b, o + i * 2, none⟩ = some (.int .u32 (ts[i].later : Int)) ∧ w.cell? ⟨b, o + i * 2 + 1, none⟩ = some (.int .u64 (ts[i].n : Int)))
theorem Tries.kept {w w' : World} {A : Option Addr} {n c : Nat} {ts : List TrD} (h : Tries w A n c ts) (q : Kept Nil w w') : Tries w' A n c ts := by
  refine ⟨h.1, h.2.1, h.2.2.1, h.2.2.2.1, fun hn => ?_⟩
  obtain ⟨b, o, rfl, hc⟩ := h.2.2.2.2 hn
  exact ⟨b, o, rfl, fun i hi => ⟨q.cell (hc i hi).1 (fun hf => hf), q.cell (hc i hi).2 (fun hf => hf)⟩⟩
theorem w64_of (n : Int) (h : (Lit.int .u64 n).wf = true) : ∃ k : Nat, k < 18446744073709551616 ∧ n = (k : Int) := by
  simp [Lit.wf, IntKind.min, IntKind.max, IntKind.signed, IntKind.bits] at h
  exact ⟨n.toNat, by omega, by omega⟩
theorem w32_of (n : Int) (h : (Lit.int .u32 n).wf = true) : ∃ k : Nat, k < 4294967296 ∧ n = (k : Int) := by
  simp [Lit.wf, IntKind.min, IntKind.max, IntKind.signed, IntKind.bits] at h
  exact ⟨n.toNat, by omega, by omega⟩
section
variable {H : Type} {enc : TypeId × Value → H} {w : World} {base : Nat} {spare : Nat → Bool} {held : Bool} {fuel : Nat} {x : DataW H × List MemPlace}
theorem rd_tries {v : Value} (h : DataW.trod enc Tryd.prog w base spare held fuel 45 [v] = some x) : ∃ A n c ts, v = .slice A n c ∧ Tries w A n c ts := by
  obtain ⟨A, n, c, rfl, h1, h2, h3⟩ := rd_rows 2 (by omega) Tryd.underlying45 (by kernel_rfl) h
  rcases Nat.eq_zero_or_pos n with h0 | h0
  · subst h0
    exact ⟨A, 0, c, [], rfl, rfl, h1, h2, by simp, fun h => absurd h (by omega)⟩
  · obtain ⟨b, o, rfl, hel⟩ := h3 h0
    have each : ∀ i, i < n → ∃ t : TrD, (t.later < 4294967296 ∧ t.n < 18446744073709551616) ∧ w.cell? ⟨b, o + i * 2, none⟩ = some (.int .u32 (t.later : Int)) ∧ w.cell? ⟨b, o + i * 2 + 1, none⟩ = some (.int .u64 (t.n : Int)) := by
      intro i hi
      obtain ⟨cs, y, fl, hl, hcell, htr⟩ := hel i hi
      match cs, hl with
      | [c0, c1], _ =>
        have q0 := hcell 0 (by simp)
        have q1 := hcell 1 (by simp)
        rw [Nat.add_zero] at q0
        obtain ⟨n0, y0, t0⟩ := rd_field Tryd.underlying49 htr 0 _ rfl [c0] (by kernel_rfl)
        obtain ⟨n1, y1, t1⟩ := rd_field Tryd.underlying49 htr 1 _ rfl [c1] (by kernel_rfl)
        obtain ⟨z0, e0, _, v0⟩ := DataW.trod_int Tryd.underlying47 t0
        obtain ⟨z1, e1, _, v1⟩ := DataW.trod_int Tryd.underlying22 t1
        obtain rfl := (List.cons.inj e0).1
        obtain rfl := (List.cons.inj e1).1
        obtain ⟨k0, b0, rfl⟩ := w32_of z0 v0
        obtain ⟨k1, b1, rfl⟩ := w64_of z1 v1
        exact ⟨⟨k0, k1⟩, ⟨b0, b1⟩, q0, q1⟩
    obtain ⟨ts, hl, hp⟩ := pick n _ each
    refine ⟨some ⟨b, o, none⟩, n, c, ts, rfl, hl, h1, h2, fun t ht => ?_, fun _ => ⟨b, o, rfl, fun i hi => (hp i hi).2⟩⟩
    obtain ⟨i, hi, rfl⟩ := List.getElem_of_mem ht
    exact (hp i hi).1
end
/-- A clean bucket, brought so many ticks on. -/
theorem br_later (r B L now d : Nat) (hr : r ≤ INFB) (hb : B ≤ INFB) (hl : L ≤ B) (hnw : now + d ≤ 9223372036854775807) : brM ⟨r, B, L, (now : Int)⟩ ((now + d : Nat) : Int) = ⟨r, B, afM ⟨r, B, L, (now : Int)⟩ d, ((now + d : Nat) : Int)⟩ := by
  have hc : clB (⟨r, B, L, (now : Int)⟩ : Bk) = ⟨r, B, L, (now : Int)⟩ := clB_same ⟨hr, hb, hl, by show (-9223372036854775808 : Int) ≤ (now : Int) ∧ (now : Int) ≤ 9223372036854775807; omega⟩
  unfold brM
  rw [hc]
  dsimp only
  rcases Nat.eq_zero_or_pos d with h0 | h0
  · subst h0
    rw [if_neg (by omega)]
    unfold afM
    rw [if_pos rfl]
    rfl
  · rw [if_pos (by omega), show (((now + d : Nat) : Int) - (now : Int)).toNat = d by omega]
theorem clean_of {x : Nat} (h : x ≤ INFB) : x < 18446744073709551616 := Nat.lt_of_le_of_lt h (by decide)
theorem nan_clean {x : Nat} (h : x ≤ INFB) : nanF x = false := by
  have hs : INFB < SG := by decide
  unfold nanF
  rw [Nat.mod_eq_of_lt (Nat.lt_of_le_of_lt h hs)]
  exact decide_eq_false (by omega)
section
variable {a b : Nat} (ha : a ≤ INFB) (hb : b ≤ INFB)
include ha hb
theorem gt_cl : (FloatKind.f64.format.order a b == some .gt) = decide (b < a) := (gt_is (clean_of ha) (clean_of hb)).trans (lt_clean hb ha)
theorem lt_cl : (FloatKind.f64.format.order a b == some .lt) = decide (a < b) := (lt_is (clean_of ha) (clean_of hb)).trans (lt_clean ha hb)
theorem eq_cl : (FloatKind.f64.format.order a b == some .eq) = decide (a = b) := (eq_is (clean_of ha) (clean_of hb)).trans (eq_clean ha hb)
theorem ge_run (t : TypeId) (u : World) : (binOp .geq t (.float .f64 a) (.float .f64 b)).run Tryd.prog u = .ok (.bool (decide (b ≤ a))) u := by
  have h1 := gt_cl ha hb
  have h2 := eq_cl ha hb
  simp only [binOp, Op.floatCmp, ne_eq, not_true_eq_false, if_false, h1, h2, Sem.run_pure]
  congr 2
  by_cases h3 : b < a
  · rw [decide_eq_true h3, decide_eq_true (Nat.le_of_lt h3)]; rfl
  · by_cases h4 : a = b
    · rw [decide_eq_true h4, decide_eq_true (Nat.le_of_eq h4.symm), Bool.or_true]
    · rw [decide_eq_false h3, decide_eq_false h4, decide_eq_false (by omega)]; rfl
theorem le_run (t : TypeId) (u : World) : (binOp .leq t (.float .f64 a) (.float .f64 b)).run Tryd.prog u = .ok (.bool (decide (a ≤ b))) u := by
  have h1 := lt_cl ha hb
  have h2 := eq_cl ha hb
  simp only [binOp, Op.floatCmp, ne_eq, not_true_eq_false, if_false, h1, h2, Sem.run_pure]
  congr 2
  by_cases h3 : a < b
  · rw [decide_eq_true h3, decide_eq_true (Nat.le_of_lt h3)]; rfl
  · by_cases h4 : a = b
    · rw [decide_eq_true h4, decide_eq_true (Nat.le_of_eq h4), Bool.or_true]
    · rw [decide_eq_false h3, decide_eq_false h4, decide_eq_false (by omega)]; rfl
theorem gt_run (t : TypeId) (u : World) : (binOp .gtr t (.float .f64 a) (.float .f64 b)).run Tryd.prog u = .ok (.bool (decide (b < a))) u := by
  have h1 := gt_cl ha hb
  simp only [binOp, Op.floatCmp, ne_eq, not_true_eq_false, if_false, h1, Sem.run_pure]
end
theorem ne_run {a : Nat} (ha : a ≤ INFB) (t : TypeId) (u : World) : (binOp .neq t (.float .f64 a) (.float .f64 a)).run Tryd.prog u = .ok (.bool false) u := by
  have h1 : (FloatKind.f64.format.order a a != some .eq) = false := (nan_self (clean_of ha)).trans (nan_clean ha)
  simp only [binOp, Op.floatCmp, ne_eq, not_true_eq_false, if_false, h1, Sem.run_pure]
theorem add_run {a b : Nat} (ha : a ≤ INFB) (hb : b ≤ INFB) (t : TypeId) (u : World) : (binOp .add t (.float .f64 a) (.float .f64 b)).run Tryd.prog u = .ok (.float .f64 (smM a b)) u := run_float_arith u .add t .f64 _ _ _ (sm_ok a b ha hb).1
/-- An invalid operation: some NaN. -/
theorem nan_run {op : BinOp} {a b : Nat} (hop : op = .add ∨ op = .mul) (h : floatBits op .f64 a b = none) (t : TypeId) (u : World) : ∃ x u', (binOp op t (.float .f64 a) (.float .f64 b)).run Tryd.prog u = .ok (.float .f64 x) u' ∧ Kept Nil u u' ∧ Ieee.double.read x = .nan (negF x) (x % SG - INFB) := by
  refine ⟨(Question.nanBits .f64 a b).cut (u.tape u.drawn (.nanBits .f64 a b)), u.drew, ?_, ⟨rfl, rfl, rfl, Nat.le_refl _, fun _ _ _ => rfl⟩, ?_⟩
  · rcases hop with rfl | rfl
    · have h' : FloatKind.f64.format.add a b = none := h
      simp [binOp, Op.floatArith, h', Question.forced]
    · have h' : FloatKind.f64.format.mul a b = none := h
      simp [binOp, Op.floatArith, h', Question.forced]
  · refine read_nan _ ?_
    clear h
    obtain ⟨q, hq⟩ : ∃ q, u.tape u.drawn (.nanBits .f64 a b) = q := ⟨_, rfl⟩
    rw [hq]
    show INFB < ((q % 2) * 2 ^ 63 + 0x7ff0000000000000 + 1 + (q / 2) % (2 ^ 52 - 1)) % SG
    have h1 : q / 2 % (2 ^ 52 - 1) < 2 ^ 52 - 1 := Nat.mod_lt _ (by decide)
    have h2 : INFB + 1 + (2 ^ 52 - 1) < SG + 1 := by decide
    rw [show (2 : Nat) ^ 63 = SG from rfl, show (0x7ff0000000000000 : Nat) = INFB from rfl]
    generalize q / 2 % (2 ^ 52 - 1) = z at *
    generalize (2 : Nat) ^ 52 - 1 = y at *
    generalize q % 2 = s
    generalize INFB = I at *
    rw [show s * SG + I + 1 + z = I + 1 + z + s * SG by omega, Nat.add_mul_mod_self_right, Nat.mod_eq_of_lt (by omega)]
    omega
theorem wpList_bin {P : Program} {w : World} {ops : Array Oper} {rest : List Oper} {o : Oper} {a : Act} {Q : Exit → Act → World → Prop} (hgd : Region.wanted o (yielded ops a.tmps) = true) (op : BinOp) (t t' : TypeId) (p q : Operand) (ho : o.op = .binOp op t p q t') (pv qv : Value) (hp : a.eval p = pv) (hq : a.eval q = qv)
    (v : Value) (w1 : World) (hr : ((do eqGuard op t p q pv qv; binOp op t pv qv) : Sem Value).run P w = .ok v w1) (h : wpList P ops Q rest (a.put o.dst v) w1) : wpList P ops Q (o :: rest) a w := by
  refine BigFrame.wpList_want hgd fun K hK => ?_
  unfold Oper.wp execOp
  simp only [Sem.run_bind] at hr
  simp only [ho, hp, hq, Sem.run_bind, Sem.run_pure]
  cases hg : (eqGuard op t p q pv qv).run P w with
  | ok x u =>
    rw [hg] at hr
    simp only [Result.andThen_ok] at hr ⊢
    rw [hr]
    exact hK _ _ h
  | halt y u =>
    rw [hg] at hr
    cases hr
theorem guard_run {P : Program} (op : BinOp) (hop : op = .add ∨ op = .mul) (t : TypeId) (p q : Operand) (v v' : Value) (u : World) : ((do eqGuard op t p q v v'; binOp op t v v') : Sem Value).run P u = (binOp op t v v').run P u := by
  rcases hop with rfl | rfl <;> simp [eqGuard]
/-- A product of a finite one with nothing. -/
theorem mul_zero_ok {r : Nat} (hr : r < INFB) : ∃ s, Ieee.double.mul r 0 = some s ∧ s ≤ INFB := by
  unfold Ieee.Format.mul
  rw [read_fin r hr, read_fin 0 (by decide)]
  exact ⟨_, rfl, nearest_le _ _⟩
theorem tk_zero : tkF 0 = 0 := by rw [tkF_is, near_zero]
theorem cv_run (M : Nat) (u : World) : (convert 2 24 (.int .i64 (M : Int))).run Tryd.prog u = .ok (.float .f64 (tkF M)) u := run_convert_int_float (P := Tryd.prog) (w := u) 2 24 .i64 .f64 (M : Int) (by kernel_rfl) (by kernel_rfl)
theorem inf_zero : floatBits .mul .f64 INFB 0 = none := by decide +kernel
theorem add_nan {a x : Nat} (h : Ieee.double.read x = .nan (negF x) (x % SG - INFB)) : floatBits .add .f64 a x = none := by
  show Ieee.double.add a x = none
  unfold Ieee.Format.add
  rw [h]
  cases Ieee.double.read a <;> rfl
end Go.Proofs.YtiehmpiaddjhiaaDoor
