/- What a row's listed variables say of the tables that a rate's text reads, and of the law's own inf. -/
import Derived.Test.YthjfeanmgaidcaaDoorMg24
import Derived.Test.YthjfeanmgaidcaaDoorRows
import Derived.LaidSub
import Derived.LaidLaws
import Derived.FnData
import Derived.Shelf.Vars
import Derived.ChangeSame
import Derived.OpenShut
namespace Go.Proofs.YthjfeanmgaidcaaDoor
open Go Go.RowKit
set_option linter.unusedVariables false

theorem trod_f64 {H : Type} {enc : TypeId × Value → H} {P : Program} {w : World} {base : Nat} {sp : Nat → Bool} {held : Bool} {fuel : Nat} {t : TypeId} {cs : List Value} {n : Nat} {p : List MemPlace} (ht : P.underlying t = some (.float .f64)) (h : DataW.trod enc P w base sp held fuel t cs = some (.lit (.float .f64 n), p)) : cs = [.float .f64 n] := by
  cases fuel with
  | zero => simp [DataW.trod] at h
  | succ m =>
    unfold DataW.trod at h
    rw [ht] at h
    split at h <;> simp_all
theorem pair_of {H : Type} {enc : TypeId × Value → H} {P : Program} {w : World} {base : Nat} {sp : Nat → Bool} {held : Bool} {fuel : Nat} {t t1 e : TypeId} {f0 f1 : Field} {cs : List Value} {n i : Nat} {zs : List (Nat × Nat)} {p : List MemPlace}
    (ht : P.underlying t = some (.array n t1)) (h1 : P.underlying t1 = some (.struct #[f0, f1])) (hc1 : P.cellsOf t1 = 2) (ho0 : f0.offset = 0) (ho1 : f1.offset = 1) (ht0 : f0.type = e) (ht1 : f1.type = e) (he : P.underlying e = some (.int .u64)) (hce : P.cellsOf e = 1)
    (h : DataW.trod enc P w base sp held fuel t cs = some (.agg (zs.map fun x => .agg [.lit (.int .u64 x.1), .lit (.int .u64 x.2)]), p)) (hi : i < n) (a b : Nat) (hz : zs[i]? = some (a, b)) : cs[2 * i]? = some (.int .u64 (a : Int)) ∧ cs[2 * i + 1]? = some (.int .u64 (b : Int)) := by
  obtain ⟨xs, m, _, hx, hl, hxs, hel⟩ := DataW.trod_array ht h
  have hx2 : xs.map (·.1) = zs.map fun x => (DataW.agg [.lit (.int .u64 x.1), .lit (.int .u64 x.2)] : DataW H) := by
    have := congrArg Prod.fst hx
    simpa using this.symm
  have hf := hel i hi
  rw [hc1, List.getElem?_eq_getElem (by omega)] at hf
  have hv : xs[i].1 = DataW.agg [.lit (.int .u64 (a : Int)), .lit (.int .u64 (b : Int))] := by
    have h2 : (xs.map (·.1))[i]? = some (DataW.agg [.lit (.int .u64 (a : Int)), .lit (.int .u64 (b : Int))] : DataW H) := by
      rw [hx2, List.getElem?_map, hz]; rfl
    rw [List.getElem?_map, List.getElem?_eq_getElem (by omega)] at h2
    exact Option.some.inj h2
  obtain ⟨y0, y1, k, hy, hlen, e0, e1⟩ := Go.ChangeShapes.trod_struct2 h1 hf
  rw [ho0, ht0, hce] at e0
  rw [ho1, ht1, hce] at e1
  have hy2 := congrArg Prod.fst hy
  rw [hv] at hy2
  simp only [DataW.agg.injEq, List.cons.injEq, and_true] at hy2
  obtain ⟨n0, c0, z0, _⟩ := DataW.trod_int he e0
  obtain ⟨n1, c1, z1, _⟩ := DataW.trod_int he e1
  rw [z0, z1] at hy2
  simp only [DataW.lit.injEq, Lit.int.injEq, true_and] at hy2
  obtain ⟨q0, q1⟩ := hy2
  subst q0 q1
  rw [hc1] at hlen
  have g0 := congrArg (fun l : List Value => l[0]?) c0
  have g1 := congrArg (fun l : List Value => l[0]?) c1
  simp [List.getElem?_take, List.getElem?_drop] at g0 g1
  rw [Nat.mul_comm 2 i]
  exact ⟨by simpa using g0, by simpa using g1⟩
def Gl (w : World) : Prop := GlR w
set_option maxRecDepth 100000 in
theorem gl_of {w : World} {l : List (String × DataW Unit)} (h : laidMetH Tryd.prog l w) (hsh : w.ShapedOpen Tryd.prog)
    (e1 : l.filter (fun x => x.1 == "internal/strconv.uint64pow10") = [("internal/strconv.uint64pow10", Rows.laid_internal_strconv_uint64pow10)])
    (e2 : l.filter (fun x => x.1 == "internal/strconv.pow10Tab") = [("internal/strconv.pow10Tab", Rows.laid_internal_strconv_pow10Tab)])
    (e3 : l.filter (fun x => x.1 == "toll/tolllaw11.inf") = [("toll/tolllaw11.inf", Rows.laid_toll_tolllaw11_inf)]) : Gl w := by
  have h1 := h.filter (fun x => x.1 == "internal/strconv.uint64pow10")
  have h2 := h.filter (fun x => x.1 == "internal/strconv.pow10Tab")
  have h3 := h.filter (fun x => x.1 == "toll/tolllaw11.inf")
  rw [e1] at h1
  rw [e2] at h2
  rw [e3] at h3
  have k1 : laidMet Tryd.prog [("internal/strconv.uint64pow10", Rows.laid_internal_strconv_uint64pow10)] w := h1
  have k2 : laidMet Tryd.prog [("internal/strconv.pow10Tab", Rows.laid_internal_strconv_pow10Tab)] w := h2
  have k3 : laidMet Tryd.prog [("toll/tolllaw11.inf", Rows.laid_toll_tolllaw11_inf)] w := h3
  have T : Lib.TabIs Tryd.prog w "internal/strconv.uint64pow10" .u64 Lib.pow10Tab := Lib.tabIs_of_head (g := 3) (t := 108) (e := 22) (n := 20) (by kernel_rfl) (by kernel_rfl) (by kernel_rfl) Tryd.underlying22 (by kernel_rfl) (by kernel_rfl) k1
  have hP : ∀ (i a b : Nat), i < 696 → Go.Pinned.pow10Rows[i]? = some (a, b) → w.cell? ⟨4, 2 * i, none⟩ = some (.int .u64 (a : Int)) ∧ w.cell? ⟨4, 2 * i + 1, none⟩ = some (.int .u64 (b : Int)) := by
    intro i a b hi hz
    obtain ⟨ps, ⟨g', t', cs, fuel, p, q, hg', ht', hvar, hd, _, _⟩, _⟩ := k2
    obtain rfl := Option.some.inj ((show Tryd.prog.globalNamed "internal/strconv.pow10Tab" = some 4 by kernel_rfl).symm.trans hg')
    obtain rfl := Option.some.inj ((show (Tryd.prog.globals[4]?).map (·.type) = some 118 by kernel_rfl).symm.trans ht')
    obtain ⟨c0, c1⟩ := pair_of (zs := Go.Pinned.pow10Rows) Tryd.underlying118 Tryd.underlying117 (by kernel_rfl) rfl rfl rfl rfl Tryd.underlying22 (by kernel_rfl) hd hi a b hz
    have v0 := World.var?_cell (show Tryd.prog.globalNamed "internal/strconv.pow10Tab" = some 4 by kernel_rfl) hvar (2 * i)
    have v1 := World.var?_cell (show Tryd.prog.globalNamed "internal/strconv.pow10Tab" = some 4 by kernel_rfl) hvar (2 * i + 1)
    refine ⟨?_, ?_⟩
    · rw [v0]; simpa using c0
    · rw [v1]; simpa using c1
  have hI : w.cell? ⟨1, 0, none⟩ = some (.float .f64 9218868437227405312) := by
    obtain ⟨ps, ⟨g', t', cs, fuel, p, q, hg', ht', hvar, hd, _, _⟩, _⟩ := k3
    obtain rfl := Option.some.inj ((show Tryd.prog.globalNamed "toll/tolllaw11.inf" = some 1 by kernel_rfl).symm.trans hg')
    obtain rfl := Option.some.inj ((show (Tryd.prog.globals[1]?).map (·.type) = some 24 by kernel_rfl).symm.trans ht')
    have hcs := trod_f64 Tryd.underlying24 hd
    have v0 := World.var?_cell (show Tryd.prog.globalNamed "toll/tolllaw11.inf" = some 1 by kernel_rfl) hvar 0
    have h0 : cs.toList[0]? = some (.float .f64 9218868437227405312) := by rw [hcs]; rfl
    rw [v0]
    simpa using h0
  exact show GlR w from ⟨⟨T, hP 365 12800000000000000000 0 (by decide) (by decide +kernel), hP 343 12089258196146291748 17307473159717249708 (by decide) (by decide +kernel)⟩, hI⟩
end Go.Proofs.YthjfeanmgaidcaaDoor
