/- Texts that belong together, one behind the other: RaGl, RaNm. Conditions: those of each. -/
import Derived.Test.YtiehmpiaddjhiaaDoorMg24
import Derived.Test.YtiehmpiaddjhiaaDoorRows
import Derived.LaidSub
import Derived.LaidLaws
import Derived.FnData
import Derived.Shelf.Vars
import Derived.ChangeSame
import Derived.OpenShut
import Derived.Test.YtiehmpiaddjhiaaDoorMg9
/- What a row's listed variables say of the tables that a rate's text reads, and of the law's own inf. -/
namespace Go.Proofs.YtiehmpiaddjhiaaDoor
open Go Go.RowKit
set_option linter.unusedVariables false

theorem trod_f64 {H : Type} {enc : TypeId × Value → H} {P : Program} {w : World} {base : Nat} {sp : Nat → Bool} {held : Bool} {fuel : Nat} {t : TypeId} {cs : List Value} {n : Nat} {p : List MemPlace} (ht : P.underlying t = some (.float .f64)) (h : DataW.trod enc P w base sp held fuel t cs = some (.lit (.float .f64 n), p)) : cs = [.float .f64 n] := by
  cases fuel with
  | zero => simp [DataW.trod] at h
  | succ m =>
    unfold DataW.trod at h
    rw [ht] at h
    split at h <;> simp_all
theorem pair_of {H : Type} {enc : TypeId × Value → H} {P : Program} {w : World} {base : Nat} {sp : Nat → Bool} {held : Bool} {fuel : Nat} {t t1 e : TypeId} {f0 f1 : Field} {cs : List Value} {n i : Nat} {zs : List (Nat × Nat)} {p : List MemPlace}
    (ht : P.underlying t = some (.array n t1)) (h1 : P.underlying t1 = some (.struct #[f0, f1])) (hc1 : P.cellsOf t1 = 2) (ho0 : f0.offset = 0) (ho1 : f1.offset = 1) (ht0 : f0.type = e) (ht1 : f1.type = e) (he : P.underlying e = some (.int .u64)) (hce : P.cellsOf e = 1)
    (h : DataW.trod enc P w base sp held fuel t cs = some (.agg (zs.map fun x => .agg [.lit (.int .u64 x.1), .lit (.int .u64 x.2)]), p)) (hi : i < n) (a b : Nat) (hz : zs[i]? = some (a, b)) : cs[2 * i]? = some (.int .u64 (a : Int)) ∧ cs[2 * i + 1]? = some (.int .u64 (b : Int)) := by
  obtain ⟨xs, m, _, hx, hl, hxs, hel⟩ := DataW.trod_array ht h
  have hx2 : xs.map (·.1) = zs.map fun x => (DataW.agg [.lit (.int .u64 x.1), .lit (.int .u64 x.2)] : DataW H) := by
    have := congrArg Prod.fst hx
    simpa using this.symm
  have hf := hel i hi
  rw [hc1, List.getElem?_eq_getElem (by omega)] at hf
  have hv : xs[i].1 = DataW.agg [.lit (.int .u64 (a : Int)), .lit (.int .u64 (b : Int))] := by
    have h2 : (xs.map (·.1))[i]? = some (DataW.agg [.lit (.int .u64 (a : Int)), .lit (.int .u64 (b : Int))] : DataW H) := by
      rw [hx2, List.getElem?_map, hz]; rfl
    rw [List.getElem?_map, List.getElem?_eq_getElem (by omega)] at h2
    exact Option.some.inj h2
  obtain ⟨y0, y1, k, hy, hlen, e0, e1⟩ := Go.ChangeShapes.trod_struct2 h1 hf
  rw [ho0, ht0, hce] at e0
  rw [ho1, ht1, hce] at e1
  have hy2 := congrArg Prod.fst hy
  rw [hv] at hy2
  simp only [DataW.agg.injEq, List.cons.injEq, and_true] at hy2
  obtain ⟨n0, c0, z0, _⟩ := DataW.trod_int he e0
  obtain ⟨n1, c1, z1, _⟩ := DataW.trod_int he e1
  rw [z0, z1] at hy2
  simp only [DataW.lit.injEq, Lit.int.injEq, true_and] at hy2
  obtain ⟨q0, q1⟩ := hy2
  subst q0 q1
  rw [hc1] at hlen
  have g0 := congrArg (fun l : List Value => l[0]?) c0
  have g1 := congrArg (fun l : List Value => l[0]?) c1
  simp [List.getElem?_take, List.getElem?_drop] at g0 g1
  rw [Nat.mul_comm 2 i]
  exact ⟨by simpa using g0, by simpa using g1⟩
def Gl (w : World) : Prop := GlR w
set_option maxRecDepth 100000 in
theorem gl_of {w : World} {l : List (String × DataW Unit)} (h : laidMetH Tryd.prog l w) (hsh : w.ShapedOpen Tryd.prog)
    (e1 : l.filter (fun x => x.1 == "internal/strconv.uint64pow10") = [("internal/strconv.uint64pow10", Rows.laid_internal_strconv_uint64pow10)])
    (e2 : l.filter (fun x => x.1 == "internal/strconv.pow10Tab") = [("internal/strconv.pow10Tab", Rows.laid_internal_strconv_pow10Tab)])
    (e3 : l.filter (fun x => x.1 == "toll/tolllaw11.inf") = [("toll/tolllaw11.inf", Rows.laid_toll_tolllaw11_inf)]) : Gl w := by
  have h1 := h.filter (fun x => x.1 == "internal/strconv.uint64pow10")
  have h2 := h.filter (fun x => x.1 == "internal/strconv.pow10Tab")
  have h3 := h.filter (fun x => x.1 == "toll/tolllaw11.inf")
  rw [e1] at h1
  rw [e2] at h2
  rw [e3] at h3
  have k1 : laidMet Tryd.prog [("internal/strconv.uint64pow10", Rows.laid_internal_strconv_uint64pow10)] w := h1
  have k2 : laidMet Tryd.prog [("internal/strconv.pow10Tab", Rows.laid_internal_strconv_pow10Tab)] w := h2
  have k3 : laidMet Tryd.prog [("toll/tolllaw11.inf", Rows.laid_toll_tolllaw11_inf)] w := h3
  have T : Lib.TabIs Tryd.prog w "internal/strconv.uint64pow10" .u64 Lib.pow10Tab := Lib.tabIs_of_head (g := 3) (t := 105) (e := 22) (n := 20) (by kernel_rfl) (by kernel_rfl) (by kernel_rfl) Tryd.underlying22 (by kernel_rfl) (by kernel_rfl) k1
  have hP : ∀ (i a b : Nat), i < 696 → Go.Pinned.pow10Rows[i]? = some (a, b) → w.cell? ⟨4, 2 * i, none⟩ = some (.int .u64 (a : Int)) ∧ w.cell? ⟨4, 2 * i + 1, none⟩ = some (.int .u64 (b : Int)) := by
    intro i a b hi hz
    obtain ⟨ps, ⟨g', t', cs, fuel, p, q, hg', ht', hvar, hd, _, _⟩, _⟩ := k2
    obtain rfl := Option.some.inj ((show Tryd.prog.globalNamed "internal/strconv.pow10Tab" = some 4 by kernel_rfl).symm.trans hg')
    obtain rfl := Option.some.inj ((show (Tryd.prog.globals[4]?).map (·.type) = some 115 by kernel_rfl).symm.trans ht')
    obtain ⟨c0, c1⟩ := pair_of (zs := Go.Pinned.pow10Rows) Tryd.underlying115 Tryd.underlying114 (by kernel_rfl) rfl rfl rfl rfl Tryd.underlying22 (by kernel_rfl) hd hi a b hz
    have v0 := World.var?_cell (show Tryd.prog.globalNamed "internal/strconv.pow10Tab" = some 4 by kernel_rfl) hvar (2 * i)
    have v1 := World.var?_cell (show Tryd.prog.globalNamed "internal/strconv.pow10Tab" = some 4 by kernel_rfl) hvar (2 * i + 1)
    refine ⟨?_, ?_⟩
    · rw [v0]; simpa using c0
    · rw [v1]; simpa using c1
  have hI : w.cell? ⟨1, 0, none⟩ = some (.float .f64 9218868437227405312) := by
    obtain ⟨ps, ⟨g', t', cs, fuel, p, q, hg', ht', hvar, hd, _, _⟩, _⟩ := k3
    obtain rfl := Option.some.inj ((show Tryd.prog.globalNamed "toll/tolllaw11.inf" = some 1 by kernel_rfl).symm.trans hg')
    obtain rfl := Option.some.inj ((show (Tryd.prog.globals[1]?).map (·.type) = some 24 by kernel_rfl).symm.trans ht')
    have hcs := trod_f64 Tryd.underlying24 hd
    have v0 := World.var?_cell (show Tryd.prog.globalNamed "toll/tolllaw11.inf" = some 1 by kernel_rfl) hvar 0
    have h0 : cs.toList[0]? = some (.float .f64 9218868437227405312) := by rw [hcs]; rfl
    rw [v0]
    simpa using h0
  exact show GlR w from ⟨⟨T, hP 365 12800000000000000000 0 (by decide) (by decide +kernel), hP 343 12089258196146291748 17307473159717249708 (by decide) (by decide +kernel)⟩, hI⟩
end Go.Proofs.YtiehmpiaddjhiaaDoor
/- Float64: the nearest word goes up with the value. Plain. -/
namespace Go.Proofs.YtiehmpiaddjhiaaDoor
open Go
set_option linter.unusedVariables false

/-- n / 2 ^ d to the nearest, between two the even one. -/
def rne (n d : Nat) : Nat := n / 2 ^ d + (decide (2 ^ d < 2 * (n % 2 ^ d)) || (decide (2 ^ d = 2 * (n % 2 ^ d)) && decide (n / 2 ^ d % 2 = 1))).toNat
theorem rne_gap (n g : Nat) (h : 2 * n < g) : n / g + (decide (g < 2 * (n % g)) || (g == 2 * (n % g) && n / g % 2 == 1)).toNat = 0 := by
  have h1 : n / g = 0 := Nat.div_eq_of_lt (by omega)
  have h2 : n % g = n := Nat.mod_eq_of_lt (by omega)
  rw [h1, h2, decide_eq_false (by omega), show ((0 : Nat) % 2 == 1) = false from rfl, Bool.and_false]
  rfl
theorem cut_rne (n d : Nat) : Ieee.Toward.even.cut false n d = rne n d := by
  unfold Ieee.Toward.cut rne
  dsimp only
  rw [Nat.shiftLeft_eq, Nat.one_mul]
  have e : ∀ g : Nat, (g == 2 * (n % g) && n / g % 2 == 1) = (decide (g = 2 * (n % g)) && decide (n / g % 2 = 1)) := fun g => rfl
  rcases Nat.lt_or_ge (n.log2 + 2) d with h | h
  · rw [Nat.min_eq_right (by omega)]
    have hl := Nat.lt_log2_self (n := n)
    have h2 : 2 * n < 2 ^ (n.log2 + 2) := by
      rw [Nat.pow_succ]
      omega
    have h3 : 2 ^ (n.log2 + 2) ≤ 2 ^ d := Nat.pow_le_pow_right (by decide) (by omega)
    rw [rne_gap n _ h2, ← e, rne_gap n (2 ^ d) (by omega)]
  · rw [Nat.min_eq_left h, e]
theorem rne_mono (n k d : Nat) (h : n ≤ k) : rne n d ≤ rne k d := by
  unfold rne
  have hg : 0 < 2 ^ d := Nat.pow_pos (by decide)
  generalize 2 ^ d = g at *
  have hq : n / g ≤ k / g := Nat.div_le_div_right h
  have h1 := Nat.div_add_mod n g
  have h2 := Nat.div_add_mod k g
  rcases Nat.lt_or_ge (n / g) (k / g) with hlt | hge
  · have := Bool.toNat_le (decide (g < 2 * (n % g)) || (decide (g = 2 * (n % g)) && decide (n / g % 2 = 1)))
    omega
  · have he : n / g = k / g := Nat.le_antisymm hq hge
    rw [he] at h1 ⊢
    have hr : n % g ≤ k % g := by omega
    generalize n % g = r at *
    generalize k % g = s at *
    refine Nat.add_le_add_left ?_ _
    by_cases a1 : g < 2 * s
    · rw [decide_eq_true a1, Bool.true_or]
      exact Bool.toNat_le _
    · have a2 : ¬ g < 2 * r := by omega
      rw [decide_eq_false a1, decide_eq_false a2, Bool.false_or, Bool.false_or]
      by_cases b1 : g = 2 * r
      · rw [decide_eq_true b1, decide_eq_true (show g = 2 * s by omega)]
        exact Nat.le_refl _
      · rw [decide_eq_false b1, Bool.false_and]
        exact Nat.zero_le _
theorem rne_scale (n d k : Nat) : rne (n * 2 ^ k) (d + k) = rne n d := by
  unfold rne
  have hk : 0 < 2 ^ k := Nat.pow_pos (by decide)
  rw [Nat.pow_add]
  generalize 2 ^ k = K at *
  generalize 2 ^ d = g
  rw [Nat.mul_div_mul_right _ _ hk, Nat.mul_mod_mul_right]
  have c1 : (g * K < 2 * (n % g * K)) ↔ (g < 2 * (n % g)) := by
    rw [← Nat.mul_assoc]
    exact Nat.mul_lt_mul_right hk
  have c2 : (g * K = 2 * (n % g * K)) ↔ (g = 2 * (n % g)) := by
    rw [← Nat.mul_assoc]
    exact ⟨fun h => Nat.eq_of_mul_eq_mul_right hk h, fun h => by rw [← h]⟩
  rw [decide_eq_decide.2 c1, decide_eq_decide.2 c2]
theorem rne_le (n d j : Nat) (h : n < 2 ^ (d + j)) : rne n d ≤ 2 ^ j := by
  unfold rne
  rw [Nat.pow_add] at h
  have h1 : n / 2 ^ d < 2 ^ j := Nat.div_lt_of_lt_mul h
  have := Bool.toNat_le (decide (2 ^ d < 2 * (n % 2 ^ d)) || (decide (2 ^ d = 2 * (n % 2 ^ d)) && decide (n / 2 ^ d % 2 = 1)))
  omega
theorem rne_ge (n d j : Nat) (h : 2 ^ (d + j) ≤ n) : 2 ^ j ≤ rne n d := by
  unfold rne
  refine Nat.le_trans ?_ (Nat.le_add_right _ _)
  rw [Nat.le_div_iff_mul_le (Nat.pow_pos (by decide)), Nat.mul_comm, ← Nat.pow_add]
  exact h
/-- The rung of M units, 2 ^ u of which are the least place. -/
def nr (u M : Nat) : Nat := (M.log2 - (52 + u)) * 2 ^ 52 + rne M (M.log2 - (52 + u) + u)
theorem nr_mono (u M K : Nat) (h0 : 0 < M) (h : M ≤ K) : nr u M ≤ nr u K := by
  unfold nr
  have hl : M.log2 ≤ K.log2 := (Nat.le_log2 (by omega)).2 (Nat.le_trans (Nat.log2_self_le (by omega)) h)
  have hM := Nat.lt_log2_self (n := M)
  have hK := Nat.log2_self_le (n := K) (by omega)
  obtain ⟨A, hA⟩ : ∃ x, M.log2 - (52 + u) = x := ⟨_, rfl⟩
  obtain ⟨B, hB⟩ : ∃ x, K.log2 - (52 + u) = x := ⟨_, rfl⟩
  rw [hA, hB]
  rcases Nat.lt_or_ge A B with hlt | hge
  · have r1 : rne M (A + u) ≤ 2 ^ 53 := rne_le _ _ _ (Nat.lt_of_lt_of_le hM (Nat.pow_le_pow_right (by decide) (by omega)))
    have r2 : 2 ^ 52 ≤ rne K (B + u) := rne_ge _ _ _ (Nat.le_trans (Nat.pow_le_pow_right (by decide) (by omega)) hK)
    have r3 : (A + 1) * 2 ^ 52 ≤ B * 2 ^ 52 := Nat.mul_le_mul_right _ hlt
    have r4 : (2 : Nat) ^ 53 = 2 ^ 52 + 2 ^ 52 := by decide
    rw [Nat.add_mul, Nat.one_mul] at r3
    rw [r4] at r1
    generalize (2 : Nat) ^ 52 = P at *
    omega
  · have he : A = B := by omega
    rw [he]
    exact Nat.add_le_add_left (rne_mono _ _ _ h) _
theorem BIN_pow : BIN = 2 ^ 52 := rfl
theorem near_nr (m : Nat) (e : Int) (u : Nat) (h0 : 0 < m) (hu : 0 ≤ e + 1074 + (u : Int)) : Ieee.double.nearest false m e = min (nr u (m * 2 ^ (e + 1074 + (u : Int)).toNat)) INFB := by
  unfold Ieee.Format.nearest
  rw [if_neg (Nat.ne_of_gt h0)]
  dsimp only
  rw [dbl_inf, dbl_bin, lp_is, word_is, show Ieee.double.fractionBits = 52 from rfl, cut_rne]
  obtain ⟨t, ht⟩ : ∃ t : Nat, e + 1074 + (u : Int) = (t : Int) := ⟨(e + 1074 + (u : Int)).toNat, by omega⟩
  rw [ht, Int.toNat_natCast]
  have hlog : (m * 2 ^ t).log2 = m.log2 + t := by
    have hp : 0 < 2 ^ t := Nat.pow_pos (by decide)
    refine (Nat.log2_eq_iff (Nat.ne_of_gt (Nat.mul_pos h0 hp))).2 ⟨?_, ?_⟩
    · rw [Nat.pow_add]
      exact Nat.mul_le_mul_right _ (Nat.log2_self_le (by omega))
    · rw [show m.log2 + t + 1 = m.log2 + 1 + t by omega, Nat.pow_add]
      exact (Nat.mul_lt_mul_right hp).2 Nat.lt_log2_self
  rw [BIN_pow]
  obtain ⟨A, hA⟩ : ∃ x, m.log2 + t - (52 + u) = x := ⟨_, rfl⟩
  have e1 : max (e + (m.log2 : Int) - ((52 : Nat) : Int)) (-1074) = (A : Int) - 1074 := by omega
  unfold nr
  rw [e1, hlog, hA, show ((A : Int) - 1074 - -1074).toNat = A by omega]
  have key : rne (m <<< (e - ((A : Int) - 1074)).toNat) (((A : Int) - 1074) - e).toNat = rne (m * 2 ^ t) (A + u) := by
    rcases Nat.lt_or_ge t (A + u) with h | h
    · rw [show (e - ((A : Int) - 1074)).toNat = 0 by omega, show ((A : Int) - 1074 - e).toNat = A + u - t by omega, Nat.shiftLeft_zero]
      have := rne_scale m (A + u - t) t
      rw [show A + u - t + t = A + u by omega] at this
      exact this.symm
    · rw [show (e - ((A : Int) - 1074)).toNat = t - (A + u) by omega, show ((A : Int) - 1074 - e).toNat = 0 by omega, Nat.shiftLeft_eq]
      have := rne_scale (m * 2 ^ (t - (A + u))) 0 (A + u)
      rw [Nat.mul_assoc, ← Nat.pow_add, show t - (A + u) + (A + u) = t by omega, Nat.zero_add] at this
      exact this.symm
  rw [key]
/-- **The nearest word goes up with the value.** -/
theorem near_mono (m k : Nat) (e f : Int) (u : Nat) (he : 0 ≤ e + 1074 + (u : Int)) (hf : 0 ≤ f + 1074 + (u : Int)) (h : m * 2 ^ (e + 1074 + (u : Int)).toNat ≤ k * 2 ^ (f + 1074 + (u : Int)).toNat) : Ieee.double.nearest false m e ≤ Ieee.double.nearest false k f := by
  rcases Nat.eq_zero_or_pos m with h0 | h0
  · subst h0
    have : Ieee.double.nearest false 0 e = 0 := by
      unfold Ieee.Format.nearest
      rw [if_pos rfl, word_is]
    rw [this]
    exact Nat.zero_le _
  · have hp : 0 < m * 2 ^ (e + 1074 + (u : Int)).toNat := Nat.mul_pos h0 (Nat.pow_pos (by decide))
    have hk : 0 < k := by
      rcases Nat.eq_zero_or_pos k with h1 | h1
      · subst h1
        rw [Nat.zero_mul] at h
        exact absurd hp (Nat.not_lt_of_le h)
      · exact h1
    rw [near_nr m e u h0 he, near_nr k f u hk hf]
    exact Nat.le_min.2 ⟨Nat.le_trans (Nat.min_le_left _ _) (nr_mono u _ _ hp h), Nat.min_le_right _ _⟩
end Go.Proofs.YtiehmpiaddjhiaaDoor
