/- Texts that belong together, one behind the other: RaNm, Mem2. Conditions: those of each. -/
import Derived.Test.YtiehmpiaddjhiaaDoorMg2
import Derived.Test.YtiehmpiaddjhiaaDoorMg0
import Derived.Maps.AppendAt
import Derived.RegionTactic
/- Float64: the nearest word goes up with the value. Plain. -/
namespace Go.Proofs.YtiehmpiaddjhiaaDoor
open Go
set_option linter.unusedVariables false

/-- n / 2 ^ d to the nearest, between two the even one. -/
def rne (n d : Nat) : Nat := n / 2 ^ d + (decide (2 ^ d < 2 * (n % 2 ^ d)) || (decide (2 ^ d = 2 * (n % 2 ^ d)) && decide (n / 2 ^ d % 2 = 1))).toNat
theorem rne_gap (n g : Nat) (h : 2 * n < g) : n / g + (decide (g < 2 * (n % g)) || (g == 2 * (n % g) && n / g % 2 == 1)).toNat = 0 := by
  have h1 : n / g = 0 := Nat.div_eq_of_lt (by omega)
  have h2 : n % g = n := Nat.mod_eq_of_lt (by omega)
  rw [h1, h2, decide_eq_false (by omega), show ((0 : Nat) % 2 == 1) = false from rfl, Bool.and_false]
  rfl
theorem cut_rne (n d : Nat) : Ieee.Toward.even.cut false n d = rne n d := by
  unfold Ieee.Toward.cut rne
  dsimp only
  rw [Nat.shiftLeft_eq, Nat.one_mul]
  have e : ∀ g : Nat, (g == 2 * (n % g) && n / g % 2 == 1) = (decide (g = 2 * (n % g)) && decide (n / g % 2 = 1)) := fun g => rfl
  rcases Nat.lt_or_ge (n.log2 + 2) d with h | h
  · rw [Nat.min_eq_right (by omega)]
    have hl := Nat.lt_log2_self (n := n)
    have h2 : 2 * n < 2 ^ (n.log2 + 2) := by
      rw [Nat.pow_succ]
      omega
    have h3 : 2 ^ (n.log2 + 2) ≤ 2 ^ d := Nat.pow_le_pow_right (by decide) (by omega)
    rw [rne_gap n _ h2, ← e, rne_gap n (2 ^ d) (by omega)]
  · rw [Nat.min_eq_left h, e]
theorem rne_mono (n k d : Nat) (h : n ≤ k) : rne n d ≤ rne k d := by
  unfold rne
  have hg : 0 < 2 ^ d := Nat.pow_pos (by decide)
  generalize 2 ^ d = g at *
  have hq : n / g ≤ k / g := Nat.div_le_div_right h
  have h1 := Nat.div_add_mod n g
  have h2 := Nat.div_add_mod k g
  rcases Nat.lt_or_ge (n / g) (k / g) with hlt | hge
  · have := Bool.toNat_le (decide (g < 2 * (n % g)) || (decide (g = 2 * (n % g)) && decide (n / g % 2 = 1)))
    omega
  · have he : n / g = k / g := Nat.le_antisymm hq hge
    rw [he] at h1 ⊢
    have hr : n % g ≤ k % g := by omega
    generalize n % g = r at *
    generalize k % g = s at *
    refine Nat.add_le_add_left ?_ _
    by_cases a1 : g < 2 * s
    · rw [decide_eq_true a1, Bool.true_or]
      exact Bool.toNat_le _
    · have a2 : ¬ g < 2 * r := by omega
      rw [decide_eq_false a1, decide_eq_false a2, Bool.false_or, Bool.false_or]
      by_cases b1 : g = 2 * r
      · rw [decide_eq_true b1, decide_eq_true (show g = 2 * s by omega)]
        exact Nat.le_refl _
      · rw [decide_eq_false b1, Bool.false_and]
        exact Nat.zero_le _
theorem rne_scale (n d k : Nat) : rne (n * 2 ^ k) (d + k) = rne n d := by
  unfold rne
  have hk : 0 < 2 ^ k := Nat.pow_pos (by decide)
  rw [Nat.pow_add]
  generalize 2 ^ k = K at *
  generalize 2 ^ d = g
  rw [Nat.mul_div_mul_right _ _ hk, Nat.mul_mod_mul_right]
  have c1 : (g * K < 2 * (n % g * K)) ↔ (g < 2 * (n % g)) := by
    rw [← Nat.mul_assoc]
    exact Nat.mul_lt_mul_right hk
  have c2 : (g * K = 2 * (n % g * K)) ↔ (g = 2 * (n % g)) := by
    rw [← Nat.mul_assoc]
    exact ⟨fun h => Nat.eq_of_mul_eq_mul_right hk h, fun h => by rw [← h]⟩
  rw [decide_eq_decide.2 c1, decide_eq_decide.2 c2]
theorem rne_le (n d j : Nat) (h : n < 2 ^ (d + j)) : rne n d ≤ 2 ^ j := by
  unfold rne
  rw [Nat.pow_add] at h
  have h1 : n / 2 ^ d < 2 ^ j := Nat.div_lt_of_lt_mul h
  have := Bool.toNat_le (decide (2 ^ d < 2 * (n % 2 ^ d)) || (decide (2 ^ d = 2 * (n % 2 ^ d)) && decide (n / 2 ^ d % 2 = 1)))
  omega
theorem rne_ge (n d j : Nat) (h : 2 ^ (d + j) ≤ n) : 2 ^ j ≤ rne n d := by
  unfold rne
  refine Nat.le_trans ?_ (Nat.le_add_right _ _)
  rw [Nat.le_div_iff_mul_le (Nat.pow_pos (by decide)), Nat.mul_comm, ← Nat.pow_add]
  exact h
/-- The rung of M units, 2 ^ u of which are the least place. -/
def nr (u M : Nat) : Nat := (M.log2 - (52 + u)) * 2 ^ 52 + rne M (M.log2 - (52 + u) + u)
theorem nr_mono (u M K : Nat) (h0 : 0 < M) (h : M ≤ K) : nr u M ≤ nr u K := by
  unfold nr
  have hl : M.log2 ≤ K.log2 := (Nat.le_log2 (by omega)).2 (Nat.le_trans (Nat.log2_self_le (by omega)) h)
  have hM := Nat.lt_log2_self (n := M)
  have hK := Nat.log2_self_le (n := K) (by omega)
  obtain ⟨A, hA⟩ : ∃ x, M.log2 - (52 + u) = x := ⟨_, rfl⟩
  obtain ⟨B, hB⟩ : ∃ x, K.log2 - (52 + u) = x := ⟨_, rfl⟩
  rw [hA, hB]
  rcases Nat.lt_or_ge A B with hlt | hge
  · have r1 : rne M (A + u) ≤ 2 ^ 53 := rne_le _ _ _ (Nat.lt_of_lt_of_le hM (Nat.pow_le_pow_right (by decide) (by omega)))
    have r2 : 2 ^ 52 ≤ rne K (B + u) := rne_ge _ _ _ (Nat.le_trans (Nat.pow_le_pow_right (by decide) (by omega)) hK)
    have r3 : (A + 1) * 2 ^ 52 ≤ B * 2 ^ 52 := Nat.mul_le_mul_right _ hlt
    have r4 : (2 : Nat) ^ 53 = 2 ^ 52 + 2 ^ 52 := by decide
    rw [Nat.add_mul, Nat.one_mul] at r3
    rw [r4] at r1
    generalize (2 : Nat) ^ 52 = P at *
    omega
  · have he : A = B := by omega
    rw [he]
    exact Nat.add_le_add_left (rne_mono _ _ _ h) _
theorem BIN_pow : BIN = 2 ^ 52 := rfl
theorem near_nr (m : Nat) (e : Int) (u : Nat) (h0 : 0 < m) (hu : 0 ≤ e + 1074 + (u : Int)) : Ieee.double.nearest false m e = min (nr u (m * 2 ^ (e + 1074 + (u : Int)).toNat)) INFB := by
  unfold Ieee.Format.nearest
  rw [if_neg (Nat.ne_of_gt h0)]
  dsimp only
  rw [dbl_inf, dbl_bin, lp_is, word_is, show Ieee.double.fractionBits = 52 from rfl, cut_rne]
  obtain ⟨t, ht⟩ : ∃ t : Nat, e + 1074 + (u : Int) = (t : Int) := ⟨(e + 1074 + (u : Int)).toNat, by omega⟩
  rw [ht, Int.toNat_natCast]
  have hlog : (m * 2 ^ t).log2 = m.log2 + t := by
    have hp : 0 < 2 ^ t := Nat.pow_pos (by decide)
    refine (Nat.log2_eq_iff (Nat.ne_of_gt (Nat.mul_pos h0 hp))).2 ⟨?_, ?_⟩
    · rw [Nat.pow_add]
      exact Nat.mul_le_mul_right _ (Nat.log2_self_le (by omega))
    · rw [show m.log2 + t + 1 = m.log2 + 1 + t by omega, Nat.pow_add]
      exact (Nat.mul_lt_mul_right hp).2 Nat.lt_log2_self
  rw [BIN_pow]
  obtain ⟨A, hA⟩ : ∃ x, m.log2 + t - (52 + u) = x := ⟨_, rfl⟩
  have e1 : max (e + (m.log2 : Int) - ((52 : Nat) : Int)) (-1074) = (A : Int) - 1074 := by omega
  unfold nr
  rw [e1, hlog, hA, show ((A : Int) - 1074 - -1074).toNat = A by omega]
  have key : rne (m <<< (e - ((A : Int) - 1074)).toNat) (((A : Int) - 1074) - e).toNat = rne (m * 2 ^ t) (A + u) := by
    rcases Nat.lt_or_ge t (A + u) with h | h
    · rw [show (e - ((A : Int) - 1074)).toNat = 0 by omega, show ((A : Int) - 1074 - e).toNat = A + u - t by omega, Nat.shiftLeft_zero]
      have := rne_scale m (A + u - t) t
      rw [show A + u - t + t = A + u by omega] at this
      exact this.symm
    · rw [show (e - ((A : Int) - 1074)).toNat = t - (A + u) by omega, show ((A : Int) - 1074 - e).toNat = 0 by omega, Nat.shiftLeft_eq]
      have := rne_scale (m * 2 ^ (t - (A + u))) 0 (A + u)
      rw [Nat.mul_assoc, ← Nat.pow_add, show t - (A + u) + (A + u) = t by omega, Nat.zero_add] at this
      exact this.symm
  rw [key]
/-- **The nearest word goes up with the value.** -/
theorem near_mono (m k : Nat) (e f : Int) (u : Nat) (he : 0 ≤ e + 1074 + (u : Int)) (hf : 0 ≤ f + 1074 + (u : Int)) (h : m * 2 ^ (e + 1074 + (u : Int)).toNat ≤ k * 2 ^ (f + 1074 + (u : Int)).toNat) : Ieee.double.nearest false m e ≤ Ieee.double.nearest false k f := by
  rcases Nat.eq_zero_or_pos m with h0 | h0
  · subst h0
    have : Ieee.double.nearest false 0 e = 0 := by
      unfold Ieee.Format.nearest
      rw [if_pos rfl, word_is]
    rw [this]
    exact Nat.zero_le _
  · have hp : 0 < m * 2 ^ (e + 1074 + (u : Int)).toNat := Nat.mul_pos h0 (Nat.pow_pos (by decide))
    have hk : 0 < k := by
      rcases Nat.eq_zero_or_pos k with h1 | h1
      · subst h1
        rw [Nat.zero_mul] at h
        exact absurd hp (Nat.not_lt_of_le h)
      · exact h1
    rw [near_nr m e u h0 he, near_nr k f u hk hf]
    exact Nat.le_min.2 ⟨Nat.le_trans (Nat.min_le_left _ _) (nr_mono u _ _ hp h), Nat.min_le_right _ _⟩
end Go.Proofs.YtiehmpiaddjhiaaDoor
/- More plain words for memory: appends inside regions, slices of numbers. Nothing of the program is named here. -/
namespace Go.Proofs.YtiehmpiaddjhiaaDoor
open Go.RowKit
set_option linter.unusedVariables false

/-- An append onto a row of the call's own, inside a region that draws its order. -/
theorem step_own {P : Program} {ops : Array Oper} {o : Oper} {a : Act} {w : World} {K : Act → World → Prop} {Q : Exit → Act → World → Prop} {E : Prop} (hgd : o.guard = none) (s x : Operand) (t : TypeId)
    (ho : o.op = .call { callee := .builtin .append, args := #[s, x], argTypes := #[t, t] })
    (base : Nat) (e : TypeId) (i : TypeInfo) (z : Value) (size bytes : Nat) (ht : P.underlying t = some (.slice e)) (hi : P.info? e = some i) (hz : i.zero = some z)
    (hsize : i.size = size) (hby : i.bytes = bytes) (hzs : z.cells.size = size) (hsz : 0 < size)
    (v : Value) (n : Nat) (xs : List Value) (hs : a.eval s = v) (hown : w.ownsRow base e size v n xs)
    (ad : Addr) (m c : Nat) (news : List Value) (hx : a.eval x = .slice (some ad) m c) (hl : news.length = m * size) (hnews : ∀ j u, news[j]? = some u → w.cell? (ad.add j) = some u) (h1 : ∀ u ∈ news, u.oneCell' = true)
    (h63 : n + m ≤ maxLen) (hbytes : (n + m) * bytes ≤ 140737488355328) (hbase : base ≤ w.heap.size)
    (h : ∀ v' w', w'.ownsRow base e size v' (n + m) (xs ++ news) → w.grownBy w' v.ownBlock → (v'.ownBlock = v.ownBlock ∨ v'.ownBlock = some w.heap.size) → K (a.put o.dst v') w') :
    if Region.wanted o (yielded ops a.tmps) = true then Oper.wp P o a w K Q else E := by
  have hw : Region.wanted o (yielded ops a.tmps) = true := by simp [Region.wanted, hgd]
  rw [if_pos hw]
  obtain ⟨v', w', hr, h2, h3, _, h5⟩ := run_append_own_at (P := P) w base t o.type e i z size bytes ht hi hz hsize hby hzs hsz v n xs hown ad m c news hl hnews h1 h63 hbytes hbase
  unfold Oper.wp execOp
  simp only [ho, resolve, invoke, builtin, Sem.run_bind, Sem.run_pure, Result.andThen_ok, List.map_toArray, List.map_cons, List.map_nil, hs, hx, hr]
  exact h v' w' h2 h3 h5

theorem own_form {w : World} {B e size n : Nat} {v : Value} {xs : List Value} (h : w.ownsRow B e size v n xs) : ∃ A c, v = .slice A n c := by
  rcases h.2 with ⟨rfl, rfl⟩ | ⟨g, cap, cur, rfl, _⟩
  · exact ⟨none, 0, rfl⟩
  · exact ⟨_, cap, rfl⟩
/-- A slice of numbers of one kind reads as xs. -/
def Nums (k : IntKind) (w : World) (A : Option Addr) (n c : Nat) (xs : List Nat) : Prop :=
  xs.length = n ∧ n ≤ c ∧ c ≤ 9223372036854775807 ∧ (0 < n → ∃ b o, A = some ⟨b, o, none⟩ ∧ ∀ i (h : i < xs.length), w.cell? ⟨b, o + i, none⟩ = some (.int k (xs[i] : Int)))
theorem Byt.nums {w : World} {A : Option Addr} {n c : Nat} {l : List UInt8} (h : Byt w A n c l) : Nums .u8 w A n c (l.map UInt8.toNat) := by
  refine ⟨by simpa using h.1, h.2.1, h.2.2.1, fun hn => ?_⟩
  obtain ⟨b, o, e, hc⟩ := h.2.2.2 hn
  exact ⟨b, o, e, fun i hi => by simp at hi; simpa using hc i hi⟩
theorem Nums.kept {k : IntKind} {w w' : World} {A : Option Addr} {n c : Nat} {xs : List Nat} {F : Nat → Prop} (h : Nums k w A n c xs) (q : Kept F w w') (hF : ∀ i, Lies A n i → ¬ F i) : Nums k w' A n c xs := by
  refine ⟨h.1, h.2.1, h.2.2.1, fun hn => ?_⟩
  obtain ⟨b, o, rfl, hc⟩ := h.2.2.2 hn
  exact ⟨b, o, rfl, fun i hi => q.cell (hc i hi) (hF b ⟨hn, _, rfl, rfl⟩)⟩
theorem Nums.at {k : IntKind} {w : World} {A : Option Addr} {n c : Nat} {xs : List Nat} (h : Nums k w A n c xs) {i : Nat} (hi : i < xs.length) : ∃ b o, A = some ⟨b, o, none⟩ ∧ w.cell? ⟨b, o + i, none⟩ = some (.int k (xs[i] : Int)) := by
  obtain ⟨b, o, e, hc⟩ := h.2.2.2 (by have := h.1; omega)
  exact ⟨b, o, e, hc i hi⟩
theorem Nums.lt {k : IntKind} {w : World} {A : Option Addr} {n c : Nat} {xs : List Nat} (h : Nums k w A n c xs) : ∀ i, Lies A n i → i < w.heap.size := by
  rintro i ⟨hn, ad, rfl, rfl⟩
  obtain ⟨b, o, e, hc⟩ := h.2.2.2 hn
  have := World.block_lt_of_cell? w _ (hc 0 (by have := h.1; omega))
  cases e
  exact this
/-- A literal slice of numbers. -/
theorem Nums.lit (k : IntKind) (w : World) (xs : List Nat) (t : TypeId) (h : xs.length ≤ 9223372036854775807) : Nums k (w.alloc (.cells (xs.map fun x : Nat => Value.int k (x : Int)).toArray t)) (some ⟨w.heap.size, 0, none⟩) xs.length xs.length xs := by
  refine ⟨rfl, Nat.le_refl _, h, fun _ => ⟨w.heap.size, 0, rfl, fun i hi => ?_⟩⟩
  rw [(Blo.new w t _).cell]
  simp [hi]
theorem Byt.lit (w : World) (l : List UInt8) (t : TypeId) (h : l.length ≤ 9223372036854775807) : Byt (w.alloc (.cells (bys l).toArray t)) (some ⟨w.heap.size, 0, Option.none⟩) l.length l.length l := by
  refine ⟨rfl, Nat.le_refl _, h, fun _ => ⟨w.heap.size, 0, rfl, fun i hi => ?_⟩⟩
  rw [(Blo.new w t _).cell]
  simp [bys, hi]
end Go.Proofs.YtiehmpiaddjhiaaDoor
