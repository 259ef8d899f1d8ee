/- Texts that belong together, one behind the other: RaB, RegO. Conditions: those of each. -/
import Derived.Test.YtiehmpiaddjhiaaDoorMg1
import Derived.Test.YtiehmpiaddjhiaaDoorMg4
import Derived.Deep.WholeRow
/- Floats: bits, IsNaN, NaN, Inf, Abs, IsInf, Signbit, Copysign; package rate: Less, Same, Clean; tolllaw11.alike. -/
namespace Go.Proofs.YtiehmpiaddjhiaaDoor
open Go.RowKit Go.Sort
set_option linter.unusedVariables false

theorem cf_from (x : Nat) (w : World) : (callFunc 7 #[.int .u64 (x : Int)]).run Tryd.prog w = .ok (.value (.float .f64 x)) w := by kernel_rfl
theorem cf_bits (x : Nat) (w : World) : (callFunc 27 #[.float .f64 x]).run Tryd.prog w = .ok (.value (.int .u64 (x : Int))) w := by kernel_rfl
theorem cf_nan (w : World) : (callFunc 7 #[.int .u64 9221120237041090561]).run Tryd.prog w = .ok (.value (.float .f64 9221120237041090561)) w := by kernel_rfl
theorem cf_inf (w : World) : (callFunc 7 #[.int .u64 9218868437227405312]).run Tryd.prog w = .ok (.value (.float .f64 9218868437227405312)) w := by kernel_rfl
theorem cf_ninf (w : World) : (callFunc 7 #[.int .u64 18442240474082181120]).run Tryd.prog w = .ok (.value (.float .f64 18442240474082181120)) w := by kernel_rfl
theorem f64_fmt (x y : Nat) : FloatKind.f64.format.order x y = Ieee.double.order x y := rfl
theorem isnan_yes (x : Nat) (hx : x < 18446744073709551616) (w : World) : Calls Tryd.prog 37 #[.float .f64 x] w fun e w' => e = .returned (.bool (nanF x)) ∧ Kept Nil w w' := by
  have h1 : (FloatKind.f64.format.order x x != some .eq) = nanF x := nan_self hx
  go_enter Tryd.func37, Tryd.ntmps37
  go_wp2_with (fail)
  go_ret
  exact ⟨by first | rfl | rw [h1], Kept.refl _ _⟩
theorem fless_yes (x y : Nat) (hx : x < 18446744073709551616) (hy : y < 18446744073709551616) (w : World) : Calls Tryd.prog 31 #[.float .f64 x, .float .f64 y] w fun e w' => e = .returned (.bool (decide (KF x < KF y))) ∧ Kept Nil w w' := by
  have h1 : (FloatKind.f64.format.order x y == some .lt) = ltF x y := lt_is hx hy
  have HR := Lib.hid (less_is hx hy)
  have HX := Lib.hid hx
  have HY := Lib.hid hy
  go_enter Tryd.func31, Tryd.ntmps31
  cases hl : ltF x y
  · rw [hl] at h1 HR
    go_wp2_with (fail)
    refine (isnan_yes x HX.out _).mono ?_
    rintro e w1 ⟨rfl, hk⟩
    have HK := Lib.hid hk
    cases hn : nanF x
    · rw [hn] at HR
      clear hk
      go_wp2_with (fail)
      refine (isnan_yes y HY.out _).mono ?_
      rintro e w2 ⟨rfl, hk⟩
      have HK := Lib.hid (HK.out.then hk)
      clear hk
      go_wp2_with (fail)
      go_ret
      exact ⟨by rw [← HR.out]; simp, HK.out⟩
    · rw [hn] at HR
      clear hk
      go_wp2_with (fail)
      go_ret
      exact ⟨by rw [← HR.out]; simp, HK.out⟩
  · rw [hl] at h1 HR
    go_wp2_with (fail)
    go_ret
    exact ⟨by rw [← HR.out]; simp, Kept.refl _ _⟩
theorem fsame_yes (x y : Nat) (hx : x < 18446744073709551616) (hy : y < 18446744073709551616) (w : World) : Calls Tryd.prog 33 #[.float .f64 x, .float .f64 y] w fun e w' => e = .returned (.bool (decide (KF x = KF y))) ∧ Kept Nil w w' := by
  have h1 : (FloatKind.f64.format.order x y == some .eq) = eqF x y := eq_is hx hy
  have HR := Lib.hid (alike_is hx hy)
  have HX := Lib.hid hx
  have HY := Lib.hid hy
  go_enter Tryd.func33, Tryd.ntmps33
  cases hl : eqF x y
  · rw [hl] at h1 HR
    go_wp2_with (fail)
    refine (isnan_yes x HX.out _).mono ?_
    rintro e w1 ⟨rfl, hk⟩
    have HK := Lib.hid hk
    cases hn : nanF x
    · rw [hn] at HR
      clear hk
      go_wp2_with (fail)
      go_ret
      exact ⟨by rw [← HR.out]; simp, HK.out⟩
    · rw [hn] at HR
      clear hk
      go_wp2_with (fail)
      refine (isnan_yes y HY.out _).mono ?_
      rintro e w2 ⟨rfl, hk⟩
      have HK := Lib.hid (HK.out.then hk)
      clear hk
      go_wp2_with (fail)
      go_ret
      exact ⟨by rw [← HR.out]; simp, HK.out⟩
  · rw [hl] at h1 HR
    go_wp2_with (fail)
    go_ret
    exact ⟨by rw [← HR.out]; simp, Kept.refl _ _⟩
theorem fclean_yes (x : Nat) (hx : x < 18446744073709551616) (w : World) : Calls Tryd.prog 18 #[.float .f64 x] w fun e w' => e = .returned (.float .f64 (clF x)) ∧ Kept Nil w w' := by
  have h1 : (FloatKind.f64.format.order x 0 == some .gt) = ltF 0 x := gt_is hx (by decide)
  have HC := Lib.hid (show clF x = if ltF 0 x then x else 0 from rfl)
  go_enter Tryd.func18, Tryd.ntmps18
  cases hl : ltF 0 x
  · rw [hl] at h1 HC
    go_wp2_with (fail)
    go_ret
    exact ⟨by rw [HC.out]; rfl, Kept.refl _ _⟩
  · rw [hl] at h1 HC
    go_wp2_with (fail)
    go_ret
    exact ⟨by rw [HC.out]; rfl, Kept.refl _ _⟩
theorem fnan_yes (w : World) : Calls Tryd.prog 32 #[] w fun e w' => e = .returned (.float .f64 9221120237041090561) ∧ Kept Nil w w' := by
  have h1 := cf_nan
  go_enter Tryd.func32, Tryd.ntmps32
  go_wp2_with (fail)
  go_ret
  exact ⟨rfl, Kept.refl _ _⟩
theorem fsign_yes (x : Nat) (hx : x < 18446744073709551616) (w : World) : Calls Tryd.prog 19 #[.float .f64 x] w fun e w' => e = .returned (.bool (decide (9223372036854775808 ≤ x))) ∧ Kept Nil w w' := by
  have h1 := cf_bits x
  go_enter Tryd.func19, Tryd.ntmps19
  by_cases h : x < 9223372036854775808
  · have h2 : IntKind.i64.wrap (x : Int) = (x : Int) := IntWalk.i64_in _ (by omega)
    go_wp2_with (fail)
    go_ret
    exact ⟨by simp; omega, Kept.refl _ _⟩
  · have h2 : IntKind.i64.wrap (x : Int) = (x : Int) - 18446744073709551616 := by unfold IntKind.wrap; simp [IntKind.signed, IntKind.bits]; omega
    go_wp2_with (fail)
    go_ret
    exact ⟨by simp; omega, Kept.refl _ _⟩
theorem falike_yes (x y : Nat) (hx : x < 18446744073709551616) (hy : y < 18446744073709551616) (w : World) : Calls Tryd.prog 12 #[.float .f64 x, .float .f64 y] w fun e w' => e = .returned (.bool (decide (x = y) || (nanF x && nanF y))) ∧ Kept Nil w w' := by
  have h1 : (FloatKind.f64.format.order x x != some .eq) = nanF x := nan_self hx
  have h2 : (FloatKind.f64.format.order y y != some .eq) = nanF y := nan_self hy
  have h3 := cf_bits x
  have h4 := cf_bits y
  have h5 : ((x : Int) == (y : Int)) = decide (x = y) := by by_cases h : x = y <;> simp [h]; omega
  clear hx hy
  go_enter Tryd.func12, Tryd.ntmps12
  cases hd : decide (x = y)
  · rw [hd] at h5
    cases hn : nanF x
    · rw [hn] at h1
      go_wp2_with (fail)
      go_ret
      exact ⟨rfl, Kept.refl _ _⟩
    · rw [hn] at h1
      go_wp2_with (fail)
      go_ret
      exact ⟨by simp, Kept.refl _ _⟩
  · rw [hd] at h5
    go_wp2_with (fail)
    go_ret
    exact ⟨by simp, Kept.refl _ _⟩
end Go.Proofs.YtiehmpiaddjhiaaDoor
/- Regions that draw their order, with blocks of their own: what reads and calls (callees that make memory alone) first, then allocations, then stores into them: one walk in the order of the text serves every order. Nothing of the program is named here. -/
namespace Go.Proofs.YtiehmpiaddjhiaaDoor
open Go.RowKit Go.Sort
set_option linter.unusedVariables false

/-- The blocks that the region itself has made: whether one has been stored into, what it holds. -/
def Own := Nat → Option (Bool × Array Value × TypeId)
def upd (L : Own) (g : Nat) (x : Bool × Array Value × TypeId) : Own := fun k => if k = g then some x else L k
theorem upd_comm (L : Own) {g h : Nat} (x y) (hn : g ≠ h) : upd (upd L g x) h y = upd (upd L h y) g x := by
  funext k
  unfold upd
  by_cases h1 : k = h <;> by_cases h2 : k = g <;> simp [h1, h2] <;> omega
theorem upd_same (L : Own) (g : Nat) (x) : upd L g x g = some x := by simp [upd]
theorem upd_ne (L : Own) {g h : Nat} (x) (hn : h ≠ g) : upd L g x h = L h := by simp [upd, hn]
def Few (L : Own) : Prop := ∃ N, ∀ g, N ≤ g → L g = none
theorem Few.upd {L : Own} (h : Few L) (g : Nat) (x) : Few (upd L g x) := by
  obtain ⟨N, hN⟩ := h
  refine ⟨max N (g + 1), fun k hk => ?_⟩
  rw [upd_ne _ _ (by omega)]
  exact hN k (by omega)
theorem Few.fresh {L : Own} (h : Few L) (B : Nat) : ∃ N, ∀ g, N ≤ g → B ≤ g ∧ L g = none := by
  obtain ⟨N, hN⟩ := h
  exact ⟨max N B, fun g hg => ⟨by omega, hN g (by omega)⟩⟩

/-- An allocation, a store, or neither. -/
def tk : Op → Option (TypeId × Option (Operand × Operand))
  | .alloc t => some (t, none)
  | .store t p x => some (t, some (p, x))
  | _ => none
theorem tk_alloc {op : Op} {t : TypeId} (h : tk op = some (t, none)) : op = .alloc t := by
  cases op <;> simp [tk] at h
  subst h; rfl
theorem tk_store {op : Op} {t : TypeId} {p x : Operand} (h : tk op = some (t, some (p, x))) : op = .store t p x := by
  cases op <;> simp [tk] at h
  obtain ⟨rfl, rfl, rfl⟩ := h; rfl
def blk : Value → Nat
  | .pointer (some a) => a.block
  | _ => 0

section
variable {P : Program} {ops : Array Oper} {md : Region.Mode} {F : Nat → Prop} {W : World} {Z : TypeId → Array Value} {vs : Nat → Value}

def knd (ops : Array Oper) (o : Oper) (a : Act) : Option (TypeId × Option (Operand × Operand)) := if Region.wanted o (yielded ops a.tmps) then tk o.op else none
def AllocAs (P : Program) (Z : TypeId → Array Value) (o : Oper) (a : Act) (t : TypeId) : Prop :=
  ∀ u : World, (execOp a.eval o).run P u = .ok (.value (.pointer (some ⟨u.heap.size, 0, none⟩))) (u.alloc (.cells (Z t) t))
def StoreAs (P : Program) (a : Act) (t : TypeId) (p x : Operand) (L : Own) : Prop :=
  (∃ g cs, a.eval p = .pointer (some ⟨g, 0, none⟩) ∧ L g = some (false, cs, t) ∧ cs.size = (a.eval x).cells.size) ∧ (P.info? t).map (·.size) = some (a.eval x).cells.size ∧ (a.eval x).cells.all (·.oneCell') = true
def QuietAs (P : Program) (ops : Array Oper) (F : Nat → Prop) (W : World) (o : Oper) (a : Act) (v : Value) : Prop :=
  Region.wanted o (yielded ops a.tmps) = true → ∀ V, Kept F W V → ∃ u, o.quietAt P a (fun w' => Kept Nil V w') V u ∧ (u = v ∨ o.dst = none)
def valO (ops : Array Oper) (o : Oper) (a : Act) (v : Value) : Value := if Region.wanted o (yielded ops a.tmps) then v else undef

def sO (P : Program) (ops : Array Oper) (F : Nat → Prop) (W : World) (Z : TypeId → Array Value) (o : Oper) (v : Value) (K : Act → Own → Prop) (a : Act) (L : Own) : Prop :=
  match knd ops o a with
  | none => QuietAs P ops F W o a v ∧ K (a.put o.dst (valO ops o a v)) L
  | some (t, none) => AllocAs P Z o a t ∧ ∀ g, W.heap.size ≤ g → L g = none → K (a.put o.dst (.pointer (some ⟨g, 0, none⟩))) (upd L g (false, Z t, t))
  | some (t, some (p, x)) => StoreAs P a t p x L ∧ K (a.put o.dst undef) (upd L (blk (a.eval p)) (true, (a.eval x).cells, t))

def sOp (P : Program) (ops : Array Oper) (F : Nat → Prop) (W : World) (Z : TypeId → Array Value) (vs : Nat → Value) (i : Nat) (K : Act → Own → Prop) (a : Act) (L : Own) : Prop :=
  match ops[i]? with
  | none => K a L
  | some o => sO P ops F W Z o (vs i) K a L

theorem sO_mono {o : Oper} {v : Value} {K K' : Act → Own → Prop} {a : Act} {L : Own} (hF : Few L) (h : ∀ a L, Few L → K a L → K' a L) (hh : sO P ops F W Z o v K a L) : sO P ops F W Z o v K' a L := by
  unfold sO at *
  split at hh
  · exact ⟨hh.1, h _ _ hF hh.2⟩
  · exact ⟨hh.1, fun g h1 h2 => h _ _ (hF.upd _ _) (hh.2 g h1 h2)⟩
  · exact ⟨hh.1, h _ _ (hF.upd _ _) hh.2⟩
theorem sOp_mono {i : Nat} {K K' : Act → Own → Prop} {a : Act} {L : Own} (hF : Few L) (h : ∀ a L, Few L → K a L → K' a L) (hh : sOp P ops F W Z vs i K a L) : sOp P ops F W Z vs i K' a L := by
  unfold sOp at *
  split at hh
  · exact h _ _ hF hh
  · exact sO_mono hF h hh
theorem sO_some {o : Oper} {v : Value} {K : Act → Own → Prop} {a : Act} {L : Own} (hF : Few L) (hh : sO P ops F W Z o v K a L) : ∃ a L, K a L := by
  unfold sO at hh
  split at hh
  · exact ⟨_, _, hh.2⟩
  · obtain ⟨N, hN⟩ := hF.fresh W.heap.size
    obtain ⟨h1, h2⟩ := hN N (Nat.le_refl _)
    exact ⟨_, _, hh.2 N h1 h2⟩
  · exact ⟨_, _, hh.2⟩

/-- Two operations that are apart: either may be first. -/
theorem sO_swap {oi oj : Oper} {vi vj : Value} (hap : oi.apart ops oj = true) (hsi : ∀ cs b, oi.op ≠ .select cs b) (hsj : ∀ cs b, oj.op ≠ .select cs b) {K : Act → Own → Prop} {a : Act} {L : Own} (hF : Few L)
    (h : sO P ops F W Z oi vi (sO P ops F W Z oj vj K) a L) : sO P ops F W Z oj vj (sO P ops F W Z oi vi K) a L := by
  obtain ⟨h1, h2, h3⟩ := Oper.apart_spec hap
  have kj : ∀ u, knd ops oj (a.put oi.dst u) = knd ops oj a := fun u => by unfold knd; rw [wanted_put oj a oi.dst u h1]
  have ki : ∀ u, knd ops oi (a.put oj.dst u) = knd ops oi a := fun u => by unfold knd; rw [wanted_put oi a oj.dst u h3]
  have vj' : ∀ u, valO ops oj (a.put oi.dst u) vj = valO ops oj a vj := fun u => by unfold valO; rw [wanted_put oj a oi.dst u h1]
  have vi' : ∀ u, valO ops oi (a.put oj.dst u) vi = valO ops oi a vi := fun u => by unfold valO; rw [wanted_put oi a oj.dst u h3]
  have qj : ∀ u, QuietAs P ops F W oj (a.put oi.dst u) vj ↔ QuietAs P ops F W oj a vj := fun u => by
    unfold QuietAs Oper.quietAt; rw [wanted_put oj a oi.dst u h1, execOp_put oj hsj a oi.dst u h1]
  have qi : ∀ u, QuietAs P ops F W oi (a.put oj.dst u) vi ↔ QuietAs P ops F W oi a vi := fun u => by
    unfold QuietAs Oper.quietAt; rw [wanted_put oi a oj.dst u h3, execOp_put oi hsi a oj.dst u h3]
  have aj : ∀ u t, AllocAs P Z oj (a.put oi.dst u) t ↔ AllocAs P Z oj a t := fun u t => by
    unfold AllocAs; rw [execOp_put oj hsj a oi.dst u h1]
  have ai : ∀ u t, AllocAs P Z oi (a.put oj.dst u) t ↔ AllocAs P Z oi a t := fun u t => by
    unfold AllocAs; rw [execOp_put oi hsi a oj.dst u h3]
  have ej : ∀ u x, x ∈ oj.op.operands → (a.put oi.dst u).eval x = a.eval x := fun u x hx => Act.eval_put fun d hd hxd => h1 d hd (by
    subst hxd; exact List.mem_append_left _ (List.mem_filterMap.2 ⟨.tmp d, by simpa using hx, rfl⟩))
  have ei : ∀ u x, x ∈ oi.op.operands → (a.put oj.dst u).eval x = a.eval x := fun u x hx => Act.eval_put fun d hd hxd => h3 d hd (by
    subst hxd; exact List.mem_append_left _ (List.mem_filterMap.2 ⟨.tmp d, by simpa using hx, rfl⟩))
  have pc : ∀ v u, (a.put oj.dst u).put oi.dst v = (a.put oi.dst v).put oj.dst u := fun v u => (Act.put_comm a v u h2).symm
  have hki : ∀ t p x, knd ops oi a = some (t, some (p, x)) → p ∈ oi.op.operands ∧ x ∈ oi.op.operands := fun t p x hk => by
    unfold knd at hk
    split at hk
    · rw [tk_store hk]; simp [Op.operands]
    · cases hk
  have hkj : ∀ t p x, knd ops oj a = some (t, some (p, x)) → p ∈ oj.op.operands ∧ x ∈ oj.op.operands := fun t p x hk => by
    unfold knd at hk
    split at hk
    · rw [tk_store hk]; simp [Op.operands]
    · cases hk
  unfold sO at h ⊢
  simp only [kj, ki, vj', vi', qj, qi, aj, ai] at h ⊢
  rcases hi : knd ops oi a with _ | ⟨ti, _ | ⟨pi, xi⟩⟩ <;> rcases hj : knd ops oj a with _ | ⟨tj, _ | ⟨pj, xj⟩⟩ <;> simp only [hi, hj] at h ⊢
  · exact ⟨h.2.1, h.1, by rw [pc]; exact h.2.2⟩
  · exact ⟨h.2.1, fun g hg hL => ⟨h.1, by rw [pc]; exact h.2.2 g hg hL⟩⟩
  · obtain ⟨hp, hx⟩ := hkj _ _ _ hj
    unfold StoreAs at h ⊢
    simp only [ej _ _ hp, ej _ _ hx] at h
    exact ⟨h.2.1, h.1, by rw [pc]; exact h.2.2⟩
  · obtain ⟨N, hN⟩ := hF.fresh W.heap.size
    obtain ⟨g1, g2⟩ := hN N (Nat.le_refl _)
    exact ⟨(h.2 N g1 g2).1, h.1, fun g hg hL => by rw [pc]; exact (h.2 g hg hL).2⟩
  · obtain ⟨N, hN⟩ := hF.fresh W.heap.size
    obtain ⟨g1, g2⟩ := hN N (Nat.le_refl _)
    refine ⟨(h.2 N g1 g2).1, fun g hg hL => ⟨h.1, fun k hk hLk => ?_⟩⟩
    have hne : k ≠ g := fun e => by rw [e, upd_same] at hLk; cases hLk
    rw [upd_ne _ _ hne] at hLk
    rw [pc, upd_comm _ _ _ (Ne.symm hne)]
    exact (h.2 k hk hLk).2 g hg (by rw [upd_ne _ _ (Ne.symm hne)]; exact hL)
  · obtain ⟨hp, hx⟩ := hkj _ _ _ hj
    unfold StoreAs at h ⊢
    simp only [ej _ _ hp, ej _ _ hx] at h
    obtain ⟨N, hN⟩ := hF.fresh W.heap.size
    have hs : ∃ g cs, a.eval pj = .pointer (some ⟨g, 0, none⟩) ∧ L g = some (false, cs, tj) ∧ cs.size = (a.eval xj).cells.size := by
      obtain ⟨g, cs, e1, e2, e3⟩ := (h.2 N (hN N (Nat.le_refl _)).1 (hN N (Nat.le_refl _)).2).1.1
      obtain ⟨g', cs', e1', e2', e3'⟩ := (h.2 (N + 1) (hN (N + 1) (by omega)).1 (hN (N + 1) (by omega)).2).1.1
      have hgg : g = g' := by rw [e1] at e1'; simpa using e1'
      subst hgg
      by_cases hg : g = N
      · rw [upd_ne _ _ (by omega)] at e2'
        exact ⟨g, cs', e1, e2', e3'⟩
      · rw [upd_ne _ _ hg] at e2
        exact ⟨g, cs, e1, e2, e3⟩
    obtain ⟨g, cs, e1, e2, e3⟩ := hs
    refine ⟨⟨⟨g, cs, e1, e2, e3⟩, (h.2 N (hN N (Nat.le_refl _)).1 (hN N (Nat.le_refl _)).2).1.2⟩, h.1, fun k hk hL => ?_⟩
    have hb : blk (a.eval pj) = g := by rw [e1]; rfl
    have hne : k ≠ g := fun e => by rw [hb, e, upd_same] at hL; cases hL
    rw [hb, upd_ne _ _ hne] at hL
    have h9 := (h.2 k hk hL).2
    rw [hb] at h9 ⊢
    rw [pc, upd_comm _ _ _ (Ne.symm hne)]
    exact h9
  · obtain ⟨hp, hx⟩ := hki _ _ _ hi
    unfold StoreAs at h ⊢
    simp only [ei _ _ hp, ei _ _ hx]
    exact ⟨h.2.1, h.1, by rw [pc]; exact h.2.2⟩
  · obtain ⟨hp, hx⟩ := hki _ _ _ hi
    unfold StoreAs at h ⊢
    simp only [ei _ _ hp, ei _ _ hx]
    obtain ⟨⟨⟨g, cs, e1, e2, e3⟩, hr⟩, hA, hK⟩ := h
    have hb : blk (a.eval pi) = g := by rw [e1]; rfl
    rw [hb] at hK ⊢
    refine ⟨hA, fun k hk hL => ?_⟩
    have hne : k ≠ g := fun e => by rw [e, e2] at hL; cases hL
    refine ⟨⟨⟨g, cs, e1, by rw [upd_ne _ _ (Ne.symm hne)]; exact e2, e3⟩, hr⟩, ?_⟩
    rw [pc, upd_comm _ _ _ hne]
    exact hK k hk (by rw [upd_ne _ _ hne]; exact hL)
  · obtain ⟨hp, hx⟩ := hki _ _ _ hi
    obtain ⟨hp', hx'⟩ := hkj _ _ _ hj
    unfold StoreAs at h ⊢
    simp only [ei _ _ hp, ei _ _ hx]
    simp only [ej _ _ hp', ej _ _ hx'] at h
    obtain ⟨⟨⟨g, cs, e1, e2, e3⟩, hr⟩, ⟨⟨k, cs', f1, f2, f3⟩, hr'⟩, hK⟩ := h
    have hb : blk (a.eval pi) = g := by rw [e1]; rfl
    have hb' : blk (a.eval pj) = k := by rw [f1]; rfl
    rw [hb] at f2 hK ⊢
    rw [hb'] at hK ⊢
    have hne : k ≠ g := fun e => by rw [e, upd_same] at f2; simp at f2
    rw [upd_ne _ _ hne] at f2
    refine ⟨⟨⟨k, cs', f1, f2, f3⟩, hr'⟩, ⟨⟨g, cs, e1, by rw [upd_ne _ _ (Ne.symm hne)]; exact e2, e3⟩, hr⟩, ?_⟩
    rw [pc, upd_comm _ _ _ hne]
    exact hK

/-- Whatever order is picked from here on. -/
def sAny (P : Program) (md : Region.Mode) (ops : Array Oper) (F : Nat → Prop) (W : World) (Z : TypeId → Array Value) (vs : Nat → Value) (Qf : Act → Own → Prop) : Nat → Array Bool → Act → Own → Prop
  | 0, listed, a, L => Region.ready md ops listed = [] ∧ Qf a L
  | fuel + 1, listed, a, L => (Region.ready md ops listed = [] → Qf a L) ∧ ∀ i ∈ Region.ready md ops listed, sOp P ops F W Z vs i (sAny P md ops F W Z vs Qf fuel (listed.setIfInBounds i true)) a L

structure Holds (F : Nat → Prop) (W : World) (L : Own) (u : World) : Prop where
  kept : Kept F W u
  own : ∀ g b cs t, L g = some (b, cs, t) → (F g ∨ W.heap.size ≤ g) ∧ Blo u g t cs
theorem Holds.few {L : Own} {u : World} (h : Holds F W L u) : Few L := ⟨u.heap.size, fun g hg => by
  rcases hL : L g with _ | ⟨b, cs, t⟩
  · rfl
  · have := (h.own g b cs t hL).2.lt
    omega⟩
theorem Holds.later {L : Own} {u u' : World} (h : Holds F W L u) (k : Kept Nil u u') : Holds F W L u' :=
  ⟨h.kept.then k, fun g b cs t hL => ⟨(h.own g b cs t hL).1, (h.own g b cs t hL).2.kept k (fun hf => hf)⟩⟩
theorem Holds.alloc {L : Own} {u : World} (h : Holds F W L u) (cs : Array Value) (t : TypeId) : Holds F W (upd L u.heap.size (false, cs, t)) (u.alloc (.cells cs t)) := by
  refine ⟨h.kept.alloc _, fun g b cs' t' hL => ?_⟩
  by_cases hg : g = u.heap.size
  · subst hg
    rw [upd_same] at hL
    simp at hL
    obtain ⟨rfl, rfl, rfl⟩ := hL
    exact ⟨.inr h.kept.size, Blo.new u _ _⟩
  · rw [upd_ne _ _ hg] at hL
    exact ⟨(h.own g b cs' t' hL).1, (h.own g b cs' t' hL).2.alloc _⟩
theorem setRow_blo {u : World} {g : Nat} {t : TypeId} {cs : Array Value} (h : Blo u g t cs) (cs' : Array Value) : Blo (u.setRow g cs') g t cs' := by
  unfold Blo at *
  simp [World.setRow, Array.getElem?_modify, h]
theorem setRow_kept (u : World) (g : Nat) (cs' : Array Value) : Kept (One g) u (u.setRow g cs') :=
  ⟨rfl, rfl, rfl, by simp, fun k hk hn => by
    simp only [World.setRow, Array.getElem?_modify]
    rw [if_neg (fun e => hn e.symm)]⟩
theorem setCell_kept (u : World) (g : Nat) (v : Value) : Kept (One g) u (u.setCell ⟨g, 0, none⟩ v) := Kept.one u g 0 none v
theorem Holds.store {L : Own} {u u' : World} (h : Holds F W L u) {g : Nat} {b : Bool} {cs cs' : Array Value} {t : TypeId} (hL : L g = some (b, cs, t)) (hk : Kept (One g) u u') (hb : Blo u' g t cs') : Holds F W (upd L g (true, cs', t)) u' := by
  have hg := (h.own _ _ _ _ hL).1
  refine ⟨h.kept.trans hk (fun i hi hf => by cases hf; rcases hg with hg | hg; exact hg; omega), fun k b' cs'' t' hLk => ?_⟩
  by_cases hkg : k = g
  · subst hkg
    rw [upd_same] at hLk
    simp at hLk
    obtain ⟨rfl, rfl, rfl⟩ := hLk
    exact ⟨hg, hb⟩
  · rw [upd_ne _ _ hkg] at hLk
    exact ⟨(h.own _ _ _ _ hLk).1, (h.own _ _ _ _ hLk).2.kept hk (fun hf => hkg hf)⟩

theorem storeAt_row {u : World} {g : Nat} {t : TypeId} {cs : Array Value} (hb : Blo u g t cs) (v : Value) (hs : cs.size = v.cells.size) (hi : (P.info? t).map (·.size) = some v.cells.size) (h1 : v.cells.all (·.oneCell') = true) :
    ∃ u', (Instr.storeAt t (.pointer (some ⟨g, 0, none⟩)) v).run P u = .ok () u' ∧ Kept (One g) u u' ∧ Blo u' g t v.cells := by
  have ha : ∀ x : Array Value, v.cells = x → (storeVar t ⟨g, 0, none⟩ v).run P u = (storeVar t ⟨g, 0, none⟩ (.agg x)).run P u := fun x hx => by
    unfold storeVar
    rw [hx]
    rfl
  refine ⟨u.setRow g v.cells, ?_, setRow_kept _ _ _, setRow_blo hb _⟩
  simp only [Instr.storeAt, Instr.sureAddr, Sem.run_bind, Sem.run_pure, Result.andThen]
  rw [ha _ rfl]
  exact run_storeVar_row u g t t cs v.cells hb hi hs h1

theorem sO_sound {o : Oper} {v : Value} {Q : Exit → Act → World → Prop} {K : Act → Own → Prop} {K' : Act → World → Prop} {a : Act} {L : Own} {u : World} (hu : Holds F W L u) (h : ∀ a L u, Holds F W L u → K a L → K' a u)
    (hh : sO P ops F W Z o v K a L) : if Region.wanted o (yielded ops a.tmps) then o.wp P a u K' Q ∨ (o.asks P a u ∧ LetsOut Q) else K' (a.put o.dst undef) u := by
  unfold sO at hh
  rcases hk : knd ops o a with _ | ⟨t, _ | ⟨p, x⟩⟩ <;> simp only [hk] at hh
  · obtain ⟨hq, hK⟩ := hh
    unfold valO at hK
    split
    · rename_i hw
      rw [if_pos hw] at hK
      obtain ⟨v', h3, hv⟩ := hq hw u hu.kept
      refine .inl ?_
      have hput : a.put o.dst v' = a.put o.dst v := by
        rcases hv with rfl | hd
        · rfl
        · rw [hd]; rfl
      rw [← hput] at hK
      unfold Oper.quietAt at h3
      unfold Oper.wp
      generalize (execOp a.eval o).run P u = r at *
      cases r with
      | ok n w' =>
        cases n <;> simp only [Oper.quietUpon] at h3 <;> simp only [Oper.upon]
        case value u' =>
          obtain ⟨e1, e2⟩ := h3
          rw [e1, e2]
          exact h _ _ _ hu hK
        case skip =>
          obtain ⟨e1, e2⟩ := h3
          rw [e1, ← e2]
          exact h _ _ _ hu hK
        case enter f args =>
          obtain ⟨e1, hc⟩ := h3
          rw [e1]
          exact hc.mono fun e w'' ⟨he, hw''⟩ => by subst he; exact h _ _ _ (hu.later hw'') hK
      | halt x w' => simp only [Oper.quietUpon] at h3
    · rename_i hw
      rw [if_neg hw] at hK
      exact h _ _ _ hu hK
  · obtain ⟨hA, hK⟩ := hh
    unfold knd at hk
    split at hk
    · rename_i hw
      rw [if_pos hw]
      refine .inl ?_
      unfold Oper.wp
      rw [hA u]
      simp only [Oper.upon]
      refine h _ _ _ (hu.alloc _ _) (hK _ hu.kept.size ?_)
      rcases hL : L u.heap.size with _ | ⟨b, cs, t'⟩
      · rfl
      · have := (hu.own _ _ _ _ hL).2.lt
        omega
    · cases hk
  · obtain ⟨⟨⟨g, cs, e1, e2, e3⟩, hi, h1⟩, hK⟩ := hh
    unfold knd at hk
    split at hk
    · rename_i hw
      rw [if_pos hw]
      refine .inl ?_
      obtain ⟨u', hr, hk1, hb'⟩ := storeAt_row (P := P) (hu.own _ _ _ _ e2).2 (a.eval x) e3 hi h1
      have hrun : (execOp a.eval o).run P u = .ok .skip u' := by
        unfold execOp
        rw [tk_store hk]
        simp only [e1, Sem.run_bind, hr, Result.andThen, Sem.run_pure]
      unfold Oper.wp
      rw [hrun]
      simp only [Oper.upon]
      have hbk : blk (a.eval p) = g := by rw [e1]; rfl
      rw [hbk] at hK
      exact h _ _ _ (hu.store e2 hk1 hb') hK
    · cases hk

theorem sAny_sound {Qf : Act → Own → Prop} {Q : Exit → Act → World → Prop} (hQ : ∀ a L u, Holds F W L u → Qf a L → Q .normal a u) : ∀ (fuel : Nat) (listed : Array Bool) (a : Act) (L : Own) (u : World), Holds F W L u →
    sAny P md ops F W Z vs Qf fuel listed a L → wpAny P md ops Q fuel listed a u
  | 0, _, _, _, _, hu, h => ⟨h.1, hQ _ _ _ hu h.2⟩
  | fuel + 1, listed, a, L, u, hu, h => ⟨fun h0 => hQ _ _ _ hu (h.1 h0), fun i hi => by
      have h2 := h.2 i hi
      unfold sOp at h2
      unfold wpOp
      split
      · rename_i ho
        simp only [ho] at h2
        exact sAny_sound hQ fuel _ a L u hu h2
      · rename_i o ho
        simp only [ho] at h2
        exact sO_sound hu (fun a' L' u' hu' hK => sAny_sound hQ fuel _ a' L' u' hu' hK) h2⟩

theorem sAny_first {Qf : Act → Own → Prop} {i : Nat} {oi : Oper} (hi : ops[i]? = some oi) (hsel : ∀ (j : Nat) (o : Oper) cs b, ops[j]? = some o → o.op ≠ .select cs b) :
    ∀ (fuel : Nat) (listed : Array Bool) (a : Act) (L : Own), Few L →
      (∀ j oj, ops[j]? = some oj → j ≠ i → listed.getD j true = false → (∀ e ∈ oj.after, Region.binds md e = true → e.on ≠ i) → oi.apart ops oj = true) →
      i ∈ Region.ready md ops listed →
      sO P ops F W Z oi (vs i) (sAny P md ops F W Z vs Qf fuel (listed.setIfInBounds i true)) a L → sAny P md ops F W Z vs Qf (fuel + 1) listed a L := by
  intro fuel
  induction fuel with
  | zero =>
    intro listed a L hF _ hr H
    refine ⟨fun h => (by rw [h] at hr; cases hr), fun j hj => ?_⟩
    by_cases hji : j = i
    · subst hji; unfold sOp; simp only [hi]; exact H
    · obtain ⟨_, _, h0⟩ := sO_some hF H
      have := ready_mono hj hji
      rw [h0.1] at this
      cases this
  | succ fuel ih =>
    intro listed a L hF hfree hr H
    refine ⟨fun h => (by rw [h] at hr; cases hr), fun j hj => ?_⟩
    by_cases hji : j = i
    · subst hji; unfold sOp; simp only [hi]; exact H
    · obtain ⟨hjun, oj, hoj, hall⟩ := mem_ready.1 hj
      have hnot : ∀ e ∈ oj.after, Region.binds md e = true → e.on ≠ i := fun e he hb heq => by
        have h1 := hall e he hb
        have h0 := (mem_ready.1 hr).1
        rw [heq] at h1
        rcases Nat.lt_or_ge i listed.size with h' | h'
        · simp [h'] at h0 h1; rw [h0] at h1; cases h1
        · simp [Array.getElem?_eq_none h'] at h1
      have hfree' : ∀ k ok, ops[k]? = some ok → k ≠ i → (listed.setIfInBounds j true).getD k true = false →
          (∀ e ∈ ok.after, Region.binds md e = true → e.on ≠ i) → oi.apart ops ok = true := fun k ok hk hki hun hno => by
        refine hfree k ok hk hki ?_ hno
        by_cases hjk : j = k
        · subst hjk; exact hjun
        · rw [getD_set_ne true hjk] at hun; exact hun
      have H' : sO P ops F W Z oi (vs i) (sO P ops F W Z oj (vs j) (sAny P md ops F W Z vs Qf fuel ((listed.setIfInBounds i true).setIfInBounds j true))) a L :=
        sO_mono hF (fun a' L' _ h => by
          have := h.2 j (ready_mono hj hji)
          unfold sOp at this
          simp only [hoj] at this
          exact this) H
      have H2 := sO_swap (hfree j oj hoj hji hjun hnot) (fun cs b => hsel i oi cs b hi) (fun cs b => hsel j oj cs b hoj) hF H'
      unfold sOp
      simp only [hoj]
      refine sO_mono hF (fun a' L' hF' h => ih (listed.setIfInBounds j true) a' L' hF' hfree' (ready_mono hr (Ne.symm hji)) ?_) H2
      rw [Array.setIfInBounds_comm _ _ hji]
      exact h

/-- The walk in the order of the text. -/
def sLex (P : Program) (ops : Array Oper) (F : Nat → Prop) (W : World) (Z : TypeId → Array Value) (vs : Nat → Value) (Qf : Act → Own → Prop) : List Oper → Nat → Act → Own → Prop
  | [], _, a, L => Qf a L
  | o :: rest, k, a, L => sO P ops F W Z o (vs k) (sLex P ops F W Z vs Qf rest (k + 1)) a L

theorem sAny_lex {Qf : Act → Own → Prop} (hs : Region.noSelect ops = true) : ∀ (l : List Oper) (k : Nat) (listed : Array Bool) (a : Act) (L : Own), Few L → (∀ j, l[j]? = ops[k + j]?) →
    Region.lexFrom md ops l.length k listed = true → sLex P ops F W Z vs Qf l k a L → sAny P md ops F W Z vs Qf l.length listed a L
  | [], _, _, _, _, _, _, hB, h => ⟨by simpa [Region.lexFrom] using hB, h⟩
  | o :: l, k, listed, a, L, hF, hl, hB, h => by
    have h0 : ops[k]? = some o := by simpa using (hl 0).symm
    simp only [List.length_cons, Region.lexFrom, Bool.and_eq_true] at hB
    obtain ⟨⟨hr, hf⟩, hB'⟩ := hB
    refine sAny_first h0 (Region.noSelect_spec hs) l.length listed a L hF (Region.free_spec h0 hf) (by simpa using hr) ?_
    exact sO_mono hF (fun a' L' hF' h' => sAny_lex hs l (k + 1) _ a' L' hF' (fun j => by have := hl (j + 1); simpa [Nat.add_assoc, Nat.add_comm 1 j] using this) hB' h') h
end

/-- What a slot holds at the end, if nothing later writes it. -/
theorem quiet_slot {P : Program} {ops : Array Oper} {C : World → Prop} {b : Act} (d : Tmp) : ∀ (l : List Oper) (a : Act), (∀ o ∈ l, o.dst ≠ some d) → wpQuiet P ops C (fun a' => a' = b) l a → b.tmps[d]? = a.tmps[d]?
  | [], a, _, h => by rw [show a = b from h]
  | o :: l, a, hn, h => by
    have key : ∀ v, (a.put o.dst v).tmps[d]? = a.tmps[d]? := fun v => by
      unfold Act.put
      split
      · rename_i d' hd'
        have : d' ≠ d := fun e => hn o (List.mem_cons_self ..) (by rw [hd', e])
        simp [Array.getElem?_setIfInBounds_ne this]
      · rfl
    unfold wpQuiet at h
    split at h
    · obtain ⟨v, _, h2⟩ := h
      rw [quiet_slot d l _ (fun o' ho' => hn o' (List.mem_cons_of_mem _ ho')) h2, key]
    · rw [quiet_slot d l _ (fun o' ho' => hn o' (List.mem_cons_of_mem _ ho')) h, key]
theorem put_size (a : Act) (d : Option Tmp) (v : Value) : (a.put d v).tmps.size = a.tmps.size := by
  unfold Act.put
  split <;> simp

/-- Each operation writes a slot of its own, and none is an allocation or a store. -/
def preB (n : Nat) : List Oper → Bool
  | [] => true
  | o :: l => (tk o.op).isNone && (match o.dst with | some d => decide (d < n) && l.all (fun o' => o'.dst != some d) | none => true) && preB n l

theorem sLex_pre {P : Program} {ops : Array Oper} {F : Nat → Prop} {W : World} {Z : TypeId → Array Value} {Qf : Act → Own → Prop} {b : Act} (n N : Nat) (vt : Nat → Value) (dst : Nat → Option Tmp) (tail : List Oper) (L : Own) : ∀ (l : List Oper) (k : Nat) (a : Act), k + l.length ≤ N → a.tmps.size = n → preB n l = true → (∀ j o, l[j]? = some o → dst (k + j) = o.dst) →
    (∀ V, Kept F W V → wpQuiet P ops (fun w' => Kept Nil V w') (fun a' => a' = b) l a) →
    sLex P ops F W Z (fun i => if i < N then (match dst i with | some d => b.tmps.getD d undef | none => undef) else vt i) Qf tail (k + l.length) b L →
    sLex P ops F W Z (fun i => if i < N then (match dst i with | some d => b.tmps.getD d undef | none => undef) else vt i) Qf (l ++ tail) k a L
  | [], k, a, _, _, _, _, hq, ht => by
    have : a = b := hq W (Kept.refl _ _)
    rw [this]
    exact ht
  | o :: l, k, a, hN, hsz, hp, hd, hq, ht => by
    simp only [preB, Bool.and_eq_true] at hp
    obtain ⟨⟨hk, hdst⟩, hp'⟩ := hp
    have hdk : dst k = o.dst := by simpa using hd 0 o rfl
    have hknd : knd ops o a = none := by
      unfold knd
      split
      · simpa using hk
      · rfl
    show sO P ops F W Z o _ _ a L
    unfold sO
    have hkN : k < N := by simp at hN; omega
    simp only [hknd, hdk, if_pos hkN]
    have slot : ∀ d, o.dst = some d → ∀ V, ∀ v, wpQuiet P ops (fun w' => Kept Nil V w') (fun a' => a' = b) l (a.put o.dst v) → b.tmps.getD d undef = v := fun d hd' V v h => by
      rw [hd'] at hdst
      simp only [Bool.and_eq_true, decide_eq_true_eq, List.all_eq_true, bne_iff_ne] at hdst
      have := quiet_slot d l _ (fun o' ho' => hdst.2 o' ho') h
      rw [hd'] at this
      simp only [Act.put, Array.getElem?_setIfInBounds_self] at this
      rw [if_pos (by rw [hsz]; exact hdst.1)] at this
      simp [Array.getD_eq_getD_getElem?, this]
    have rest : ∀ v, (∀ V, Kept F W V → wpQuiet P ops (fun w' => Kept Nil V w') (fun a' => a' = b) l (a.put o.dst v)) → sLex P ops F W Z (fun i => if i < N then (match dst i with | some d => b.tmps.getD d undef | none => undef) else vt i) Qf (l ++ tail) (k + 1) (a.put o.dst v) L := fun v hv =>
      sLex_pre n N vt dst tail L l (k + 1) _ (by simp at hN; omega) (by rw [put_size]; exact hsz) hp' (fun j o' hj => by have := hd (j + 1) o' (by simpa using hj); rw [← this]; congr 1; omega) hv (by rw [show k + 1 + l.length = k + (o :: l).length by simp; omega]; exact ht)
    unfold wpQuiet at hq
    unfold QuietAs valO
    by_cases hw : Region.wanted o (yielded ops a.tmps) = true
    · simp only [hw, if_true] at hq ⊢
      refine ⟨fun _ V hV => ?_, ?_⟩
      · obtain ⟨v, h1, h2⟩ := hq V hV
        refine ⟨v, h1 V (Kept.refl _ _), ?_⟩
        cases hdd : o.dst with
        | none => exact .inr rfl
        | some d => exact .inl (slot d hdd V v h2).symm
      · refine rest _ fun V hV => ?_
        obtain ⟨v, h1, h2⟩ := hq V hV
        cases hdd : o.dst with
        | none => rw [hdd] at h2; exact h2
        | some d =>
          have := slot d hdd V v h2
          simp only [this]
          rw [hdd] at h2
          exact h2
    · simp only [hw, Bool.false_eq_true, if_false] at hq ⊢
      exact ⟨fun h => h.elim, rest _ hq⟩

/-- **A region of quiet operations, then allocations, stores into them and into the blocks of F, assignments.** -/
theorem wp_region_own3 {P : Program} {id : Nat} {Q : Exit → Act → World → Prop} {a : Act} {w : World} {l : List Oper} (F : Nat → Prop) (L0 : Own) (Z : TypeId → Array Value) (n : Nat) (vt : Nat → Value) (hm : P.follows .mixedOrders = true) (hB : Region.lexB .any l.toArray = true)
    (hp : preB a.tmps.size (l.take n) = true) (hL : Holds F w L0 w)
    (h : ∃ b, (∀ V, Kept F w V → wpQuiet P l.toArray (fun w' => ∃ p : Regrown, w' = grow (redrawn V p.d) p.os) (fun a' => a' = b) (l.take n) a) ∧
      ∀ vs : Nat → Value, (∀ i, n ≤ i → vs i = vt i) → sLex P l.toArray F w Z vs (fun a' L => ∀ w', Holds F w L w' → Q .normal a' w') (l.drop n) (l.take n).length b L0) :
    (Code.region id l.toArray true).wp P Q a w := by
  obtain ⟨b, hq, ht⟩ := h
  simp only [Region.lexB, Bool.and_eq_true] at hB
  have hC : ∀ V : World, (fun w' : World => ∃ p : Regrown, w' = grow (redrawn V p.d) p.os) = fun w' => Kept Nil V w' := fun V => by
    funext w'
    refine propext ⟨fun ⟨p, h⟩ => by rw [h]; exact kept_grown V p, fun h => regrown_of_below ⟨h.os, h.tape, h.output, h.size, fun k hk => h.block k hk (fun hf => hf)⟩⟩
  simp only [hC] at hq
  have hlen : (l.take n).length ≤ n := by rw [List.length_take]; omega
  have ht2 := ht (fun i => if i < n then (match (l[i]?).bind (·.dst) with | some d => b.tmps.getD d undef | none => undef) else vt i) (fun i hi => by simp [Nat.not_lt.2 hi])
  have hlex := sLex_pre (P := P) (ops := l.toArray) (F := F) (W := w) (Z := Z) (Qf := fun a' L => ∀ w', Holds F w L w' → Q .normal a' w') (b := b) a.tmps.size n vt (fun i => (l[i]?).bind (·.dst)) (l.drop n) L0 (l.take n) 0 a (by omega) rfl hp
    (fun j o hj => by
      have h1 : j < n := by have := (List.getElem?_eq_some_iff.1 hj).1; omega
      have : l[j]? = some o := by rw [List.getElem?_take] at hj; simpa [h1] using hj
      simp [this]) hq (by simpa using ht2)
  rw [List.take_append_drop] at hlex
  have hany := sAny_lex (P := P) (md := .any) (W := w) hB.1 l 0 (Array.replicate l.toArray.size false) a L0 hL.few (by simp) (by simpa using hB.2) hlex
  refine wp_region_any hm ?_
  have hfin := sAny_sound (Q := Q) (fun _ _ u hu h => h u hu) _ _ _ L0 { w with drawn := w.drawn + 1 } ⟨hL.kept.drew, fun g b' cs t hg => ⟨(hL.own g b' cs t hg).1, (hL.own g b' cs t hg).2.drew⟩⟩ hany
  simpa using hfin
/-- .. where all the blocks are new. -/
theorem wp_region_own2 {P : Program} {id : Nat} {Q : Exit → Act → World → Prop} {a : Act} {w : World} {l : List Oper} (Z : TypeId → Array Value) (n : Nat) (hm : P.follows .mixedOrders = true) (hB : Region.lexB .any l.toArray = true)
    (hp : preB a.tmps.size (l.take n) = true)
    (h : ∃ b, (∀ V, Kept Nil w V → wpQuiet P l.toArray (fun w' => ∃ p : Regrown, w' = grow (redrawn V p.d) p.os) (fun a' => a' = b) (l.take n) a) ∧
      ∀ vs : Nat → Value, sLex P l.toArray Nil w Z vs (fun a' L => ∀ w', Holds Nil w L w' → Q .normal a' w') (l.drop n) (l.take n).length b (fun _ => none)) :
    (Code.region id l.toArray true).wp P Q a w :=
  wp_region_own3 Nil (fun _ => none) Z n (fun _ => undef) hm hB hp ⟨Kept.refl _ _, fun _ _ _ _ h => by cases h⟩ (by obtain ⟨b, h1, h2⟩ := h; exact ⟨b, h1, fun vs _ => h2 vs⟩)
theorem upd_new {L : Own} {g h : Nat} {x} (hn : upd L g x h = none) : h ≠ g := fun e => by rw [e, upd_same] at hn; cases hn
theorem upd_new' {L : Own} {g h : Nat} {x} (hn : upd L g x h = none) : L h = none := by rw [upd_ne _ _ (upd_new hn)] at hn; exact hn
/-- The steps behind: an allocation, a store, the end. -/
theorem sLex_alloc {P : Program} {ops : Array Oper} {F : Nat → Prop} {W : World} {Z : TypeId → Array Value} {vs : Nat → Value} {Qf : Act → Own → Prop} {o : Oper} {rest : List Oper} {k : Nat} {a : Act} {L : Own} (t : TypeId) (ho : o.op = .alloc t) (hg : o.guard = none) (h1 : ∀ (ρ : Operand → Value) (u : World), (execOp ρ o).run P u = .ok (.value (.pointer (some ⟨u.heap.size, 0, none⟩))) (u.alloc (.cells (Z t) t)))
    (h2 : ∀ g, W.heap.size ≤ g → L g = none → sLex P ops F W Z vs Qf rest (k + 1) (a.put o.dst (.pointer (some ⟨g, 0, none⟩))) (upd L g (false, Z t, t))) : sLex P ops F W Z vs Qf (o :: rest) k a L := by
  show sO P ops F W Z o _ _ a L
  have hk : knd ops o a = some (t, none) := by unfold knd; rw [ho, if_pos (by simp [Region.wanted, hg])]; rfl
  unfold sO
  simp only [hk]
  exact ⟨h1 _, h2⟩
theorem sLex_store {P : Program} {ops : Array Oper} {F : Nat → Prop} {W : World} {Z : TypeId → Array Value} {vs : Nat → Value} {Qf : Act → Own → Prop} {o : Oper} {rest : List Oper} {k : Nat} {a : Act} {L : Own} (t : TypeId) (p x : Operand) (ho : o.op = .store t p x) (hg : o.guard = none) (hd : o.dst = none) (g : Nat) (cs cs' : Array Value)
    (hp : a.eval p = .pointer (some ⟨g, 0, none⟩)) (hL : L g = some (false, cs, t)) (hx : (a.eval x).cells = cs') (hs : cs.size = cs'.size) (hi : (P.info? t).map (·.size) = some cs'.size) (h1 : cs'.all (·.oneCell') = true)
    (h2 : sLex P ops F W Z vs Qf rest (k + 1) a (upd L g (true, cs', t))) : sLex P ops F W Z vs Qf (o :: rest) k a L := by
  show sO P ops F W Z o _ _ a L
  subst hx
  have hk : knd ops o a = some (t, some (p, x)) := by unfold knd; rw [ho, if_pos (by simp [Region.wanted, hg])]; rfl
  have hb : blk (a.eval p) = g := by rw [hp]; rfl
  unfold sO
  simp only [hk, hb, hd]
  exact ⟨⟨⟨g, cs, hp, hL, hs⟩, hi, h1⟩, h2⟩
def noOwn : Own := fun _ => none
theorem holds_one {w : World} {g : Nat} {t : TypeId} {cs : Array Value} (h : Blo w g t cs) : Holds (One g) w (upd noOwn g (false, cs, t)) w := by
  refine ⟨Kept.refl _ _, fun k b cs' t' hL => ?_⟩
  by_cases hk : k = g
  · subst hk
    rw [upd_same] at hL
    simp at hL
    obtain ⟨rfl, rfl, rfl⟩ := hL
    exact ⟨.inl rfl, h⟩
  · rw [upd_ne _ _ hk] at hL
    cases hL
theorem sLex_assign {P : Program} {ops : Array Oper} {F : Nat → Prop} {W : World} {Z : TypeId → Array Value} {vs : Nat → Value} {Qf : Act → Own → Prop} {o : Oper} {rest : List Oper} {k : Nat} {a : Act} {L : Own} (x : Operand) (ho : o.op = .assign x) (hg : o.guard = none) (hv : vs k = a.eval x)
    (h2 : sLex P ops F W Z vs Qf rest (k + 1) (a.put o.dst (a.eval x)) L) : sLex P ops F W Z vs Qf (o :: rest) k a L := by
  show sO P ops F W Z o _ _ a L
  have hw : Region.wanted o (yielded ops a.tmps) = true := by simp [Region.wanted, hg]
  have hk : knd ops o a = none := by unfold knd; rw [ho, if_pos hw]; rfl
  unfold sO valO
  simp only [hk, hw, if_true, hv]
  refine ⟨fun _ V _ => ⟨a.eval x, ?_, .inl rfl⟩, h2⟩
  unfold Oper.quietAt execOp
  simp only [ho]
  exact ⟨rfl, rfl⟩
end Go.Proofs.YtiehmpiaddjhiaaDoor
