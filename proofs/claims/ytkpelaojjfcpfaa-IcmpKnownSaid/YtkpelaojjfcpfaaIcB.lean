/- Package icmp: the map of kinds; contracts of Kind, isOfPair, Back. -/
import Derived.Test.YtkpelaojjfcpfaaIcA
import Derived.Maps.OwnSet
import Derived.Maps.OwnOps
import Derived.WalkSpells
import Derived.WalkLawsBesides
import Derived.Lib.Hide
import Derived.Outline
import Derived.Test.YtkpelaojjfcpfaaRegT
import Derived.BigCall
import Derived.Deep.DeepCutAuto
import Derived.BigQuiet
import Derived.BigRegion
import Derived.Deep.QuietTactic
import Derived.Test.YtkpelaojjfcpfaaUpto
namespace Go.Proofs.Ytkpelaojjfcpfaa
open Go.RowKit Go.Sort
open Go.Maps (Keyed int_keyed keyOf_int_mk)
set_option linter.unusedVariables false

/-- A literal's entry. -/
theorem wpList_insert_ic {H : Type} {P : Program} (w : World) {ops : Array Oper} {rest : List Oper} {o : Oper} {a : Act} {Q : Exit → Act → World → Prop}
    (hg : o.guard = none) (m x v : Operand) (t : TypeId) (hop : o.op = Op.insert t m x v)
    (k e : TypeId) (K : Keyed P k) (ht : P.underlying t = some (.map k e)) (R : Value → Option (DataW H × List MemPlace)) (b n : Nat) (D : DataW H)
    (hm : a.eval m = .map (some b)) (hown : w.ownsMap P k R b n D) (hn : n < maxLen) (key val : Value) (kl : Lit) (hx : a.eval x = key) (hv : a.eval v = val) (hkey : keyOf P k key = some kl)
    (d : DataW H) (ps : List MemPlace) (hval : R val = some (d, ps))
    (hK : ∀ w', w'.ownsMap P k R b (n + 1) (D.put kl d) → w.grownBy w' (some b) → wpList P ops Q rest (a.put o.dst undef) w') :
    wpList P ops Q (o :: rest) a w := by
  refine wpList_plain hg fun K' hK' => ?_
  obtain ⟨w', hrun, r1, r2⟩ := hown.update K ht hn hkey hval
  unfold Oper.wp
  simp [execOp, hop, hm, hx, hv, hrun, Result.andThen]
  exact hK' _ _ (hK w' r1 r2)
/-- A look-up, whatever the elements are. -/
theorem wpList_lookup_ic {H : Type} {P : Program} (w : World) {ops : Array Oper} {rest : List Oper} {o : Oper} {a : Act} {Q : Exit → Act → World → Prop}
    (hg : o.guard = none) (m x : Operand) (t : TypeId) (hop : o.op = Op.lookup t m x false)
    (k e : TypeId) (K : Keyed P k) (ht : P.underlying t = some (.map k e)) (R : Value → Option (DataW H × List MemPlace)) {z : Value} (hz : (zeroValue e).run P w = .ok z w) {zd : DataW H} {zp : List MemPlace} (hzd : R z = some (zd, zp)) (b n : Nat) (D : DataW H)
    (hm : a.eval m = .map (some b)) (hown : w.ownsMap P k R b n D) (key : Value) (kl : Lit) (hx : a.eval x = key) (hkey : keyOf P k key = some kl)
    (hK : ∀ v ps, R v = some (D.atKey kl zd, ps) → wpList P ops Q rest (a.put o.dst v) w) :
    wpList P ops Q (o :: rest) a w := by
  refine wpList_plain hg fun K' hK' => ?_
  obtain ⟨v, ps, hrun, hat⟩ := hown.lookup K ht hz hzd hkey
  unfold Oper.wp
  simp [execOp, hop, hm, hx, hrun, Result.andThen]
  exact hK' _ _ (hK v ps hat)
theorem ownsMap_nil {H : Type} {w w' : World} {P : Program} {k : TypeId} {R : Value → Option (DataW H × List MemPlace)} {b n : Nat} {D : DataW H} (h : w.ownsMap P k R b n D) (hk : Kept Nil w w') : w'.ownsMap P k R b n D := by
  have hlt := h.lt
  obtain ⟨es, clock, hb, F, hs, hD⟩ := h
  exact ⟨es, clock, (hk.block b hlt (fun hf => hf)).trans hb, F, hs, hD⟩
/-- What is known of a type, as a datum. -/
def abL (l : List Value) : Option (DataW Unit × List MemPlace) := match l with
  | [.int .i64 a, .int .u8 b] => some (.agg [.lit (.int .i64 a), .lit (.int .u8 b)], [])
  | _ => none
def abR (v : Value) : Option (DataW Unit × List MemPlace) := match v with
  | .agg cs => abL cs.toList
  | _ => none
theorem abR_is (a b : Int) : abR (.agg #[.int .i64 a, .int .u8 b]) = some (.agg [.lit (.int .i64 a), .lit (.int .u8 b)], []) := rfl
theorem abR_inv {v : Value} {a b : Int} {ps : List MemPlace} (h : abR v = some (.agg [.lit (.int .i64 a), .lit (.int .u8 b)], ps)) : v = .agg #[.int .i64 a, .int .u8 b] := by
  unfold abR at h
  split at h
  · rename_i cs
    unfold abL at h
    split at h
    · rename_i e
      cases h
      have : cs = ⟨[Value.int .i64 a, .int .u8 b]⟩ := by rw [← e]
      rw [this]
    · cases h
  · cases h
def abS (d : DataW Unit) : Option (Int × Int) := match d with
  | .agg [.lit (.int .i64 a), .lit (.int .u8 b)] => some (a, b)
  | _ => none
theorem abS_inv {d : DataW Unit} {a b : Int} (h : abS d = some (a, b)) : d = .agg [.lit (.int .i64 a), .lit (.int .u8 b)] := by
  unfold abS at h
  split at h
  · cases h; rfl
  · cases h
def typD0 : DataW Unit := .map []
def typD1 : DataW Unit := typD0.put (.int .u8 3) (.agg [.lit (.int .i64 1), .lit (.int .u8 0)])
def typD2 : DataW Unit := typD1.put (.int .u8 4) (.agg [.lit (.int .i64 1), .lit (.int .u8 0)])
def typD3 : DataW Unit := typD2.put (.int .u8 5) (.agg [.lit (.int .i64 1), .lit (.int .u8 0)])
def typD4 : DataW Unit := typD3.put (.int .u8 11) (.agg [.lit (.int .i64 1), .lit (.int .u8 0)])
def typD5 : DataW Unit := typD4.put (.int .u8 12) (.agg [.lit (.int .i64 1), .lit (.int .u8 0)])
def typD6 : DataW Unit := typD5.put (.int .u8 8) (.agg [.lit (.int .i64 2), .lit (.int .u8 0)])
def typD7 : DataW Unit := typD6.put (.int .u8 13) (.agg [.lit (.int .i64 2), .lit (.int .u8 14)])
def typD8 : DataW Unit := typD7.put (.int .u8 15) (.agg [.lit (.int .i64 2), .lit (.int .u8 16)])
def typD9 : DataW Unit := typD8.put (.int .u8 17) (.agg [.lit (.int .i64 2), .lit (.int .u8 18)])
def typD10 : DataW Unit := typD9.put (.int .u8 0) (.agg [.lit (.int .i64 3), .lit (.int .u8 8)])
def typD11 : DataW Unit := typD10.put (.int .u8 14) (.agg [.lit (.int .i64 3), .lit (.int .u8 13)])
def typD12 : DataW Unit := typD11.put (.int .u8 16) (.agg [.lit (.int .i64 3), .lit (.int .u8 15)])
def typD13 : DataW Unit := typD12.put (.int .u8 18) (.agg [.lit (.int .i64 3), .lit (.int .u8 17)])
set_option maxRecDepth 100000 in
theorem typ_all : ∀ t : Fin 256, abS (typD13.atKey (.int .u8 (t.val : Int)) (.agg [.lit (.int .i64 0), .lit (.int .u8 0)])) = some ((kindN t.val : Int), (backN t.val : Int)) := by decide +kernel
theorem typ_at (t : UInt8) : typD13.atKey (.int .u8 (t.toNat : Int)) (.agg [.lit (.int .i64 0), .lit (.int .u8 0)]) = .agg [.lit (.int .i64 (kindN t.toNat : Int)), .lit (.int .u8 (backN t.toNat : Int))] :=
  abS_inv (typ_all ⟨t.toNat, t.toNat_lt⟩)
theorem zeroAb (w : World) : (zeroValue 72).run Try.prog w = .ok (.agg #[.int .i64 0, .int .u8 0]) w := by kernel_rfl
theorem fl_0 (x y : Value) (w : World) : (Instr.field 72 (.agg #[x, y]) 0).run Try.prog w = .ok x w := by kernel_rfl
theorem fl_1 (x y : Value) (w : World) : (Instr.field 72 (.agg #[x, y]) 1).run Try.prog w = .ok y w := by kernel_rfl
def Typ (w : World) (g : Nat) : Prop := w.ownsMap Try.prog 5 abR g 13 typD13
set_option maxRecDepth 100000 in
set_option maxHeartbeats 8000000 in
theorem types_yes (w : World) : Calls Try.prog 33 #[] w fun e w' => ∃ g, e = .returned (.map (some g)) ∧ Typ w' g ∧ w.heap.size ≤ g ∧ Kept Nil w w' := by
  have hmm := @run_makeMap Try.prog
  have h0 : (w.alloc (.map #[] 0)).ownsMap Try.prog 5 abR w.heap.size 0 typD0 := World.ownsMap_made (H := Unit) w Try.prog 5 abR
  have HK0 := Lib.hid ((Kept.refl Nil w).alloc (.map #[] 0))
  have HKY := fun (t : Int) (h : (Lit.int IntKind.u8 t).wf = true) => keyOf_int_mk Try.underlying5 h
  go_enter Try.func33, Try.ntmps33
  go_wp2_with (first
    | (refine wpList_insert_ic _ rfl _ _ _ _ rfl 5 72 (int_keyed Try.underlying5) Try.underlying73 abR w.heap.size 0 typD0 rfl h0 (by unfold maxLen; omega) (.int .u8 3) (.agg #[.int .i64 1, .int .u8 0]) (.int .u8 3) rfl rfl (HKY 3 (by decide)) (.agg [.lit (.int .i64 1), .lit (.int .u8 0)]) [] rfl ?_; intro w1 h1 g1; clear h0; simp only [Act.put])
    | (refine wpList_insert_ic _ rfl _ _ _ _ rfl 5 72 (int_keyed Try.underlying5) Try.underlying73 abR w.heap.size 1 typD1 rfl h1 (by unfold maxLen; omega) (.int .u8 4) (.agg #[.int .i64 1, .int .u8 0]) (.int .u8 4) rfl rfl (HKY 4 (by decide)) (.agg [.lit (.int .i64 1), .lit (.int .u8 0)]) [] rfl ?_; intro w2 h2 g2; clear h1; simp only [Act.put])
    | (refine wpList_insert_ic _ rfl _ _ _ _ rfl 5 72 (int_keyed Try.underlying5) Try.underlying73 abR w.heap.size 2 typD2 rfl h2 (by unfold maxLen; omega) (.int .u8 5) (.agg #[.int .i64 1, .int .u8 0]) (.int .u8 5) rfl rfl (HKY 5 (by decide)) (.agg [.lit (.int .i64 1), .lit (.int .u8 0)]) [] rfl ?_; intro w3 h3 g3; clear h2; simp only [Act.put])
    | (refine wpList_insert_ic _ rfl _ _ _ _ rfl 5 72 (int_keyed Try.underlying5) Try.underlying73 abR w.heap.size 3 typD3 rfl h3 (by unfold maxLen; omega) (.int .u8 11) (.agg #[.int .i64 1, .int .u8 0]) (.int .u8 11) rfl rfl (HKY 11 (by decide)) (.agg [.lit (.int .i64 1), .lit (.int .u8 0)]) [] rfl ?_; intro w4 h4 g4; clear h3; simp only [Act.put])
    | (refine wpList_insert_ic _ rfl _ _ _ _ rfl 5 72 (int_keyed Try.underlying5) Try.underlying73 abR w.heap.size 4 typD4 rfl h4 (by unfold maxLen; omega) (.int .u8 12) (.agg #[.int .i64 1, .int .u8 0]) (.int .u8 12) rfl rfl (HKY 12 (by decide)) (.agg [.lit (.int .i64 1), .lit (.int .u8 0)]) [] rfl ?_; intro w5 h5 g5; clear h4; simp only [Act.put])
    | (refine wpList_insert_ic _ rfl _ _ _ _ rfl 5 72 (int_keyed Try.underlying5) Try.underlying73 abR w.heap.size 5 typD5 rfl h5 (by unfold maxLen; omega) (.int .u8 8) (.agg #[.int .i64 2, .int .u8 0]) (.int .u8 8) rfl rfl (HKY 8 (by decide)) (.agg [.lit (.int .i64 2), .lit (.int .u8 0)]) [] rfl ?_; intro w6 h6 g6; clear h5; simp only [Act.put])
    | (refine wpList_insert_ic _ rfl _ _ _ _ rfl 5 72 (int_keyed Try.underlying5) Try.underlying73 abR w.heap.size 6 typD6 rfl h6 (by unfold maxLen; omega) (.int .u8 13) (.agg #[.int .i64 2, .int .u8 14]) (.int .u8 13) rfl rfl (HKY 13 (by decide)) (.agg [.lit (.int .i64 2), .lit (.int .u8 14)]) [] rfl ?_; intro w7 h7 g7; clear h6; simp only [Act.put])
    | (refine wpList_insert_ic _ rfl _ _ _ _ rfl 5 72 (int_keyed Try.underlying5) Try.underlying73 abR w.heap.size 7 typD7 rfl h7 (by unfold maxLen; omega) (.int .u8 15) (.agg #[.int .i64 2, .int .u8 16]) (.int .u8 15) rfl rfl (HKY 15 (by decide)) (.agg [.lit (.int .i64 2), .lit (.int .u8 16)]) [] rfl ?_; intro w8 h8 g8; clear h7; simp only [Act.put])
    | (refine wpList_insert_ic _ rfl _ _ _ _ rfl 5 72 (int_keyed Try.underlying5) Try.underlying73 abR w.heap.size 8 typD8 rfl h8 (by unfold maxLen; omega) (.int .u8 17) (.agg #[.int .i64 2, .int .u8 18]) (.int .u8 17) rfl rfl (HKY 17 (by decide)) (.agg [.lit (.int .i64 2), .lit (.int .u8 18)]) [] rfl ?_; intro w9 h9 g9; clear h8; simp only [Act.put])
    | (refine wpList_insert_ic _ rfl _ _ _ _ rfl 5 72 (int_keyed Try.underlying5) Try.underlying73 abR w.heap.size 9 typD9 rfl h9 (by unfold maxLen; omega) (.int .u8 0) (.agg #[.int .i64 3, .int .u8 8]) (.int .u8 0) rfl rfl (HKY 0 (by decide)) (.agg [.lit (.int .i64 3), .lit (.int .u8 8)]) [] rfl ?_; intro w10 h10 g10; clear h9; simp only [Act.put])
    | (refine wpList_insert_ic _ rfl _ _ _ _ rfl 5 72 (int_keyed Try.underlying5) Try.underlying73 abR w.heap.size 10 typD10 rfl h10 (by unfold maxLen; omega) (.int .u8 14) (.agg #[.int .i64 3, .int .u8 13]) (.int .u8 14) rfl rfl (HKY 14 (by decide)) (.agg [.lit (.int .i64 3), .lit (.int .u8 13)]) [] rfl ?_; intro w11 h11 g11; clear h10; simp only [Act.put])
    | (refine wpList_insert_ic _ rfl _ _ _ _ rfl 5 72 (int_keyed Try.underlying5) Try.underlying73 abR w.heap.size 11 typD11 rfl h11 (by unfold maxLen; omega) (.int .u8 16) (.agg #[.int .i64 3, .int .u8 15]) (.int .u8 16) rfl rfl (HKY 16 (by decide)) (.agg [.lit (.int .i64 3), .lit (.int .u8 15)]) [] rfl ?_; intro w12 h12 g12; clear h11; simp only [Act.put])
    | (refine wpList_insert_ic _ rfl _ _ _ _ rfl 5 72 (int_keyed Try.underlying5) Try.underlying73 abR w.heap.size 12 typD12 rfl h12 (by unfold maxLen; omega) (.int .u8 18) (.agg #[.int .i64 3, .int .u8 17]) (.int .u8 18) rfl rfl (HKY 18 (by decide)) (.agg [.lit (.int .i64 3), .lit (.int .u8 17)]) [] rfl ?_; intro w13 h13 g13; clear h12; simp only [Act.put])
    | fail)
  go_ret
  refine ⟨_, rfl, h13, Nat.le_refl _, ?_⟩
  have hq : ∀ k, some w.heap.size = some k → k < w.heap.size → Nil k := fun k hk hl => by cases hk; omega
  exact (((((((((((((HK0.out.grown g1 hq).grown g2 hq).grown g3 hq).grown g4 hq).grown g5 hq).grown g6 hq).grown g7 hq).grown g8 hq).grown g9 hq).grown g10 hq).grown g11 hq).grown g12 hq).grown g13 hq)

/-- The region's act: the map is made. -/
def typI (n0 : Nat) (D : Nat → Prop) (s : List Value) (u : World) : Prop := n0 ≤ u.heap.size ∧ match s with
  | [] => True
  | v :: _ => ∃ g, v = .map (some g) ∧ Typ u g
theorem typI_keeps (n0 : Nat) : Keeps (typI n0) where
  quiet := fun D s u u' ⟨h1, h2⟩ hk => ⟨Nat.le_trans h1 hk.size, by
    cases s with
    | nil => trivial
    | cons v s => obtain ⟨g, hv, h⟩ := h2; exact ⟨g, hv, ownsMap_nil h hk⟩⟩
  make := fun D s u o ⟨h1, h2⟩ => ⟨by simp; omega, by
    cases s with
    | nil => trivial
    | cons v s => obtain ⟨g, hv, h⟩ := h2; exact ⟨g, hv, ownsMap_nil h ((Kept.refl Nil u).alloc o)⟩⟩
set_option maxRecDepth 100000 in
set_option maxHeartbeats 8000000 in
theorem kind_yes (m : Ms) (A : Option Addr) (n c : Nat) (w : World) : Calls Try.prog 14 #[msv m A n c] w fun e w' => e = .returned (.int .i64 (kindN m.t.toNat : Int)) ∧ Kept Nil w w' := by
  have hP := MB.new w 25 m A n c
  have hk := (Kept.refl Nil w).alloc (.cells (ics m A n c).toArray 25)
  have HAT := Lib.hid (typ_at m.t)
  have HKY := Lib.hid (keyOf_int_mk (a := (m.t.toNat : Int)) Try.underlying5 (by have := m.t.toNat_lt; simp [Lit.wf, IntKind.min, IntKind.max, IntKind.signed, IntKind.bits]; omega))
  go_enter Try.func14, Try.ntmps14
  go_upto_region 1 with (fail)
  refine wp_nameE (fun W => MB W w.heap.size 25 m A n c ∧ Kept Nil w W) ⟨hP, hk⟩ ?_
  clear hP hk
  rintro W ⟨hP, hk⟩
  have HP := Lib.hid hP
  have HK := Lib.hid hk
  clear hP hk
  refine wp_region_acts Nil [0] (fun i vl => (#[], 0)) (fun i => undef) (typI W.heap.size) (fun i v => ∃ g, v = .map (some g)) 3 (by kernel_rfl) (by kernel_rfl) (typI_keeps _) ⟨Nat.le_refl _, trivial⟩ ?_
  simp only [List.take_succ_cons, List.take_zero, List.drop_succ_cons, List.drop_zero]
  refine tLex_act 33 #[] (fun u => ?he) rfl rfl (.map (some 0)) ⟨0, rfl⟩ ?hc ?_
  case he => simp [execOp, go_sem]
  case hc =>
    intro D u hu hI hd
    refine (types_yes u).mono ?_
    rintro e w' ⟨g, rfl, hm, hg, hk⟩
    exact ⟨_, rfl, ⟨g, rfl⟩, hu.then hk, ⟨Nat.le_trans hI.1 hk.size, g, rfl, hm⟩, hk.size, fun k _ hk' => hk.block k hk' (fun hf => hf)⟩
  rintro v ⟨g, rfl⟩
  simp only [Act.put, mkVal, List.setIfInBounds_toArray, List.set_cons_succ, List.set_cons_zero]
  refine tLex_quiets 2 rfl (by kernel_rfl) ?_
  simp only [List.take_succ_cons, List.take_zero, List.drop_succ_cons, List.drop_zero]
  apply Exists.intro
  refine ⟨?hq, ?hv, ?ht⟩
  case hq =>
    intro V hV
    have c0 := fun d os => (Blo.gcell (HP.out.kept hV (fun hf => hf)) 0 d os)
    simp only [ics, List.getElem?_toArray, List.getElem?_cons_zero] at c0
    clear hV
    repeat (go_big_quiet_step (fail))
    exact wpQuiet_nil rfl
  case hv => exact ⟨trivial, trivial, trivial⟩
  case ht =>
    intro w5 hs
    obtain ⟨_, g', he, hm⟩ := hs.know
    cases he
    have HM := Lib.hid hm
    have HK5 := Lib.hid (HK.out.then hs.kept)
    clear hs hm
    have hf0 := fl_0
    go_wp2_with (first
      | (at_lookup; refine wpList_lookup_ic _ rfl _ _ _ rfl 5 72 (int_keyed Try.underlying5) Try.underlying73 abR (zeroAb _) (abR_is 0 0) g 13 typD13 rfl HM.out _ _ rfl HKY.out ?_; intro v ps hat; rw [HAT.out] at hat; have hv := abR_inv hat; clear hat; subst hv; simp only [Act.put])
      | fail)
    go_ret
    exact ⟨rfl, HK5.out⟩
end Go.Proofs.Ytkpelaojjfcpfaa
