/- Texts that belong together, one behind the other: TrG, SumM. Conditions: those of each. -/
import Derived.Test.YthjbabkmjmfmjaaDoorProg
import Derived.Test.YthjbabkmjmfmjaaDoorMg0
import Derived.Maps.OwnSet
import Derived.Maps.OwnOps
import Derived.WalkSpells
import Derived.WalkLawsBesides
import Derived.Lib.Hide
import Derived.Outline
/- Package trans: where the sums stand (a map). -/
namespace Go.Proofs.YthjbabkmjmfmjaaDoor
open Go.RowKit
open Go.Maps (Keyed int_keyed keyOf_int_mk)
set_option linter.unusedVariables false

/-- A literal's entry. -/
theorem wpList_insert_own {H : Type} {P : Program} (w : World) {ops : Array Oper} {rest : List Oper} {o : Oper} {a : Act} {Q : Exit → Act → World → Prop}
    (hg : o.guard = none) (m x v : Operand) (t : TypeId) (hop : o.op = Op.insert t m x v)
    (k e : TypeId) (K : Keyed P k) (ht : P.underlying t = some (.map k e)) (R : Value → Option (DataW H × List MemPlace)) (b n : Nat) (D : DataW H)
    (hm : a.eval m = .map (some b)) (hown : w.ownsMap P k R b n D) (hn : n < maxLen) (key val : Value) (kl : Lit) (hx : a.eval x = key) (hv : a.eval v = val) (hkey : keyOf P k key = some kl)
    (d : DataW H) (ps : List MemPlace) (hval : R val = some (d, ps))
    (hK : ∀ w', w'.ownsMap P k R b (n + 1) (D.put kl d) → w.grownBy w' (some b) → wpList P ops Q rest (a.put o.dst undef) w') :
    wpList P ops Q (o :: rest) a w := by
  refine wpList_plain hg fun K' hK' => ?_
  obtain ⟨w', hrun, r1, r2⟩ := hown.update K ht hn hkey hval
  unfold Oper.wp
  simp [execOp, hop, hm, hx, hv, hrun, Result.andThen]
  exact hK' _ _ (hK w' r1 r2)
def sumsD : DataW Unit := ((DataW.map []).put (.int .u8 6) (.lit (.int .i64 16))).put (.int .u8 17) (.lit (.int .i64 6))
theorem sumsD_is : sumsD = .map [(.int .u8 6, .lit (.int .i64 16)), (.int .u8 17, .lit (.int .i64 6))] := rfl
theorem sums_at (p : Nat) : sumsD.atKey (.int .u8 (p : Int)) (.lit (.int .i64 0)) = .lit (.int .i64 (if p = 6 then 16 else if p = 17 then 6 else 0)) ∧ Maps.has sumsD (.int .u8 (p : Int)) = decide (p = 6 ∨ p = 17) := by
  rw [sumsD_is]
  by_cases h6 : p = 6
  · subst h6; exact ⟨rfl, rfl⟩
  · by_cases h17 : p = 17
    · subst h17; exact ⟨rfl, rfl⟩
    · have e6 : Lit.sameKey (.int .u8 6) (.int .u8 (p : Int)) = false := by simp [Lit.sameKey]; omega
      have e17 : Lit.sameKey (.int .u8 17) (.int .u8 (p : Int)) = false := by simp [Lit.sameKey]; omega
      refine ⟨?_, ?_⟩
      · rw [if_neg h6, if_neg h17]
        simp [DataW.atKey, e6, e17]
      · simp [Maps.has, e6, e17, h6, h17]
theorem zeroI (w : World) : (zeroValue 3).run Tryd.prog w = .ok (.int .i64 0) w := by kernel_rfl
set_option maxRecDepth 100000 in
theorem sums_yes (w : World) : Calls Tryd.prog 45 #[] w fun e w' => ∃ g, e = .returned (.map (some g)) ∧ w'.ownsMap Tryd.prog 5 (plainElem Tryd.prog 3) g 2 sumsD ∧ Kept Nil w w' := by
  have hmm := @run_makeMap Tryd.prog
  have h0 := World.ownsMap_made (H := Unit) w Tryd.prog 5 (plainElem Tryd.prog 3)
  have HK := Lib.hid ((Kept.refl Nil w).alloc (.map #[] 0))
  go_enter Tryd.func45, Tryd.ntmps45
  go_wp2_with (first
    | (refine wpList_insert_own _ rfl _ _ _ _ rfl 5 3 (int_keyed Tryd.underlying5) Tryd.underlying91 _ w.heap.size 0 (.map []) rfl h0 (by unfold maxLen; omega) (.int .u8 6) (.int .i64 16) (.int .u8 6) rfl rfl (keyOf_int_mk Tryd.underlying5 (by decide)) (.lit (.int .i64 16)) [] (plainElem_int Tryd.underlying3 (by decide)) ?_; intro w1 h1 g1; simp only [Act.put])
    | (refine wpList_insert_own _ rfl _ _ _ _ rfl 5 3 (int_keyed Tryd.underlying5) Tryd.underlying91 _ w.heap.size 1 _ rfl h1 (by unfold maxLen; omega) (.int .u8 17) (.int .i64 6) (.int .u8 17) rfl rfl (keyOf_int_mk Tryd.underlying5 (by decide)) (.lit (.int .i64 6)) [] (plainElem_int Tryd.underlying3 (by decide)) ?_; intro w2 h2 g2; simp only [Act.put])
    | fail)

  go_ret
  refine ⟨_, rfl, h2, ?_⟩
  exact (HK.out.grown g1 (fun k hk hl => by cases hk; omega)).grown g2 (fun k hk hl => by cases hk; omega)
end Go.Proofs.YthjbabkmjmfmjaaDoor
/- Sums of words, as plain numbers: nothing of the program is named here. -/
namespace Go.Proofs.YthjbabkmjmfmjaaDoor

/-- One byte more: the sum so far, and whether the byte is the high one. -/
def stepS (x : Nat × Bool) (b : UInt8) : Nat × Bool := (x.1 + (if x.2 then b.toNat * 256 else b.toNat), !x.2)
def runS (x : Nat × Bool) (l : List UInt8) : Nat × Bool := l.foldl stepS x
/-- What goes over 16 bits is added at the low end, until nothing does. -/
def fold16 (s : Nat) : Nat := if s = 0 then 0 else (s - 1) % 65535 + 1
def csumM (l : List UInt8) : Nat := 65535 - fold16 (runS (0, true) l).1

theorem runS_app (x : Nat × Bool) (l m : List UInt8) : runS x (l ++ m) = runS (runS x l) m := by simp [runS]
theorem runS_snoc (x : Nat × Bool) (l : List UInt8) (b : UInt8) : runS x (l ++ [b]) = stepS (runS x l) b := by simp [runS]
theorem runS_le (l : List UInt8) (x : Nat × Bool) : (runS x l).1 ≤ x.1 + 65280 * l.length := by
  induction l generalizing x with
  | nil => simp [runS]
  | cons b l ih =>
    have h1 := ih (stepS x b)
    have h2 := b.toNat_lt
    have h3 : (stepS x b).1 ≤ x.1 + 65280 := by unfold stepS; cases x.2 <;> simp <;> omega
    simp only [runS, List.foldl_cons, List.length_cons] at h1 ⊢
    omega
theorem fold16_le (s : Nat) : fold16 s ≤ 65535 := by unfold fold16; split <;> omega
theorem fold16_small (s : Nat) (h : s ≤ 65535) : fold16 s = s := by unfold fold16; split <;> omega
theorem fold16_step (s : Nat) (h : 65535 < s) : fold16 (s / 65536 + s % 65536) = fold16 s := by
  unfold fold16
  rw [if_neg (by omega), if_neg (by omega)]
  omega
theorem fold_less (s : Nat) (h : 65535 < s) : s / 65536 + s % 65536 < s := by omega
end Go.Proofs.YthjbabkmjmfmjaaDoor
