/- Texts that belong together, one behind the other: DhR, DhS. Conditions: those of each. -/
import Derived.Test.YthjfeanmgaidcaaMg20
import Derived.Test.YthjfeanmgaidcaaMg13
/- tollref09: messages; contracts of Value, Number, Wide, Type. -/
namespace Go.Proofs.Ythjfeanmgaidcaa
open Go.RowKit Go.Sort
set_option linter.unusedVariables false

/-- The document's own message: its slices read. -/
structure RfIn (w : World) (h : Dh) (vh vo vb : Value) : Prop where
  hd : ∃ A n c, vh = .slice A n c ∧ Byt w A n c (headB h)
  o : ∃ A n c, vo = .slice A n c ∧ Opts (fun _ => True) .i64 w A n c h.os
  b : ∃ A n c, vb = .slice A n c ∧ Byt w A n c h.bh
theorem RfIn.nil {w w' : World} {h : Dh} {vh vo vb : Value} (a : RfIn w h vh vo vb) (q : Kept Nil w w') : RfIn w' h vh vo vb := by
  obtain ⟨⟨A1, n1, c1, e1, h1⟩, ⟨A2, n2, c2, e2, h2⟩, ⟨A3, n3, c3, e3, h3⟩⟩ := a
  exact ⟨⟨A1, n1, c1, e1, h1.kept q (fun _ _ hf => hf)⟩, ⟨A2, n2, c2, e2, h2.kept q (fun _ _ hf => hf)⟩, ⟨A3, n3, c3, e3, h3.kept q (fun _ _ hf => hf)⟩⟩
def rfv (vh vo vb : Value) : Value := .agg #[vh, vo, vb]
theorem RfIn.one {w : World} {h : Dh} {vh vo vb : Value} (a : RfIn w h vh vo vb) : ∀ u ∈ [vh, vo, vb], u.oneCell' = true := by
  obtain ⟨⟨A1, n1, c1, rfl, h1⟩, ⟨A2, n2, c2, rfl, h2⟩, ⟨A3, n3, c3, rfl, h3⟩⟩ := a
  intro u hu
  simp at hu
  rcases hu with rfl | rfl | rfl <;> rfl
theorem infRf (a b c : Value) : (Try.prog.info? 43).map (·.size) = some [a, b, c].length := by kernel_rfl
theorem valD_take (c : UInt8) (os : List Opn) (k : Nat) (h : k < os.length) : (valD c (os.take (k + 1))).1 = (valD c (os.take k)).1 ++ (if hasD c = true ∧ os[k].1 = c then os[k].2 else []) ∧ (valD c (os.take (k + 1))).2 = ((valD c (os.take k)).2 || (hasD c && decide (os[k].1 = c))) := by
  unfold valD
  cases hh : hasD c with
  | false => simp
  | true => simp [valM_take c os k h, isM_take c os k h]
theorem hasD_lt (c : UInt8) : hasD c = (decide ((0 : Int) < (c.toNat : Int)) && decide ((c.toNat : Int) < 255)) := by
  have h := c.toNat_lt
  unfold hasD
  rw [Bool.eq_iff_iff]
  simp only [decide_eq_true_eq, Bool.and_eq_true]
  constructor
  · rintro ⟨h0, h1⟩
    have h2 : c.toNat ≠ 0 := fun e => h0 (UInt8.toNat_inj.1 e)
    have h3 : c.toNat ≠ 255 := fun e => h1 (UInt8.toNat_inj.1 e)
    omega
  · rintro ⟨h0, h1⟩
    exact ⟨fun e => by subst e; simp at h0, fun e => by subst e; simp at h1⟩
end Go.Proofs.Ythjfeanmgaidcaa
/- tollref09: contracts of Number, Wide, Type. -/
namespace Go.Proofs.Ythjfeanmgaidcaa
open Go.RowKit Go.Sort
set_option linter.unusedVariables false

end Go.Proofs.Ythjfeanmgaidcaa
