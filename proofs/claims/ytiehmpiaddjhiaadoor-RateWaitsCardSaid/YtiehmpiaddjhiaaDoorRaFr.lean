/- RateWaits: its arguments read: an array of three words, and a word. -/
import Derived.Test.YtiehmpiaddjhiaaDoorMg1
import Derived.Test.YtiehmpiaddjhiaaDoorRaWt
namespace Go.Proofs.YtiehmpiaddjhiaaDoor
open Go.RowKit Go.ChangeShapes Go.WideShapes
set_option linter.unusedVariables false
section
variable {H : Type} {enc : TypeId × Value → H} {w : World} {base : Nat} {spare : Nat → Bool} {held : Bool}
theorem word_of (n : Int) (h : (Lit.int .u64 n).wf = true) : ∃ k : Nat, k < 18446744073709551616 ∧ n = (k : Int) := by
  simp [Lit.wf, IntKind.min, IntKind.max, IntKind.signed, IntKind.bits] at h
  exact ⟨n.toNat, by omega, by omega⟩
set_option maxRecDepth 100000 in
theorem rd_al3 {fuel : Nat} {cs : List Value} {y : DataW H × List MemPlace} (h : DataW.trod enc Tryd.prog w base spare held fuel 52 cs = some y) : ∃ x : Nat × Nat × Nat, (x.1 < 18446744073709551616 ∧ x.2.1 < 18446744073709551616 ∧ x.2.2 < 18446744073709551616) ∧ cs = al3 x.1 x.2.1 x.2.2 := by
  obtain ⟨xs, m, _, _, hl, hxs, hel⟩ := DataW.trod_array Tryd.underlying52 h
  have hc : Tryd.prog.cellsOf 22 = 1 := by kernel_rfl
  rw [hc] at hel
  have hl3 : cs.length = 3 := by
    have h3 : Tryd.prog.cellsOf 52 = 3 := by kernel_rfl
    rw [← h3]
    exact hl
  match cs, hl3 with
  | [c0, c1, c2], _ =>
    obtain ⟨z0, e0, _, v0⟩ := DataW.trod_int Tryd.underlying22 ((hel 0 (by decide)).trans (List.getElem?_eq_getElem (by omega)))
    obtain ⟨z1, e1, _, v1⟩ := DataW.trod_int Tryd.underlying22 ((hel 1 (by decide)).trans (List.getElem?_eq_getElem (by omega)))
    obtain ⟨z2, e2, _, v2⟩ := DataW.trod_int Tryd.underlying22 ((hel 2 (by decide)).trans (List.getElem?_eq_getElem (by omega)))
    simp at e0 e1 e2
    obtain ⟨k0, b0, rfl⟩ := word_of z0 v0
    obtain ⟨k1, b1, rfl⟩ := word_of z1 v1
    obtain ⟨k2, b2, rfl⟩ := word_of z2 v2
    exact ⟨(k0, k1, k2), ⟨b0, b1, b2⟩, by rw [e0, e1, e2]; rfl⟩
set_option maxRecDepth 100000 in
theorem open_al3 {r : Reach} {b : Nat} {v : Value} {d : DataW H} {ps : List MemPlace} (hv : Value.okWide Tryd.prog w r b 52 v) (h : DataW.Trod enc Tryd.prog w base spare held 52 v d ps) : ∃ x : Nat × Nat × Nat, (x.1 < 18446744073709551616 ∧ x.2.1 < 18446744073709551616 ∧ x.2.2 < 18446744073709551616) ∧ v = .agg (al3 x.1 x.2.1 x.2.2).toArray := by
  unfold Value.okWide at hv
  rw [show Tryd.prog.underlying 52 = _ from Tryd.underlying52] at hv
  obtain ⟨cs, rfl, _, _⟩ := hv
  obtain ⟨fuel, hf⟩ := h
  obtain ⟨x, hx, hcs⟩ := rd_al3 hf
  refine ⟨x, hx, ?_⟩
  have : cs.toList = al3 x.1 x.2.1 x.2.2 := hcs
  rw [← this]
end
theorem rwaits_in (x : Nat × Nat × Nat) (n : Int) (w : World) (hx : x.1 < 18446744073709551616 ∧ x.2.1 < 18446744073709551616 ∧ x.2.2 < 18446744073709551616) (hn : (Lit.int .u64 n).wf = true) (hG : Gl w) : Calls Tryd.prog 5 #[.agg (al3 x.1 x.2.1 x.2.2).toArray, .int .u64 n] w fun e w' => e = .returned (.bool true) ∧ Below w.heap.size w w' := by
  obtain ⟨k, hk, rfl⟩ := word_of n hn
  exact rwaits_yes x.1 x.2.1 x.2.2 k hx.1 hx.2.1 hx.2.2 hk w hG
end Go.Proofs.YtiehmpiaddjhiaaDoor
