/- Texts that belong together, one behind the other: FrameA, BpFr. Conditions: those of each. -/
import Derived.Test.YthjfeanmgaidcaaMg0
import Derived.Test.YthjfeanmgaidcaaMg4
/- Arrays of bytes as arguments: from what is read to plain data. Nothing of the program is named here. -/
namespace Go.Proofs.Ythjfeanmgaidcaa
open Go.RowKit Go.ChangeShapes Go.WideShapes

section
variable {H : Type} {enc : TypeId × Value → H} {P : Program} {w : World} {base : Nat} {spare : Nat → Bool} {held : Bool} {fuel : Nat} {t e : TypeId} {x : DataW H × List MemPlace}

theorem rd_arr (n : Nat) (ht : P.underlying t = some (.array n e)) (he : P.underlying e = some (.int .u8)) (hc : P.cellsOf e = 1) (hn : P.cellsOf t = n) {cs : List Value} (h : DataW.trod enc P w base spare held fuel t cs = some x) :
    ∃ l : List UInt8, l.length = n ∧ cs = bys l := by
  obtain ⟨xs, m, _, _, hl, hxs, hel⟩ := DataW.trod_array ht h
  rw [hc] at hel
  have : ∀ i, i < n → ∃ u : UInt8, cs[i]? = some (.int .u8 (u.toNat : Int)) := by
    intro i hi
    have h1 := hel i hi
    rw [List.getElem?_eq_getElem (by omega), Nat.mul_one] at h1
    have hci : i < cs.length := by omega
    have hd : (cs.drop i).take 1 = [cs[i]] := by
      rw [List.drop_eq_getElem_cons hci]
      rfl
    rw [hd] at h1
    obtain ⟨z, hz, _, hw⟩ := DataW.trod_int he h1
    have hb := wfu8 z hw
    refine ⟨UInt8.ofNat z.toNat, ?_⟩
    rw [List.getElem?_eq_getElem hci]
    simp at hz
    rw [hz]
    have : ((UInt8.ofNat z.toNat).toNat : Int) = z := by
      rw [UInt8.toNat_ofNat']
      omega
    rw [this]
  obtain ⟨l, hll, hp⟩ := pick n _ this
  refine ⟨l, hll, ?_⟩
  apply List.ext_getElem?
  intro i
  by_cases hi : i < n
  · rw [hp i (by omega)]
    simp [bys, show i < l.length by omega]
  · rw [List.getElem?_eq_none (by omega), List.getElem?_eq_none (by rw [bys_len]; omega)]

theorem open_arr (n : Nat) (ht : P.underlying t = some (.array n e)) (he : P.underlying e = some (.int .u8)) (hc : P.cellsOf e = 1) (hn : P.cellsOf t = n) {r : Reach} {b : Nat} {v : Value} {d : DataW H} {ps : List MemPlace}
    (hv : Value.okWide P w r b t v) (h : DataW.Trod enc P w base spare held t v d ps) : ∃ l : List UInt8, l.length = n ∧ v = .agg (bys l).toArray := by
  unfold Value.okWide at hv
  rw [ht] at hv
  obtain ⟨cs, rfl, _, _⟩ := hv
  obtain ⟨fuel, hf⟩ := h
  obtain ⟨l, hl, hcs⟩ := rd_arr n ht he hc hn hf
  refine ⟨l, hl, ?_⟩
  have : cs.toList = bys l := hcs
  rw [← this]
end
end Go.Proofs.Ythjfeanmgaidcaa
/- An argument that is a message of package bpdu, read. -/
namespace Go.Proofs.Ythjfeanmgaidcaa
open Go.ChangeShapes Go.WideShapes Go.RowKit
set_option linter.unusedVariables false
section
variable {H : Type} {enc : TypeId × Value → H} {w : World} {base : Nat} {spare : Nat → Bool} {held : Bool}
theorem wfu64 (n : Int) (h : (Lit.int .u64 n).wf = true) : 0 ≤ n ∧ n ≤ ((18446744073709551615 : Nat) : Int) := by simp [Lit.wf, IntKind.min, IntKind.max, IntKind.signed, IntKind.bits] at h; omega
theorem rd_intB {fuel : Nat} {c : Value} {x : DataW H × List MemPlace} (h : DataW.trod enc Try.prog w base spare held fuel 3 [c] = some x) : ∃ z : Int, c = .int .i64 z ∧ -9223372036854775808 ≤ z ∧ z ≤ 9223372036854775807 := by
  obtain ⟨z, hz, _, hw⟩ := DataW.trod_int Try.underlying3 h
  simp at hz
  refine ⟨z, hz, ?_⟩
  simp [Lit.wf, IntKind.min, IntKind.max, IntKind.signed, IntKind.bits] at hw
  omega
set_option maxRecDepth 100000 in
set_option maxRecDepth 100000 in
theorem rd_bp {fuel : Nat} {cs : List Value} {y : DataW H × List MemPlace} (h : DataW.trod enc Try.prog w base spare held fuel 52 cs = some y) : ∃ m : Bp, m.ok ∧ cs = bpl m := by
  have hl : cs.length = 10 := by
    obtain ⟨_, _, _, _, h4, _⟩ := DataW.trod_struct Try.underlying52 h
    rw [h4]; kernel_rfl
  match cs, hl with
  | [c0, c1, c2, c3, c4, c5, c6, c7, c8, c9], _ =>
    obtain ⟨n0, y0, h0⟩ := rd_field Try.underlying52 h 0 _ rfl [c0] (by rw [show Try.prog.cellsOf _ = 1 by kernel_rfl]; rfl)
    obtain ⟨n1, y1, h1⟩ := rd_field Try.underlying52 h 1 _ rfl [c1] (by rw [show Try.prog.cellsOf _ = 1 by kernel_rfl]; rfl)
    obtain ⟨n2, y2, h2⟩ := rd_field Try.underlying52 h 2 _ rfl [c2] (by rw [show Try.prog.cellsOf _ = 1 by kernel_rfl]; rfl)
    obtain ⟨n3, y3, h3⟩ := rd_field Try.underlying52 h 3 _ rfl [c3] (by rw [show Try.prog.cellsOf _ = 1 by kernel_rfl]; rfl)
    obtain ⟨n4, y4, h4⟩ := rd_field Try.underlying52 h 4 _ rfl [c4] (by rw [show Try.prog.cellsOf _ = 1 by kernel_rfl]; rfl)
    obtain ⟨n5, y5, h5⟩ := rd_field Try.underlying52 h 5 _ rfl [c5] (by rw [show Try.prog.cellsOf _ = 1 by kernel_rfl]; rfl)
    obtain ⟨n6, y6, h6⟩ := rd_field Try.underlying52 h 6 _ rfl [c6] (by rw [show Try.prog.cellsOf _ = 1 by kernel_rfl]; rfl)
    obtain ⟨n7, y7, h7⟩ := rd_field Try.underlying52 h 7 _ rfl [c7] (by rw [show Try.prog.cellsOf _ = 1 by kernel_rfl]; rfl)
    obtain ⟨n8, y8, h8⟩ := rd_field Try.underlying52 h 8 _ rfl [c8] (by rw [show Try.prog.cellsOf _ = 1 by kernel_rfl]; rfl)
    obtain ⟨n9, y9, h9⟩ := rd_field Try.underlying52 h 9 _ rfl [c9] (by rw [show Try.prog.cellsOf _ = 1 by kernel_rfl]; rfl)
    obtain ⟨k, rfl, k0, k1⟩ := rd_intB h0
    obtain ⟨x1, rfl, b1⟩ := rd_nat 255 Try.underlying5 wfu8 h1
    obtain ⟨x2, rfl, b2⟩ := rd_nat 18446744073709551615 Try.underlying50 wfu64 h2
    obtain ⟨x3, rfl, b3⟩ := rd_nat 18446744073709551615 Try.underlying50 wfu64 h3
    obtain ⟨x4, rfl, b4⟩ := rd_nat 4294967295 Try.underlying22 wfu32 h4
    obtain ⟨x5, rfl, b5⟩ := rd_nat 65535 Try.underlying23 wfu16 h5
    obtain ⟨x6, rfl, b6⟩ := rd_nat 65535 Try.underlying23 wfu16 h6
    obtain ⟨x7, rfl, b7⟩ := rd_nat 65535 Try.underlying23 wfu16 h7
    obtain ⟨x8, rfl, b8⟩ := rd_nat 65535 Try.underlying23 wfu16 h8
    obtain ⟨x9, rfl, b9⟩ := rd_nat 65535 Try.underlying23 wfu16 h9
    exact ⟨⟨k, x1, x2, x3, x4, x5, x6, x7, x8, x9⟩, ⟨k0, k1, by simp only; omega, by simp only; omega, by simp only; omega, by simp only; omega, by simp only; omega, by simp only; omega, by simp only; omega, by simp only; omega, by simp only; omega⟩, rfl⟩
set_option maxRecDepth 100000 in
theorem open_bp {r : Reach} {b : Nat} {v : Value} {d : DataW H} {ps : List MemPlace} (hv : Value.okWide Try.prog w r b 52 v) (h : DataW.Trod enc Try.prog w base spare held 52 v d ps) : ∃ m : Bp, m.ok ∧ v = bpv m := by
  obtain ⟨cs, rfl, _⟩ := okWide_struct Try.underlying52 hv
  obtain ⟨fuel, hf⟩ := h
  obtain ⟨p, hp, hc⟩ := rd_bp hf
  refine ⟨p, hp, ?_⟩
  have : cs.toList = bpl p := hc
  rw [show cs = ⟨cs.toList⟩ from rfl, this]
  rfl
end
end Go.Proofs.Ythjfeanmgaidcaa
