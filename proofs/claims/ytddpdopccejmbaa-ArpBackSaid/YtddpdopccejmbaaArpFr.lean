/- An argument that is a message, read. -/
import Derived.Test.YtddpdopccejmbaaArpA
import Derived.Test.YtddpdopccejmbaaFrameA
namespace Go.Proofs.Ytddpdopccejmbaa
open Go.ChangeShapes Go.WideShapes Go.RowKit
set_option linter.unusedVariables false
section
variable {H : Type} {enc : TypeId × Value → H} {w : World} {base : Nat} {spare : Nat → Bool} {held : Bool}
set_option maxRecDepth 100000 in
theorem rd_pk {fuel : Nat} {cs : List Value} {y : DataW H × List MemPlace} (h : DataW.trod enc Try.prog w base spare held fuel 49 cs = some y) : ∃ p : Pk, p.ok ∧ cs = pcs p := by
  have hl : cs.length = 15 := by
    obtain ⟨_, _, _, _, h4, _⟩ := DataW.trod_struct Try.underlying49 h
    rw [h4]; kernel_rfl
  match cs, hl with
  | [c0, c1, c2, c3, c4, c5, c6, c7, c8, c9, c10, c11, c12, c13, c14], _ =>
    obtain ⟨n0, y0, h0⟩ := rd_field Try.underlying49 h 0 _ rfl [c0] (by rw [show Try.prog.cellsOf _ = 1 by kernel_rfl]; rfl)
    obtain ⟨n1, y1, h1⟩ := rd_field Try.underlying49 h 1 _ rfl [c1, c2, c3, c4, c5, c6] (by rw [show Try.prog.cellsOf _ = 6 by kernel_rfl]; rfl)
    obtain ⟨n2, y2, h2⟩ := rd_field Try.underlying49 h 2 _ rfl [c7] (by rw [show Try.prog.cellsOf _ = 1 by kernel_rfl]; rfl)
    obtain ⟨n3, y3, h3⟩ := rd_field Try.underlying49 h 3 _ rfl [c8, c9, c10, c11, c12, c13] (by rw [show Try.prog.cellsOf _ = 6 by kernel_rfl]; rfl)
    obtain ⟨n4, y4, h4⟩ := rd_field Try.underlying49 h 4 _ rfl [c14] (by rw [show Try.prog.cellsOf _ = 1 by kernel_rfl]; rfl)
    obtain ⟨o, rfl, ho⟩ := rd_nat 65535 Try.underlying45 wfu16 h0
    obtain ⟨f, hf, ef⟩ := rd_arr 6 Try.underlying23 Try.underlying5 (by kernel_rfl) (by kernel_rfl) h1
    obtain ⟨x, rfl, hx⟩ := rd_nat 4294967295 Try.underlying47 wfu32 h2
    obtain ⟨t, ht, et⟩ := rd_arr 6 Try.underlying23 Try.underlying5 (by kernel_rfl) (by kernel_rfl) h3
    obtain ⟨y, rfl, hy⟩ := rd_nat 4294967295 Try.underlying47 wfu32 h4
    refine ⟨⟨o, f, x, t, y⟩, ⟨by simp only; omega, hf, by simp only; omega, ht, by simp only; omega⟩, ?_⟩
    unfold pcs
    simp only
    rw [← ef, ← et]
    rfl
set_option maxRecDepth 100000 in
theorem open_pk {r : Reach} {b : Nat} {v : Value} {d : DataW H} {ps : List MemPlace} (hv : Value.okWide Try.prog w r b 49 v) (h : DataW.Trod enc Try.prog w base spare held 49 v d ps) : ∃ p : Pk, p.ok ∧ v = pkv p := by
  obtain ⟨cs, rfl, _⟩ := okWide_struct Try.underlying49 hv
  obtain ⟨fuel, hf⟩ := h
  obtain ⟨p, hp, hc⟩ := rd_pk hf
  refine ⟨p, hp, ?_⟩
  have : cs.toList = pcs p := hc
  rw [show cs = ⟨cs.toList⟩ from rfl, this]
  rfl
end
end Go.Proofs.Ytddpdopccejmbaa
