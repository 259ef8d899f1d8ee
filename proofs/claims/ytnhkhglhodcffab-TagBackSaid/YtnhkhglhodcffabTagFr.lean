/- An argument that is a tag, read. -/
import Derived.Test.YtnhkhglhodcffabTagA
import Derived.Test.YtnhkhglhodcffabFrameA
namespace Go.Proofs.Ytnhkhglhodcffab
open Go.ChangeShapes Go.WideShapes Go.RowKit
set_option linter.unusedVariables false
section
variable {H : Type} {enc : TypeId × Value → H} {w : World} {base : Nat} {spare : Nat → Bool} {held : Bool}
theorem rd_tag {fuel : Nat} {cs : List Value} {x : DataW H × List MemPlace} (h : DataW.trod enc Try.prog w base spare held fuel 38 cs = some x) : ∃ t : Tg, t.ok ∧ cs = tgc t := by
  have hl : cs.length = 4 := by
    obtain ⟨_, _, _, _, h4, _⟩ := DataW.trod_struct Try.underlying38 h
    rw [h4]; kernel_rfl
  match cs, hl with
  | [c0, c1, c2, c3], _ =>
    obtain ⟨n0, y0, h0⟩ := rd_field Try.underlying38 h 0 _ rfl [c0] (by simp [show Try.prog.cellsOf 31 = 1 by kernel_rfl])
    obtain ⟨n1, y1, h1⟩ := rd_field Try.underlying38 h 1 _ rfl [c1] (by simp [show Try.prog.cellsOf 5 = 1 by kernel_rfl])
    obtain ⟨n2, y2, h2⟩ := rd_field Try.underlying38 h 2 _ rfl [c2] (by simp [show Try.prog.cellsOf 4 = 1 by kernel_rfl])
    obtain ⟨n3, y3, h3⟩ := rd_field Try.underlying38 h 3 _ rfl [c3] (by simp [show Try.prog.cellsOf 31 = 1 by kernel_rfl])
    obtain ⟨k, rfl, hk⟩ := rd_nat 65535 Try.underlying31 wfu16 h0
    obtain ⟨p, rfl, hp⟩ := rd_nat 255 Try.underlying5 wfu8 h1
    obtain ⟨d, hd, _⟩ := DataW.trod_bool Try.underlying4 h2
    obtain ⟨n, rfl, hn⟩ := rd_nat 65535 Try.underlying31 wfu16 h3
    simp at hd
    subst hd
    exact ⟨⟨k, p, d, n⟩, ⟨by simp only; omega, by simp only; omega, by simp only; omega⟩, rfl⟩
theorem open_tag {r : Reach} {b : Nat} {v : Value} {d : DataW H} {ps : List MemPlace} (hv : Value.okWide Try.prog w r b 38 v) (h : DataW.Trod enc Try.prog w base spare held 38 v d ps) : ∃ t : Tg, t.ok ∧ v = tgv t := by
  obtain ⟨cs, rfl, _⟩ := okWide_struct Try.underlying38 hv
  obtain ⟨fuel, hf⟩ := h
  obtain ⟨t, ht, hc⟩ := rd_tag hf
  refine ⟨t, ht, ?_⟩
  have : cs.toList = tgc t := hc
  rw [show cs = ⟨cs.toList⟩ from rfl, this]
  rfl
end
end Go.Proofs.Ytnhkhglhodcffab
