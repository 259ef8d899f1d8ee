/- An argument that is a message, read. -/
import Derived.Test.YtkpelaojjfcpfaaIcA
import Derived.Test.YtkpelaojjfcpfaaFrameA
namespace Go.Proofs.Ytkpelaojjfcpfaa
open Go.ChangeShapes Go.WideShapes Go.RowKit
set_option linter.unusedVariables false

/-- A message as it is handed in. -/
structure MsA where
  m : Ms
  A : Option Addr
  n : Nat
  c : Nat
structure MsA.In (x : MsA) (w : World) : Prop where
  b : Byt w x.A x.n x.c x.m.b
theorem four_of (l : List UInt8) (h : l.length = 4) : ∃ p q r s, l = [p, q, r, s] := by
  match l, h with
  | [p, q, r, s], _ => exact ⟨p, q, r, s, rfl⟩
section
variable {H : Type} {enc : TypeId × Value → H} {w : World} {base : Nat} {spare : Nat → Bool} {held : Bool}
set_option maxRecDepth 100000 in
theorem rd_ms {fuel : Nat} {cs : List Value} {y : DataW H × List MemPlace} (h : DataW.trod enc Try.prog w base spare held fuel 25 cs = some y) : ∃ x : MsA, x.In w ∧ cs = ics x.m x.A x.n x.c := by
  have hl : cs.length = 7 := by
    obtain ⟨_, _, _, _, h4, _⟩ := DataW.trod_struct Try.underlying25 h
    rw [h4]; kernel_rfl
  match cs, hl with
  | [c0, c1, c2, c3, c4, c5, c6], _ =>
    obtain ⟨n0, y0, h0⟩ := rd_field Try.underlying25 h 0 _ rfl [c0] (by rw [show Try.prog.cellsOf _ = 1 by kernel_rfl]; rfl)
    obtain ⟨n1, y1, h1⟩ := rd_field Try.underlying25 h 1 _ rfl [c1] (by rw [show Try.prog.cellsOf _ = 1 by kernel_rfl]; rfl)
    obtain ⟨n2, y2, h2⟩ := rd_field Try.underlying25 h 2 _ rfl [c2, c3, c4, c5] (by rw [show Try.prog.cellsOf _ = 4 by kernel_rfl]; rfl)
    obtain ⟨n3, y3, h3⟩ := rd_field Try.underlying25 h 3 _ rfl [c6] (by rw [show Try.prog.cellsOf _ = 1 by kernel_rfl]; rfl)
    obtain ⟨k0, rfl, b0⟩ := rd_nat 255 Try.underlying5 wfu8 h0
    obtain ⟨k1, rfl, b1⟩ := rd_nat 255 Try.underlying5 wfu8 h1
    obtain ⟨f, hf, ef⟩ := rd_arr 4 Try.underlying23 Try.underlying5 (by kernel_rfl) (by kernel_rfl) h2
    obtain ⟨A6, n6, d6, l6, rfl, hb6⟩ := rd_bytes Try.underlying22 Try.underlying5 (by kernel_rfl) h3
    obtain ⟨p, q, r, s, rfl⟩ := four_of f hf
    simp only [bys, List.map_cons, List.map_nil, List.cons.injEq, and_true] at ef
    obtain ⟨rfl, rfl, rfl, rfl⟩ := ef
    obtain ⟨t, ht⟩ : ∃ t : UInt8, t.toNat = k0 := ⟨UInt8.ofNat k0, by rw [UInt8.toNat_ofNat']; omega⟩
    obtain ⟨c, hc⟩ : ∃ t : UInt8, t.toNat = k1 := ⟨UInt8.ofNat k1, by rw [UInt8.toNat_ofNat']; omega⟩
    subst ht hc
    exact ⟨⟨⟨t, c, p, q, r, s, l6⟩, A6, n6, d6⟩, ⟨hb6⟩, rfl⟩
set_option maxRecDepth 100000 in
theorem open_ms {r : Reach} {b : Nat} {v : Value} {d : DataW H} {ps : List MemPlace} (hv : Value.okWide Try.prog w r b 25 v) (h : DataW.Trod enc Try.prog w base spare held 25 v d ps) : ∃ x : MsA, x.In w ∧ v = .agg (ics x.m x.A x.n x.c).toArray := by
  obtain ⟨cs, rfl, _⟩ := okWide_struct Try.underlying25 hv
  obtain ⟨fuel, hf⟩ := h
  obtain ⟨x, hx, hc⟩ := rd_ms hf
  refine ⟨x, hx, ?_⟩
  have : cs.toList = ics x.m x.A x.n x.c := hc
  rw [show cs = ⟨cs.toList⟩ from rfl, this]
end
end Go.Proofs.Ytkpelaojjfcpfaa
