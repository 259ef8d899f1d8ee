/- An argument that is a head, read. -/
import Derived.Test.YtkpelaojjfcpfaaRgG
import Derived.Test.YtkpelaojjfcpfaaFrameA
namespace Go.Proofs.Ytkpelaojjfcpfaa
open Go.ChangeShapes Go.WideShapes Go.RowKit
set_option linter.unusedVariables false
/-- A head as it is handed in, its options where they stand. -/
structure HdA where
  h : Hd
  A : Option Addr
  n : Nat
  c : Nat
structure HdA.In (x : HdA) (w : World) : Prop where
  ok : x.h.ok
  x : Byt w x.A x.n x.c x.h.x
section
variable {H : Type} {enc : TypeId × Value → H} {w : World} {base : Nat} {spare : Nat → Bool} {held : Bool}
theorem rd_intH {fuel : Nat} {c : Value} {x : DataW H × List MemPlace} (h : DataW.trod enc Try.prog w base spare held fuel 3 [c] = some x) : ∃ z : Int, c = .int .i64 z ∧ -9223372036854775808 ≤ z ∧ z ≤ 9223372036854775807 := by
  obtain ⟨z, hz, _, hw⟩ := DataW.trod_int Try.underlying3 h
  simp at hz
  simp [Lit.wf, IntKind.min, IntKind.max, IntKind.signed, IntKind.bits] at hw
  exact ⟨z, hz, by omega, by omega⟩
theorem rd_boolH {fuel : Nat} {c : Value} {x : DataW H × List MemPlace} (h : DataW.trod enc Try.prog w base spare held fuel 4 [c] = some x) : ∃ d : Bool, c = .bool d := by
  obtain ⟨d, hd, _⟩ := DataW.trod_bool Try.underlying4 h
  simp at hd
  exact ⟨d, hd⟩
theorem u8_nat' (k : Nat) (h : k ≤ 255) : ∃ t : UInt8, (k : Int) = (t.toNat : Int) := ⟨UInt8.ofNat k, by rw [UInt8.toNat_ofNat']; omega⟩
set_option maxRecDepth 100000 in
theorem rd_hd {fuel : Nat} {cs : List Value} {y : DataW H × List MemPlace} (h : DataW.trod enc Try.prog w base spare held fuel 47 cs = some y) : ∃ x : HdA, x.In w ∧ cs = hcs x.h x.A x.n x.c := by
  have hl : cs.length = 11 := by
    obtain ⟨_, _, _, _, h4, _⟩ := DataW.trod_struct Try.underlying47 h
    rw [h4]; kernel_rfl
  match cs, hl with
  | [c0, c1, c2, c3, c4, c5, c6, c7, c8, c9, c10], _ =>
    obtain ⟨n0, y0, h0⟩ := rd_field Try.underlying47 h 0 _ rfl [c0] (by rw [show Try.prog.cellsOf _ = 1 by kernel_rfl]; rfl)
    obtain ⟨n1, y1, h1⟩ := rd_field Try.underlying47 h 1 _ rfl [c1] (by rw [show Try.prog.cellsOf _ = 1 by kernel_rfl]; rfl)
    obtain ⟨n2, y2, h2⟩ := rd_field Try.underlying47 h 2 _ rfl [c2] (by rw [show Try.prog.cellsOf _ = 1 by kernel_rfl]; rfl)
    obtain ⟨n3, y3, h3⟩ := rd_field Try.underlying47 h 3 _ rfl [c3] (by rw [show Try.prog.cellsOf _ = 1 by kernel_rfl]; rfl)
    obtain ⟨n4, y4, h4⟩ := rd_field Try.underlying47 h 4 _ rfl [c4] (by rw [show Try.prog.cellsOf _ = 1 by kernel_rfl]; rfl)
    obtain ⟨n5, y5, h5⟩ := rd_field Try.underlying47 h 5 _ rfl [c5] (by rw [show Try.prog.cellsOf _ = 1 by kernel_rfl]; rfl)
    obtain ⟨n6, y6, h6⟩ := rd_field Try.underlying47 h 6 _ rfl [c6] (by rw [show Try.prog.cellsOf _ = 1 by kernel_rfl]; rfl)
    obtain ⟨n7, y7, h7⟩ := rd_field Try.underlying47 h 7 _ rfl [c7] (by rw [show Try.prog.cellsOf _ = 1 by kernel_rfl]; rfl)
    obtain ⟨n8, y8, h8⟩ := rd_field Try.underlying47 h 8 _ rfl [c8] (by rw [show Try.prog.cellsOf _ = 1 by kernel_rfl]; rfl)
    obtain ⟨n9, y9, h9⟩ := rd_field Try.underlying47 h 9 _ rfl [c9] (by rw [show Try.prog.cellsOf _ = 1 by kernel_rfl]; rfl)
    obtain ⟨n10, y10, h10⟩ := rd_field Try.underlying47 h 10 _ rfl [c10] (by rw [show Try.prog.cellsOf _ = 1 by kernel_rfl]; rfl)
    obtain ⟨k0, rfl, b0⟩ := rd_nat 255 Try.underlying5 wfu8 h0
    obtain ⟨k1, rfl, b1⟩ := rd_nat 255 Try.underlying5 wfu8 h1
    obtain ⟨k2, rfl, b2⟩ := rd_nat 255 Try.underlying5 wfu8 h2
    obtain ⟨k3, rfl, b3⟩ := rd_nat 65535 Try.underlying35 wfu16 h3
    obtain ⟨k4, rfl⟩ := rd_boolH h4
    obtain ⟨k5, rfl⟩ := rd_boolH h5
    obtain ⟨k6, rfl⟩ := rd_boolH h6
    obtain ⟨k7, rfl, b7, b7'⟩ := rd_intH h7
    obtain ⟨k8, rfl, b8⟩ := rd_nat 4294967295 Try.underlying45 wfu32 h8
    obtain ⟨k9, rfl, b9⟩ := rd_nat 4294967295 Try.underlying45 wfu32 h9
    obtain ⟨A, n, c, l, rfl, hb⟩ := rd_bytes Try.underlying22 Try.underlying5 (by kernel_rfl) h10
    obtain ⟨t0, e0⟩ := u8_nat' k0 b0
    obtain ⟨t1, e1⟩ := u8_nat' k1 b1
    obtain ⟨t2, e2⟩ := u8_nat' k2 b2
    refine ⟨⟨⟨t0, t1, t2, k3, k4, k5, k6, k7, k8, k9, l⟩, A, n, c⟩, ⟨⟨by simp only; omega, ⟨b7, b7'⟩, by simp only; omega, by simp only; omega⟩, hb⟩, ?_⟩
    rw [e0, e1, e2]
    rfl
set_option maxRecDepth 100000 in
theorem open_hd {r : Reach} {b : Nat} {v : Value} {d : DataW H} {ps : List MemPlace} (hv : Value.okWide Try.prog w r b 47 v) (h : DataW.Trod enc Try.prog w base spare held 47 v d ps) : ∃ x : HdA, x.In w ∧ v = hdv x.h x.A x.n x.c := by
  obtain ⟨cs, rfl, _⟩ := okWide_struct Try.underlying47 hv
  obtain ⟨fuel, hf⟩ := h
  obtain ⟨x, hx, hc⟩ := rd_hd hf
  refine ⟨x, hx, ?_⟩
  have : cs.toList = hcs x.h x.A x.n x.c := hc
  rw [show cs = ⟨cs.toList⟩ from rfl, this]
  rfl
end
end Go.Proofs.Ytkpelaojjfcpfaa
