/- Arguments that are heads, pairs of addresses, a change: read. -/
import Derived.Test.YthjbabkmjmfmjaaDoorMg6
import Derived.Test.YthjbabkmjmfmjaaDoorMg1
namespace Go.Proofs.YthjbabkmjmfmjaaDoor
open Go.ChangeShapes Go.WideShapes Go.RowKit
set_option linter.unusedVariables false

/-- A head of TCP as it is handed in. -/
structure TcA where
  h : Tc
  A : Option Addr
  n : Nat
  c : Nat
  B : Option Addr
  m : Nat
  d : Nat
structure TcA.In (x : TcA) (w : World) : Prop where
  ok : x.h.ok
  o : Byt w x.A x.n x.c x.h.x
  b : Byt w x.B x.m x.d x.h.b
/-- A head of UDP as it is handed in. -/
structure UdA where
  h : Ud
  B : Option Addr
  m : Nat
  d : Nat
structure UdA.In (x : UdA) (w : World) : Prop where
  ok : x.h.ok
  b : Byt w x.B x.m x.d x.h.b
/-- A change as it is handed in. -/
structure ChA where
  k : Nat
  y : Nat
  u : Bool
section
variable {H : Type} {enc : TypeId × Value → H} {w : World} {base : Nat} {spare : Nat → Bool} {held : Bool}
theorem rd_boolT {fuel : Nat} {c : Value} {x : DataW H × List MemPlace} (h : DataW.trod enc Tryd.prog w base spare held fuel 4 [c] = some x) : ∃ d : Bool, c = .bool d := by
  obtain ⟨d, hd, _⟩ := DataW.trod_bool Tryd.underlying4 h
  simp at hd
  exact ⟨d, hd⟩
set_option maxRecDepth 100000 in
theorem rd_tc {fuel : Nat} {cs : List Value} {y : DataW H × List MemPlace} (h : DataW.trod enc Tryd.prog w base spare held fuel 29 cs = some y) : ∃ x : TcA, x.In w ∧ cs = tcs x.h x.A x.n x.c x.B x.m x.d := by
  have hl : cs.length = 11 := by
    obtain ⟨_, _, _, _, h4, _⟩ := DataW.trod_struct Tryd.underlying29 h
    rw [h4]; kernel_rfl
  match cs, hl with
  | [c0, c1, c2, c3, c4, c5, c6, c7, c8, c9, c10], _ =>
    obtain ⟨n0, y0, h0⟩ := rd_field Tryd.underlying29 h 0 _ rfl [c0] (by rw [show Tryd.prog.cellsOf _ = 1 by kernel_rfl]; rfl)
    obtain ⟨n1, y1, h1⟩ := rd_field Tryd.underlying29 h 1 _ rfl [c1] (by rw [show Tryd.prog.cellsOf _ = 1 by kernel_rfl]; rfl)
    obtain ⟨n2, y2, h2⟩ := rd_field Tryd.underlying29 h 2 _ rfl [c2] (by rw [show Tryd.prog.cellsOf _ = 1 by kernel_rfl]; rfl)
    obtain ⟨n3, y3, h3⟩ := rd_field Tryd.underlying29 h 3 _ rfl [c3] (by rw [show Tryd.prog.cellsOf _ = 1 by kernel_rfl]; rfl)
    obtain ⟨n4, y4, h4⟩ := rd_field Tryd.underlying29 h 4 _ rfl [c4] (by rw [show Tryd.prog.cellsOf _ = 1 by kernel_rfl]; rfl)
    obtain ⟨n5, y5, h5⟩ := rd_field Tryd.underlying29 h 5 _ rfl [c5] (by rw [show Tryd.prog.cellsOf _ = 1 by kernel_rfl]; rfl)
    obtain ⟨n6, y6, h6⟩ := rd_field Tryd.underlying29 h 6 _ rfl [c6] (by rw [show Tryd.prog.cellsOf _ = 1 by kernel_rfl]; rfl)
    obtain ⟨n7, y7, h7⟩ := rd_field Tryd.underlying29 h 7 _ rfl [c7] (by rw [show Tryd.prog.cellsOf _ = 1 by kernel_rfl]; rfl)
    obtain ⟨n8, y8, h8⟩ := rd_field Tryd.underlying29 h 8 _ rfl [c8] (by rw [show Tryd.prog.cellsOf _ = 1 by kernel_rfl]; rfl)
    obtain ⟨n9, y9, h9⟩ := rd_field Tryd.underlying29 h 9 _ rfl [c9] (by rw [show Tryd.prog.cellsOf _ = 1 by kernel_rfl]; rfl)
    obtain ⟨n10, y10, h10⟩ := rd_field Tryd.underlying29 h 10 _ rfl [c10] (by rw [show Tryd.prog.cellsOf _ = 1 by kernel_rfl]; rfl)
    obtain ⟨k0, rfl, b0⟩ := rd_nat 65535 Tryd.underlying27 wfu16 h0
    obtain ⟨k1, rfl, b1⟩ := rd_nat 65535 Tryd.underlying27 wfu16 h1
    obtain ⟨k2, rfl, b2⟩ := rd_nat 4294967295 Tryd.underlying23 wfu32 h2
    obtain ⟨k3, rfl, b3⟩ := rd_nat 4294967295 Tryd.underlying23 wfu32 h3
    obtain ⟨k4, rfl, b4⟩ := rd_nat 255 Tryd.underlying5 wfu8 h4
    obtain ⟨k5, rfl, b5⟩ := rd_nat 255 Tryd.underlying5 wfu8 h5
    obtain ⟨k6, rfl, b6⟩ := rd_nat 65535 Tryd.underlying27 wfu16 h6
    obtain ⟨k7, rfl, b7⟩ := rd_nat 65535 Tryd.underlying27 wfu16 h7
    obtain ⟨k8, rfl, b8⟩ := rd_nat 65535 Tryd.underlying27 wfu16 h8
    obtain ⟨A9, n9, d9, l9, rfl, hb9⟩ := rd_bytes Tryd.underlying22 Tryd.underlying5 (by kernel_rfl) h9
    obtain ⟨A10, n10, d10, l10, rfl, hb10⟩ := rd_bytes Tryd.underlying22 Tryd.underlying5 (by kernel_rfl) h10
    exact ⟨⟨⟨k0, k1, k2, k3, k4, k5, k6, k7, k8, l9, l10⟩, A9, n9, d9, A10, n10, d10⟩, ⟨⟨by simp only; omega, by simp only; omega, by simp only; omega, by simp only; omega, by simp only; omega, by simp only; omega, by simp only; omega, by simp only; omega, by simp only; omega⟩, hb9, hb10⟩, rfl⟩
set_option maxRecDepth 100000 in
theorem rd_ud {fuel : Nat} {cs : List Value} {y : DataW H × List MemPlace} (h : DataW.trod enc Tryd.prog w base spare held fuel 38 cs = some y) : ∃ x : UdA, x.In w ∧ cs = ucs x.h x.B x.m x.d := by
  have hl : cs.length = 5 := by
    obtain ⟨_, _, _, _, h4, _⟩ := DataW.trod_struct Tryd.underlying38 h
    rw [h4]; kernel_rfl
  match cs, hl with
  | [c0, c1, c2, c3, c4], _ =>
    obtain ⟨n0, y0, h0⟩ := rd_field Tryd.underlying38 h 0 _ rfl [c0] (by rw [show Tryd.prog.cellsOf _ = 1 by kernel_rfl]; rfl)
    obtain ⟨n1, y1, h1⟩ := rd_field Tryd.underlying38 h 1 _ rfl [c1] (by rw [show Tryd.prog.cellsOf _ = 1 by kernel_rfl]; rfl)
    obtain ⟨n2, y2, h2⟩ := rd_field Tryd.underlying38 h 2 _ rfl [c2] (by rw [show Tryd.prog.cellsOf _ = 1 by kernel_rfl]; rfl)
    obtain ⟨n3, y3, h3⟩ := rd_field Tryd.underlying38 h 3 _ rfl [c3] (by rw [show Tryd.prog.cellsOf _ = 1 by kernel_rfl]; rfl)
    obtain ⟨n4, y4, h4⟩ := rd_field Tryd.underlying38 h 4 _ rfl [c4] (by rw [show Tryd.prog.cellsOf _ = 1 by kernel_rfl]; rfl)
    obtain ⟨k0, rfl, b0⟩ := rd_nat 65535 Tryd.underlying27 wfu16 h0
    obtain ⟨k1, rfl, b1⟩ := rd_nat 65535 Tryd.underlying27 wfu16 h1
    obtain ⟨k2, rfl, b2⟩ := rd_nat 65535 Tryd.underlying27 wfu16 h2
    obtain ⟨k3, rfl, b3⟩ := rd_nat 65535 Tryd.underlying27 wfu16 h3
    obtain ⟨A4, n4, d4, l4, rfl, hb4⟩ := rd_bytes Tryd.underlying22 Tryd.underlying5 (by kernel_rfl) h4
    exact ⟨⟨⟨k0, k1, k2, k3, l4⟩, A4, n4, d4⟩, ⟨⟨by simp only; omega, by simp only; omega, by simp only; omega, by simp only; omega⟩, hb4⟩, rfl⟩
set_option maxRecDepth 100000 in
theorem rd_chg {fuel : Nat} {cs : List Value} {y : DataW H × List MemPlace} (h : DataW.trod enc Tryd.prog w base spare held fuel 74 cs = some y) : ∃ x : ChA, x.k < 65536 ∧ x.y < 256 ∧ cs = [.int .u16 (x.k : Int), .int .u8 (x.y : Int), .bool x.u] := by
  have hl : cs.length = 3 := by
    obtain ⟨_, _, _, _, h4, _⟩ := DataW.trod_struct Tryd.underlying74 h
    rw [h4]; kernel_rfl
  match cs, hl with
  | [c0, c1, c2], _ =>
    obtain ⟨n0, y0, h0⟩ := rd_field Tryd.underlying74 h 0 _ rfl [c0] (by rw [show Tryd.prog.cellsOf _ = 1 by kernel_rfl]; rfl)
    obtain ⟨n1, y1, h1⟩ := rd_field Tryd.underlying74 h 1 _ rfl [c1] (by rw [show Tryd.prog.cellsOf _ = 1 by kernel_rfl]; rfl)
    obtain ⟨n2, y2, h2⟩ := rd_field Tryd.underlying74 h 2 _ rfl [c2] (by rw [show Tryd.prog.cellsOf _ = 1 by kernel_rfl]; rfl)
    obtain ⟨k0, rfl, b0⟩ := rd_nat 65535 Tryd.underlying27 wfu16 h0
    obtain ⟨k1, rfl, b1⟩ := rd_nat 255 Tryd.underlying5 wfu8 h1
    obtain ⟨k2, rfl⟩ := rd_boolT h2
    exact ⟨⟨k0, k1, k2⟩, by simp only; omega, by simp only; omega, rfl⟩
set_option maxRecDepth 100000 in
theorem open_tc {r : Reach} {b : Nat} {v : Value} {d : DataW H} {ps : List MemPlace} (hv : Value.okWide Tryd.prog w r b 29 v) (h : DataW.Trod enc Tryd.prog w base spare held 29 v d ps) : ∃ x : TcA, x.In w ∧ v = .agg (tcs x.h x.A x.n x.c x.B x.m x.d).toArray := by
  obtain ⟨cs, rfl, _⟩ := okWide_struct Tryd.underlying29 hv
  obtain ⟨fuel, hf⟩ := h
  obtain ⟨x, hx, hc⟩ := rd_tc hf
  refine ⟨x, hx, ?_⟩
  have : cs.toList = tcs x.h x.A x.n x.c x.B x.m x.d := hc
  rw [show cs = ⟨cs.toList⟩ from rfl, this]
set_option maxRecDepth 100000 in
theorem open_ud {r : Reach} {b : Nat} {v : Value} {d : DataW H} {ps : List MemPlace} (hv : Value.okWide Tryd.prog w r b 38 v) (h : DataW.Trod enc Tryd.prog w base spare held 38 v d ps) : ∃ x : UdA, x.In w ∧ v = .agg (ucs x.h x.B x.m x.d).toArray := by
  obtain ⟨cs, rfl, _⟩ := okWide_struct Tryd.underlying38 hv
  obtain ⟨fuel, hf⟩ := h
  obtain ⟨x, hx, hc⟩ := rd_ud hf
  refine ⟨x, hx, ?_⟩
  have : cs.toList = ucs x.h x.B x.m x.d := hc
  rw [show cs = ⟨cs.toList⟩ from rfl, this]
set_option maxRecDepth 100000 in
theorem open_chg {r : Reach} {b : Nat} {v : Value} {d : DataW H} {ps : List MemPlace} (hv : Value.okWide Tryd.prog w r b 74 v) (h : DataW.Trod enc Tryd.prog w base spare held 74 v d ps) : ∃ x : ChA, (x.k < 65536 ∧ x.y < 256) ∧ v = .agg #[.int .u16 (x.k : Int), .int .u8 (x.y : Int), .bool x.u] := by
  obtain ⟨cs, rfl, _⟩ := okWide_struct Tryd.underlying74 hv
  obtain ⟨fuel, hf⟩ := h
  obtain ⟨x, h1, h2, hc⟩ := rd_chg hf
  refine ⟨x, ⟨h1, h2⟩, ?_⟩
  have : cs.toList = [.int .u16 (x.k : Int), .int .u8 (x.y : Int), .bool x.u] := hc
  rw [show cs = ⟨cs.toList⟩ from rfl, this]
/-- Two addresses as they are handed in. -/
structure EndA where
  s : Nat
  t : Nat
set_option maxRecDepth 100000 in
theorem rd_ends {fuel : Nat} {cs : List Value} {y : DataW H × List MemPlace} (h : DataW.trod enc Tryd.prog w base spare held fuel 25 cs = some y) : ∃ x : EndA, x.s < 4294967296 ∧ x.t < 4294967296 ∧ cs = [.int .u32 (x.s : Int), .int .u32 (x.t : Int)] := by
  obtain ⟨xs, m, _, _, hl, hxs, hel⟩ := DataW.trod_array (n := 2) (e := 24) Tryd.underlying25 h
  rw [show Tryd.prog.cellsOf 24 = 1 by kernel_rfl] at hel
  rw [show Tryd.prog.cellsOf 25 = 2 by kernel_rfl] at hl
  match cs, hl, xs, hxs with
  | [c0, c1], _, [x0, x1], _ =>
    have h0 := hel 0 (by decide)
    have h1 := hel 1 (by decide)
    obtain ⟨k0, rfl, b0⟩ := rd_nat 4294967295 Tryd.underlying24 wfu32 (c := c0) (x := x0) h0
    obtain ⟨k1, rfl, b1⟩ := rd_nat 4294967295 Tryd.underlying24 wfu32 (c := c1) (x := x1) h1
    exact ⟨⟨k0, k1⟩, by simp only; omega, by simp only; omega, rfl⟩
set_option maxRecDepth 100000 in
theorem open_ends {r : Reach} {b : Nat} {v : Value} {d : DataW H} {ps : List MemPlace} (hv : Value.okWide Tryd.prog w r b 25 v) (h : DataW.Trod enc Tryd.prog w base spare held 25 v d ps) : ∃ x : EndA, (x.s < 4294967296 ∧ x.t < 4294967296) ∧ v = .agg #[.int .u32 (x.s : Int), .int .u32 (x.t : Int)] := by
  unfold Value.okWide at hv
  rw [Tryd.underlying25] at hv
  obtain ⟨cs, rfl, _, _⟩ := hv
  obtain ⟨fuel, hf⟩ := h
  obtain ⟨x, h1, h2, hc⟩ := rd_ends hf
  refine ⟨x, ⟨h1, h2⟩, ?_⟩
  have : cs.toList = [.int .u32 (x.s : Int), .int .u32 (x.t : Int)] := hc
  rw [show cs = ⟨cs.toList⟩ from rfl, this]
end
end Go.Proofs.YthjbabkmjmfmjaaDoor
