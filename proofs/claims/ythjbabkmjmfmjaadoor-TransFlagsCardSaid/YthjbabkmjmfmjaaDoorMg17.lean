/- Texts that belong together, one behind the other: TrGl, TrFr. Conditions: those of each. -/
import Derived.Test.YthjbabkmjmfmjaaDoorTrM
import Derived.Test.YthjbabkmjmfmjaaDoorRows
import Derived.LaidSub
import Derived.Lib.LaidTab
import Derived.FnData
import Derived.OpenShut
import Derived.Shelf.Vars
import Derived.Test.YthjbabkmjmfmjaaDoorMg6
import Derived.Test.YthjbabkmjmfmjaaDoorMg1
/- What a row's listed variables and the world's shape say of this stage's variables. -/
namespace Go.Proofs.YthjbabkmjmfmjaaDoor
open Go Go.RowKit
set_option linter.unusedVariables false

/-- An array of texts that reads as the listed one holds these texts. -/
theorem cells_of_texts {H : Type} {enc : TypeId × Value → H} {P : Program} {w : World} {base : Nat} {sp : Nat → Bool} {held : Bool} {fuel : Nat} {t e : TypeId} {n : Nat} {cs : List Value} {zs : List (List UInt8)} {p : List MemPlace}
    (ht : P.underlying t = some (.array n e)) (he : P.underlying e = some .string) (hce : P.cellsOf e = 1) (hct : P.cellsOf t = n)
    (h : DataW.trod enc P w base sp held fuel t cs = some (.agg (zs.map fun z => .lit (.string z)), p)) : cs = zs.map fun z => Value.string ⟨z.toArray⟩ := by
  obtain ⟨xs, m, _, hx, hl, hxs, hel⟩ := DataW.trod_array ht h
  rw [hct] at hl
  rw [hce] at hel
  have hx2 : xs.map (·.1) = zs.map fun z => (DataW.lit (.string z) : DataW H) := by
    have := congrArg Prod.fst hx
    simpa using this.symm
  have hzl : zs.length = n := by
    have := congrArg List.length hx2
    simp at this
    omega
  apply List.ext_getElem?
  intro i
  by_cases hi : i < n
  · have hf := hel i hi
    rw [List.getElem?_eq_getElem (by omega), Nat.mul_one] at hf
    have hci : i < cs.length := by omega
    have hd : (cs.drop i).take 1 = [cs[i]] := by
      rw [List.drop_eq_getElem_cons hci]
      rfl
    rw [hd] at hf
    obtain ⟨s, hc, hx3, _⟩ := DataW.trod_string he hf
    have h2 : (xs.map (·.1))[i]? = some (DataW.lit (.string s.data.toList) : DataW H) := by
      rw [List.getElem?_map, List.getElem?_eq_getElem (by omega), hx3]; rfl
    rw [hx2] at h2
    simp only [List.getElem?_map, Option.map_eq_some_iff, DataW.lit.injEq, Lit.string.injEq] at h2
    obtain ⟨z, hz, hz2⟩ := h2
    simp at hc
    rw [List.getElem?_eq_getElem hci, hc, List.getElem?_map, hz, hz2]
    rfl
  · rw [List.getElem?_eq_none (by omega), List.getElem?_eq_none (by simp; omega)]
/-- What a walk of this stage may read of the package-level variables. -/
structure Gl (w : World) : Prop where
  nm : Nm w
  mx : ∃ m : Int, w.cell? ⟨1, 0, none⟩ = some (.int .i64 m)
theorem Gl.kept {w w' : World} (h : Gl w) (k : Kept Nil w w') : Gl w' := ⟨h.nm.kept k, by obtain ⟨m, hm⟩ := h.mx; exact ⟨m, k.cell hm (fun hf => hf)⟩⟩
theorem gl_of {w : World} {l : List (String × DataW Unit)} (h : laidMetH Tryd.prog l w) (hsh : w.ShapedOpen Tryd.prog)
    (e1 : l.filter (fun x => x.1 == "toll/trans.names") = [("toll/trans.names", Rows.laid_toll_trans_names)]) : Gl w := by
  have h1 := h.filter (fun x => x.1 == "toll/trans.names")
  rw [e1] at h1
  have k1 : laidMet Tryd.prog [("toll/trans.names", Rows.laid_toll_trans_names)] w := h1
  refine ⟨?_, ?_⟩
  · obtain ⟨ps, ⟨g', t', cs, fuel, p, q, hg', ht', hvar, hd, _, _⟩, _⟩ := k1
    obtain rfl := Option.some.inj ((show Tryd.prog.globalNamed "toll/trans.names" = some 0 by kernel_rfl).symm.trans hg')
    obtain rfl := Option.some.inj ((show (Tryd.prog.globals[0]?).map (·.type) = some 111 by kernel_rfl).symm.trans ht')
    have hcs := cells_of_texts (zs := flagL) (n := 8) (e := 9) Tryd.underlying111 Tryd.underlying9 (by kernel_rfl) (by kernel_rfl) hd
    have hcs' : cs.toList = namesV := hcs
    intro i u hu
    have := World.var?_cell (show Tryd.prog.globalNamed "toll/trans.names" = some 0 by kernel_rfl) hvar i
    rw [Nat.zero_add, this]
    rw [← hcs'] at hu
    simpa using hu
  · exact cell_of_shapedOpen_int (P := Tryd.prog) (g := 1) (t := 3) (zero := #[.int .i64 0]) hsh (of_decide_eq_true (by kernel_rfl)) (by kernel_rfl) rfl (by kernel_rfl) (by kernel_rfl) Tryd.underlying3
end Go.Proofs.YthjbabkmjmfmjaaDoor
/- Arguments that are heads, pairs of addresses, a change: read. -/
namespace Go.Proofs.YthjbabkmjmfmjaaDoor
open Go.ChangeShapes Go.WideShapes Go.RowKit
set_option linter.unusedVariables false

/-- A head of TCP as it is handed in. -/
structure TcA where
  h : Tc
  A : Option Addr
  n : Nat
  c : Nat
  B : Option Addr
  m : Nat
  d : Nat
structure TcA.In (x : TcA) (w : World) : Prop where
  ok : x.h.ok
  o : Byt w x.A x.n x.c x.h.x
  b : Byt w x.B x.m x.d x.h.b
/-- A head of UDP as it is handed in. -/
structure UdA where
  h : Ud
  B : Option Addr
  m : Nat
  d : Nat
structure UdA.In (x : UdA) (w : World) : Prop where
  ok : x.h.ok
  b : Byt w x.B x.m x.d x.h.b
/-- A change as it is handed in. -/
structure ChA where
  k : Nat
  y : Nat
  u : Bool
section
variable {H : Type} {enc : TypeId × Value → H} {w : World} {base : Nat} {spare : Nat → Bool} {held : Bool}
theorem rd_boolT {fuel : Nat} {c : Value} {x : DataW H × List MemPlace} (h : DataW.trod enc Tryd.prog w base spare held fuel 4 [c] = some x) : ∃ d : Bool, c = .bool d := by
  obtain ⟨d, hd, _⟩ := DataW.trod_bool Tryd.underlying4 h
  simp at hd
  exact ⟨d, hd⟩
set_option maxRecDepth 100000 in
theorem rd_tc {fuel : Nat} {cs : List Value} {y : DataW H × List MemPlace} (h : DataW.trod enc Tryd.prog w base spare held fuel 29 cs = some y) : ∃ x : TcA, x.In w ∧ cs = tcs x.h x.A x.n x.c x.B x.m x.d := by
  have hl : cs.length = 11 := by
    obtain ⟨_, _, _, _, h4, _⟩ := DataW.trod_struct Tryd.underlying29 h
    rw [h4]; kernel_rfl
  match cs, hl with
  | [c0, c1, c2, c3, c4, c5, c6, c7, c8, c9, c10], _ =>
    obtain ⟨n0, y0, h0⟩ := rd_field Tryd.underlying29 h 0 _ rfl [c0] (by rw [show Tryd.prog.cellsOf _ = 1 by kernel_rfl]; rfl)
    obtain ⟨n1, y1, h1⟩ := rd_field Tryd.underlying29 h 1 _ rfl [c1] (by rw [show Tryd.prog.cellsOf _ = 1 by kernel_rfl]; rfl)
    obtain ⟨n2, y2, h2⟩ := rd_field Tryd.underlying29 h 2 _ rfl [c2] (by rw [show Tryd.prog.cellsOf _ = 1 by kernel_rfl]; rfl)
    obtain ⟨n3, y3, h3⟩ := rd_field Tryd.underlying29 h 3 _ rfl [c3] (by rw [show Tryd.prog.cellsOf _ = 1 by kernel_rfl]; rfl)
    obtain ⟨n4, y4, h4⟩ := rd_field Tryd.underlying29 h 4 _ rfl [c4] (by rw [show Tryd.prog.cellsOf _ = 1 by kernel_rfl]; rfl)
    obtain ⟨n5, y5, h5⟩ := rd_field Tryd.underlying29 h 5 _ rfl [c5] (by rw [show Tryd.prog.cellsOf _ = 1 by kernel_rfl]; rfl)
    obtain ⟨n6, y6, h6⟩ := rd_field Tryd.underlying29 h 6 _ rfl [c6] (by rw [show Tryd.prog.cellsOf _ = 1 by kernel_rfl]; rfl)
    obtain ⟨n7, y7, h7⟩ := rd_field Tryd.underlying29 h 7 _ rfl [c7] (by rw [show Tryd.prog.cellsOf _ = 1 by kernel_rfl]; rfl)
    obtain ⟨n8, y8, h8⟩ := rd_field Tryd.underlying29 h 8 _ rfl [c8] (by rw [show Tryd.prog.cellsOf _ = 1 by kernel_rfl]; rfl)
    obtain ⟨n9, y9, h9⟩ := rd_field Tryd.underlying29 h 9 _ rfl [c9] (by rw [show Tryd.prog.cellsOf _ = 1 by kernel_rfl]; rfl)
    obtain ⟨n10, y10, h10⟩ := rd_field Tryd.underlying29 h 10 _ rfl [c10] (by rw [show Tryd.prog.cellsOf _ = 1 by kernel_rfl]; rfl)
    obtain ⟨k0, rfl, b0⟩ := rd_nat 65535 Tryd.underlying27 wfu16 h0
    obtain ⟨k1, rfl, b1⟩ := rd_nat 65535 Tryd.underlying27 wfu16 h1
    obtain ⟨k2, rfl, b2⟩ := rd_nat 4294967295 Tryd.underlying23 wfu32 h2
    obtain ⟨k3, rfl, b3⟩ := rd_nat 4294967295 Tryd.underlying23 wfu32 h3
    obtain ⟨k4, rfl, b4⟩ := rd_nat 255 Tryd.underlying5 wfu8 h4
    obtain ⟨k5, rfl, b5⟩ := rd_nat 255 Tryd.underlying5 wfu8 h5
    obtain ⟨k6, rfl, b6⟩ := rd_nat 65535 Tryd.underlying27 wfu16 h6
    obtain ⟨k7, rfl, b7⟩ := rd_nat 65535 Tryd.underlying27 wfu16 h7
    obtain ⟨k8, rfl, b8⟩ := rd_nat 65535 Tryd.underlying27 wfu16 h8
    obtain ⟨A9, n9, d9, l9, rfl, hb9⟩ := rd_bytes Tryd.underlying22 Tryd.underlying5 (by kernel_rfl) h9
    obtain ⟨A10, n10, d10, l10, rfl, hb10⟩ := rd_bytes Tryd.underlying22 Tryd.underlying5 (by kernel_rfl) h10
    exact ⟨⟨⟨k0, k1, k2, k3, k4, k5, k6, k7, k8, l9, l10⟩, A9, n9, d9, A10, n10, d10⟩, ⟨⟨by simp only; omega, by simp only; omega, by simp only; omega, by simp only; omega, by simp only; omega, by simp only; omega, by simp only; omega, by simp only; omega, by simp only; omega⟩, hb9, hb10⟩, rfl⟩
set_option maxRecDepth 100000 in
theorem rd_ud {fuel : Nat} {cs : List Value} {y : DataW H × List MemPlace} (h : DataW.trod enc Tryd.prog w base spare held fuel 38 cs = some y) : ∃ x : UdA, x.In w ∧ cs = ucs x.h x.B x.m x.d := by
  have hl : cs.length = 5 := by
    obtain ⟨_, _, _, _, h4, _⟩ := DataW.trod_struct Tryd.underlying38 h
    rw [h4]; kernel_rfl
  match cs, hl with
  | [c0, c1, c2, c3, c4], _ =>
    obtain ⟨n0, y0, h0⟩ := rd_field Tryd.underlying38 h 0 _ rfl [c0] (by rw [show Tryd.prog.cellsOf _ = 1 by kernel_rfl]; rfl)
    obtain ⟨n1, y1, h1⟩ := rd_field Tryd.underlying38 h 1 _ rfl [c1] (by rw [show Tryd.prog.cellsOf _ = 1 by kernel_rfl]; rfl)
    obtain ⟨n2, y2, h2⟩ := rd_field Tryd.underlying38 h 2 _ rfl [c2] (by rw [show Tryd.prog.cellsOf _ = 1 by kernel_rfl]; rfl)
    obtain ⟨n3, y3, h3⟩ := rd_field Tryd.underlying38 h 3 _ rfl [c3] (by rw [show Tryd.prog.cellsOf _ = 1 by kernel_rfl]; rfl)
    obtain ⟨n4, y4, h4⟩ := rd_field Tryd.underlying38 h 4 _ rfl [c4] (by rw [show Tryd.prog.cellsOf _ = 1 by kernel_rfl]; rfl)
    obtain ⟨k0, rfl, b0⟩ := rd_nat 65535 Tryd.underlying27 wfu16 h0
    obtain ⟨k1, rfl, b1⟩ := rd_nat 65535 Tryd.underlying27 wfu16 h1
    obtain ⟨k2, rfl, b2⟩ := rd_nat 65535 Tryd.underlying27 wfu16 h2
    obtain ⟨k3, rfl, b3⟩ := rd_nat 65535 Tryd.underlying27 wfu16 h3
    obtain ⟨A4, n4, d4, l4, rfl, hb4⟩ := rd_bytes Tryd.underlying22 Tryd.underlying5 (by kernel_rfl) h4
    exact ⟨⟨⟨k0, k1, k2, k3, l4⟩, A4, n4, d4⟩, ⟨⟨by simp only; omega, by simp only; omega, by simp only; omega, by simp only; omega⟩, hb4⟩, rfl⟩
set_option maxRecDepth 100000 in
theorem rd_chg {fuel : Nat} {cs : List Value} {y : DataW H × List MemPlace} (h : DataW.trod enc Tryd.prog w base spare held fuel 74 cs = some y) : ∃ x : ChA, x.k < 65536 ∧ x.y < 256 ∧ cs = [.int .u16 (x.k : Int), .int .u8 (x.y : Int), .bool x.u] := by
  have hl : cs.length = 3 := by
    obtain ⟨_, _, _, _, h4, _⟩ := DataW.trod_struct Tryd.underlying74 h
    rw [h4]; kernel_rfl
  match cs, hl with
  | [c0, c1, c2], _ =>
    obtain ⟨n0, y0, h0⟩ := rd_field Tryd.underlying74 h 0 _ rfl [c0] (by rw [show Tryd.prog.cellsOf _ = 1 by kernel_rfl]; rfl)
    obtain ⟨n1, y1, h1⟩ := rd_field Tryd.underlying74 h 1 _ rfl [c1] (by rw [show Tryd.prog.cellsOf _ = 1 by kernel_rfl]; rfl)
    obtain ⟨n2, y2, h2⟩ := rd_field Tryd.underlying74 h 2 _ rfl [c2] (by rw [show Tryd.prog.cellsOf _ = 1 by kernel_rfl]; rfl)
    obtain ⟨k0, rfl, b0⟩ := rd_nat 65535 Tryd.underlying27 wfu16 h0
    obtain ⟨k1, rfl, b1⟩ := rd_nat 255 Tryd.underlying5 wfu8 h1
    obtain ⟨k2, rfl⟩ := rd_boolT h2
    exact ⟨⟨k0, k1, k2⟩, by simp only; omega, by simp only; omega, rfl⟩
set_option maxRecDepth 100000 in
theorem open_tc {r : Reach} {b : Nat} {v : Value} {d : DataW H} {ps : List MemPlace} (hv : Value.okWide Tryd.prog w r b 29 v) (h : DataW.Trod enc Tryd.prog w base spare held 29 v d ps) : ∃ x : TcA, x.In w ∧ v = .agg (tcs x.h x.A x.n x.c x.B x.m x.d).toArray := by
  obtain ⟨cs, rfl, _⟩ := okWide_struct Tryd.underlying29 hv
  obtain ⟨fuel, hf⟩ := h
  obtain ⟨x, hx, hc⟩ := rd_tc hf
  refine ⟨x, hx, ?_⟩
  have : cs.toList = tcs x.h x.A x.n x.c x.B x.m x.d := hc
  rw [show cs = ⟨cs.toList⟩ from rfl, this]
set_option maxRecDepth 100000 in
theorem open_ud {r : Reach} {b : Nat} {v : Value} {d : DataW H} {ps : List MemPlace} (hv : Value.okWide Tryd.prog w r b 38 v) (h : DataW.Trod enc Tryd.prog w base spare held 38 v d ps) : ∃ x : UdA, x.In w ∧ v = .agg (ucs x.h x.B x.m x.d).toArray := by
  obtain ⟨cs, rfl, _⟩ := okWide_struct Tryd.underlying38 hv
  obtain ⟨fuel, hf⟩ := h
  obtain ⟨x, hx, hc⟩ := rd_ud hf
  refine ⟨x, hx, ?_⟩
  have : cs.toList = ucs x.h x.B x.m x.d := hc
  rw [show cs = ⟨cs.toList⟩ from rfl, this]
set_option maxRecDepth 100000 in
theorem open_chg {r : Reach} {b : Nat} {v : Value} {d : DataW H} {ps : List MemPlace} (hv : Value.okWide Tryd.prog w r b 74 v) (h : DataW.Trod enc Tryd.prog w base spare held 74 v d ps) : ∃ x : ChA, (x.k < 65536 ∧ x.y < 256) ∧ v = .agg #[.int .u16 (x.k : Int), .int .u8 (x.y : Int), .bool x.u] := by
  obtain ⟨cs, rfl, _⟩ := okWide_struct Tryd.underlying74 hv
  obtain ⟨fuel, hf⟩ := h
  obtain ⟨x, h1, h2, hc⟩ := rd_chg hf
  refine ⟨x, ⟨h1, h2⟩, ?_⟩
  have : cs.toList = [.int .u16 (x.k : Int), .int .u8 (x.y : Int), .bool x.u] := hc
  rw [show cs = ⟨cs.toList⟩ from rfl, this]
/-- Two addresses as they are handed in. -/
structure EndA where
  s : Nat
  t : Nat
set_option maxRecDepth 100000 in
theorem rd_ends {fuel : Nat} {cs : List Value} {y : DataW H × List MemPlace} (h : DataW.trod enc Tryd.prog w base spare held fuel 25 cs = some y) : ∃ x : EndA, x.s < 4294967296 ∧ x.t < 4294967296 ∧ cs = [.int .u32 (x.s : Int), .int .u32 (x.t : Int)] := by
  obtain ⟨xs, m, _, _, hl, hxs, hel⟩ := DataW.trod_array (n := 2) (e := 24) Tryd.underlying25 h
  rw [show Tryd.prog.cellsOf 24 = 1 by kernel_rfl] at hel
  rw [show Tryd.prog.cellsOf 25 = 2 by kernel_rfl] at hl
  match cs, hl, xs, hxs with
  | [c0, c1], _, [x0, x1], _ =>
    have h0 := hel 0 (by decide)
    have h1 := hel 1 (by decide)
    obtain ⟨k0, rfl, b0⟩ := rd_nat 4294967295 Tryd.underlying24 wfu32 (c := c0) (x := x0) h0
    obtain ⟨k1, rfl, b1⟩ := rd_nat 4294967295 Tryd.underlying24 wfu32 (c := c1) (x := x1) h1
    exact ⟨⟨k0, k1⟩, by simp only; omega, by simp only; omega, rfl⟩
set_option maxRecDepth 100000 in
theorem open_ends {r : Reach} {b : Nat} {v : Value} {d : DataW H} {ps : List MemPlace} (hv : Value.okWide Tryd.prog w r b 25 v) (h : DataW.Trod enc Tryd.prog w base spare held 25 v d ps) : ∃ x : EndA, (x.s < 4294967296 ∧ x.t < 4294967296) ∧ v = .agg #[.int .u32 (x.s : Int), .int .u32 (x.t : Int)] := by
  unfold Value.okWide at hv
  rw [Tryd.underlying25] at hv
  obtain ⟨cs, rfl, _, _⟩ := hv
  obtain ⟨fuel, hf⟩ := h
  obtain ⟨x, h1, h2, hc⟩ := rd_ends hf
  refine ⟨x, ⟨h1, h2⟩, ?_⟩
  have : cs.toList = [.int .u32 (x.s : Int), .int .u32 (x.t : Int)] := hc
  rw [show cs = ⟨cs.toList⟩ from rfl, this]
end
end Go.Proofs.YthjbabkmjmfmjaaDoor
