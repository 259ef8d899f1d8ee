/- Texts that belong together, one behind the other: EthFr, EthS. Conditions: those of each. -/
import Derived.Test.YtbkjobmjapbmpaaMg31
/- Arguments that are frames, or tags, read. -/
namespace Go.Proofs.Ytbkjobmjapbmpaa
open Go.ChangeShapes Go.WideShapes Go.RowKit
set_option linter.unusedVariables false
/-- A frame as it is handed: what it tells, and its slices. -/
structure FrA where
  f : Fr
  vt : Value
  vb : Value
  vr : Value
structure FrA.In (w : World) (x : FrA) : Prop where
  ok : x.f.ok
  t : ∃ A n c, x.vt = .slice A n c ∧ Tags w A n c x.f.t
  b : ∃ A n c, x.vb = .slice A n c ∧ Byt w A n c x.f.b
  r : ∃ A n c, x.vr = .slice A n c ∧ Byt w A n c x.f.r
section
variable {H : Type} {enc : TypeId × Value → H} {w : World} {base : Nat} {spare : Nat → Bool} {held : Bool}
theorem rd_tagE {fuel : Nat} {cs : List Value} {x : DataW H × List MemPlace} (h : DataW.trod enc Try.prog w base spare held fuel 63 cs = some x) : ∃ t : Tg, t.ok ∧ cs = tgc t := by
  have hl : cs.length = 4 := by
    obtain ⟨_, _, _, _, h4, _⟩ := DataW.trod_struct Try.underlying63 h
    rw [h4]; kernel_rfl
  match cs, hl with
  | [c0, c1, c2, c3], _ =>
    obtain ⟨n0, y0, h0⟩ := rd_field Try.underlying63 h 0 _ rfl [c0] (by simp [show Try.prog.cellsOf 24 = 1 by kernel_rfl])
    obtain ⟨n1, y1, h1⟩ := rd_field Try.underlying63 h 1 _ rfl [c1] (by simp [show Try.prog.cellsOf 5 = 1 by kernel_rfl])
    obtain ⟨n2, y2, h2⟩ := rd_field Try.underlying63 h 2 _ rfl [c2] (by simp [show Try.prog.cellsOf 4 = 1 by kernel_rfl])
    obtain ⟨n3, y3, h3⟩ := rd_field Try.underlying63 h 3 _ rfl [c3] (by simp [show Try.prog.cellsOf 24 = 1 by kernel_rfl])
    obtain ⟨k, rfl, hk⟩ := rd_nat 65535 Try.underlying24 wfu16 h0
    obtain ⟨p, rfl, hp⟩ := rd_nat 255 Try.underlying5 wfu8 h1
    obtain ⟨d, hd, _⟩ := DataW.trod_bool Try.underlying4 h2
    obtain ⟨n, rfl, hn⟩ := rd_nat 65535 Try.underlying24 wfu16 h3
    simp at hd
    subst hd
    exact ⟨⟨k, p, d, n⟩, ⟨by simp only; omega, by simp only; omega, by simp only; omega⟩, rfl⟩
theorem rd_tags {fuel : Nat} {v : Value} {x : DataW H × List MemPlace} (h : DataW.trod enc Try.prog w base spare held fuel 29 [v] = some x) : ∃ A n c l, v = .slice A n c ∧ Tags w A n c l := by
  obtain ⟨A, n, c, rfl, h1, h2, h3⟩ := rd_rows 4 (by omega) Try.underlying29 (by kernel_rfl) h
  rcases Nat.eq_zero_or_pos n with h0 | h0
  · subst h0
    exact ⟨A, 0, c, [], rfl, ⟨rfl, h1, h2, fun _ h => by simp at h, fun h => absurd h (by omega)⟩, fun _ h => by simp at h⟩
  · obtain ⟨b, o, rfl, hel⟩ := h3 h0
    have : ∀ i, i < n → ∃ t : Tg, t.ok ∧ ∀ j (hj : j < (tgc t).length), w.cell? ⟨b, o + i * 4 + j, none⟩ = some (tgc t)[j] := by
      intro i hi
      obtain ⟨cs, y, fl, hl, hcell, htr⟩ := hel i hi
      obtain ⟨t, ht, rfl⟩ := rd_tagE htr
      exact ⟨t, ht, hcell⟩
    obtain ⟨l, hl, hp⟩ := pick n _ this
    refine ⟨some ⟨b, o, none⟩, n, c, l, rfl, ⟨by rw [List.length_map]; exact hl, h1, h2, ?_, fun _ => ⟨b, o, rfl, fun i hi j hj => ?_⟩⟩, fun t ht => ?_⟩
    · intro r hr
      obtain ⟨x, _, rfl⟩ := List.mem_map.1 hr
      rfl
    · have hi' : i < l.length := by simpa using hi
      have := (hp i hi').2 j (by simpa using hj)
      simpa using this
    · obtain ⟨i, hi, rfl⟩ := List.getElem_of_mem ht
      exact (hp i hi).1
theorem rd_int {fuel : Nat} {c : Value} {x : DataW H × List MemPlace} (h : DataW.trod enc Try.prog w base spare held fuel 3 [c] = some x) : ∃ z : Int, c = .int .i64 z ∧ -9223372036854775808 ≤ z ∧ z ≤ 9223372036854775807 := by
  obtain ⟨z, hz, _, hw⟩ := DataW.trod_int Try.underlying3 h
  simp at hz
  refine ⟨z, hz, ?_⟩
  simp [Lit.wf, IntKind.min, IntKind.max, IntKind.signed, IntKind.bits] at hw
  omega
set_option maxRecDepth 100000 in
theorem rd_frame {fuel : Nat} {cs : List Value} {y : DataW H × List MemPlace} (h : DataW.trod enc Try.prog w base spare held fuel 33 cs = some y) : ∃ x : FrA, x.In w ∧ cs = fcs x.f x.vt x.vb x.vr := by
  have hl : cs.length = 23 := by
    obtain ⟨_, _, _, _, h4, _⟩ := DataW.trod_struct Try.underlying33 h
    rw [h4]; kernel_rfl
  match cs, hl with
  | [c0, c1, c2, c3, c4, c5, c6, c7, c8, c9, c10, c11, c12, c13, c14, c15, c16, c17, c18, c19, c20, c21, c22], _ =>
    obtain ⟨n0, y0, h0⟩ := rd_field Try.underlying33 h 0 _ rfl [c0, c1, c2, c3, c4, c5] (by rw [show Try.prog.cellsOf _ = 6 by kernel_rfl]; rfl)
    obtain ⟨n1, y1, h1⟩ := rd_field Try.underlying33 h 1 _ rfl [c6, c7, c8, c9, c10, c11] (by rw [show Try.prog.cellsOf _ = 6 by kernel_rfl]; rfl)
    obtain ⟨n2, y2, h2⟩ := rd_field Try.underlying33 h 2 _ rfl [c12] (by rw [show Try.prog.cellsOf _ = 1 by kernel_rfl]; rfl)
    obtain ⟨n3, y3, h3⟩ := rd_field Try.underlying33 h 3 _ rfl [c13] (by rw [show Try.prog.cellsOf _ = 1 by kernel_rfl]; rfl)
    obtain ⟨n4, y4, h4⟩ := rd_field Try.underlying33 h 4 _ rfl [c14] (by rw [show Try.prog.cellsOf _ = 1 by kernel_rfl]; rfl)
    obtain ⟨n5, y5, h5⟩ := rd_field Try.underlying33 h 5 _ rfl [c15, c16, c17] (by rw [show Try.prog.cellsOf _ = 3 by kernel_rfl]; rfl)
    obtain ⟨n6, y6, h6⟩ := rd_field Try.underlying33 h 6 _ rfl [c18, c19, c20] (by rw [show Try.prog.cellsOf _ = 3 by kernel_rfl]; rfl)
    obtain ⟨n7, y7, h7⟩ := rd_field Try.underlying33 h 7 _ rfl [c21] (by rw [show Try.prog.cellsOf _ = 1 by kernel_rfl]; rfl)
    obtain ⟨n8, y8, h8⟩ := rd_field Try.underlying33 h 8 _ rfl [c22] (by rw [show Try.prog.cellsOf _ = 1 by kernel_rfl]; rfl)
    obtain ⟨d, hd, ed⟩ := rd_arr 6 Try.underlying28 Try.underlying5 (by kernel_rfl) (by kernel_rfl) h0
    obtain ⟨s, hs, es⟩ := rd_arr 6 Try.underlying28 Try.underlying5 (by kernel_rfl) (by kernel_rfl) h1
    obtain ⟨At, nt, ct, t, rfl, ht⟩ := rd_tags h2
    obtain ⟨k, rfl, hk⟩ := rd_int h3
    obtain ⟨z, rfl, hz⟩ := rd_int h4
    obtain ⟨l, hll, el⟩ := rd_arr 3 Try.underlying30 Try.underlying5 (by kernel_rfl) (by kernel_rfl) h5
    obtain ⟨o, ho, eo⟩ := rd_arr 3 Try.underlying30 Try.underlying5 (by kernel_rfl) (by kernel_rfl) h6
    obtain ⟨Ab, nb, cb, b, rfl, hb⟩ := rd_bytes Try.underlying31 Try.underlying5 (by kernel_rfl) h7
    obtain ⟨Ar, nr, cr, r, rfl, hr⟩ := rd_bytes Try.underlying31 Try.underlying5 (by kernel_rfl) h8
    refine ⟨⟨⟨d, s, t, k, z, l, o, b, r⟩, .slice At nt ct, .slice Ab nb cb, .slice Ar nr cr⟩, ⟨⟨hd, hs, ht.2, hk, hz, hll, ho⟩, ⟨_, _, _, rfl, ht⟩, ⟨_, _, _, rfl, hb⟩, ⟨_, _, _, rfl, hr⟩⟩, ?_⟩
    unfold fcs
    simp only
    rw [← ed, ← es, ← el, ← eo]
    rfl
set_option maxRecDepth 100000 in
theorem open_frame {r : Reach} {b : Nat} {v : Value} {d : DataW H} {ps : List MemPlace} (hv : Value.okWide Try.prog w r b 33 v) (h : DataW.Trod enc Try.prog w base spare held 33 v d ps) : ∃ x : FrA, x.In w ∧ v = frv x.f x.vt x.vb x.vr := by
  obtain ⟨cs, rfl, _⟩ := okWide_struct Try.underlying33 hv
  obtain ⟨fuel, hf⟩ := h
  obtain ⟨x, hx, hc⟩ := rd_frame hf
  refine ⟨x, hx, ?_⟩
  have : cs.toList = fcs x.f x.vt x.vb x.vr := hc
  rw [show cs = ⟨cs.toList⟩ from rfl, this]
  rfl
end
end Go.Proofs.Ytbkjobmjapbmpaa
/- tolllaw04: Same, of two frames that are the same. -/
namespace Go.Proofs.Ytbkjobmjapbmpaa
open Go.RowKit Go.Sort
set_option linter.unusedVariables false

/-- Two slices of tags and bytes read as a frame says. -/
structure FrRd (w : World) (f : Fr) (vt vb vr : Value) : Prop where
  six : f.six
  t : ∃ A n c, vt = .slice A n c ∧ Tags w A n c f.t
  b : ∃ A n c, vb = .slice A n c ∧ Byt w A n c f.b
  r : ∃ A n c, vr = .slice A n c ∧ Byt w A n c f.r
  tn : f.t.length ≤ 1000
theorem FrRd.kept {w w' : World} {f : Fr} {vt vb vr : Value} (h : FrRd w f vt vb vr) (k : Kept Nil w w') : FrRd w' f vt vb vr := by
  obtain ⟨h0, ⟨A, n, c, e, ht⟩, ⟨A1, n1, c1, e1, hb⟩, ⟨A2, n2, c2, e2, hr⟩, h1⟩ := h
  exact ⟨h0, ⟨A, n, c, e, ht.kept k (fun _ _ hf => hf)⟩, ⟨A1, n1, c1, e1, hb.kept k (fun _ _ hf => hf)⟩, ⟨A2, n2, c2, e2, hr.kept k (fun _ _ hf => hf)⟩, h1⟩
end Go.Proofs.Ytbkjobmjapbmpaa
