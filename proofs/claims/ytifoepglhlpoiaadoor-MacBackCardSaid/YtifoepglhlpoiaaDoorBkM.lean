/- Texts there and back: plain facts for MacBack. -/
import Derived.Test.YtifoepglhlpoiaaDoorMacS
import Derived.Test.YtifoepglhlpoiaaDoorMacU
import Derived.Test.YtifoepglhlpoiaaDoorMaskM
import Derived.Lib.Case
namespace Go.Proofs.YtifoepglhlpoiaaDoor
open Go.RowKit
set_option linter.unusedVariables false

theorem hex_back : ∀ n : Fin 256, numB 16 0 (hex2 (UInt8.ofNat n.val)) = some n.val ∧ numB 16 0 ((hex2 (UInt8.ofNat n.val)).map Lib.upperB) = some n.val := by decide +kernel
theorem hex_back' (b : UInt8) : (numB 16 0 (hex2 b)).map UInt8.ofNat = some b ∧ (numB 16 0 ((hex2 b).map Lib.upperB)).map UInt8.ofNat = some b := by
  have h := hex_back ⟨b.toNat, b.toNat_lt⟩
  simp only [UInt8.ofNat_toNat] at h
  rw [h.1, h.2]
  simp
theorem prs_17 (p0 q0 p1 q1 p2 q2 p3 q3 p4 q4 p5 q5 b0 b1 b2 b3 b4 b5 : UInt8) (h0 : (numB 16 0 [p0, q0]).map UInt8.ofNat = some b0) (h1 : (numB 16 0 [p1, q1]).map UInt8.ofNat = some b1) (h2 : (numB 16 0 [p2, q2]).map UInt8.ofNat = some b2)
    (h3 : (numB 16 0 [p3, q3]).map UInt8.ofNat = some b3) (h4 : (numB 16 0 [p4, q4]).map UInt8.ofNat = some b4) (h5 : (numB 16 0 [p5, q5]).map UInt8.ofNat = some b5) :
    prs [p0, q0, 58, p1, q1, 58, p2, q2, 58, p3, q3, 58, p4, q4, 58, p5, q5] = some [b0, b1, b2, b3, b4, b5] := by
  simp [prs, pfx, pst, h0, h1, h2, h3, h4, h5]
theorem prs_text (a b c d e f : UInt8) : prs (textL [a, b, c, d, e, f]) = some [a, b, c, d, e, f] :=
  prs_17 _ _ _ _ _ _ _ _ _ _ _ _ _ _ _ _ _ _ (hex_back' a).1 (hex_back' b).1 (hex_back' c).1 (hex_back' d).1 (hex_back' e).1 (hex_back' f).1
theorem prs_upper (a b c d e f : UInt8) : prs (Lib.toUpperA (textL [a, b, c, d, e, f])) = some [a, b, c, d, e, f] := by
  have : Lib.toUpperA (textL [a, b, c, d, e, f]) = [Lib.upperB (hexd (a.toNat / 16)), Lib.upperB (hexd (a.toNat % 16)), 58, Lib.upperB (hexd (b.toNat / 16)), Lib.upperB (hexd (b.toNat % 16)), 58, Lib.upperB (hexd (c.toNat / 16)), Lib.upperB (hexd (c.toNat % 16)), 58, Lib.upperB (hexd (d.toNat / 16)), Lib.upperB (hexd (d.toNat % 16)), 58, Lib.upperB (hexd (e.toNat / 16)), Lib.upperB (hexd (e.toNat % 16)), 58, Lib.upperB (hexd (f.toNat / 16)), Lib.upperB (hexd (f.toNat % 16))] := by
    show List.map Lib.upperB [_, _, _, _, _, _, _, _, _, _, _, _, _, _, _, _, _] = _
    simp only [List.map_cons, List.map_nil]
    rw [show Lib.upperB 58 = 58 from by decide]
  rw [this]
  exact prs_17 _ _ _ _ _ _ _ _ _ _ _ _ _ _ _ _ _ _ (hex_back' a).2 (hex_back' b).2 (hex_back' c).2 (hex_back' d).2 (hex_back' e).2 (hex_back' f).2

/-- What two digits tell. -/
theorem dig_low : ∀ n : Fin 256, digv (UInt8.ofNat n.val) < 16 → Lib.lowerB (UInt8.ofNat n.val) = hexd (digv (UInt8.ofNat n.val)) ∧ n.val < 128 := by decide +kernel
theorem dig_low' (c : UInt8) (h : digv c < 16) : Lib.lowerB c = hexd (digv c) ∧ c.toNat < 128 := by
  have := dig_low ⟨c.toNat, c.toNat_lt⟩
  simp only [UInt8.ofNat_toNat] at this
  exact this h
theorem two_digits (l : List UInt8) (hl : l.length = 2) (b : UInt8) (h : (numB 16 0 l).map UInt8.ofNat = some b) : ∃ p q, l = [p, q] ∧ [Lib.lowerB p, Lib.lowerB q] = hex2 b ∧ p.toNat < 128 ∧ q.toNat < 128 := by
  match l, hl with
  | [p, q], _ =>
    simp only [numB] at h
    split at h
    · rename_i hp
      split at h
      · rename_i hq
        simp only [Option.map_some, Option.some.injEq] at h
        have h1 := dig_low' p hp
        have h2 := dig_low' q hq
        refine ⟨p, q, rfl, ?_, h1.2, h2.2⟩
        rw [h1.1, h2.1]
        have hb : b.toNat = digv p * 16 + digv q := by
          rw [← h, UInt8.toNat_ofNat']; omega
        unfold hex2
        rw [hb, show (digv p * 16 + digv q) / 16 = digv p by omega, show (digv p * 16 + digv q) % 16 = digv q by omega]
      · simp at h
    · simp at h

theorem pfx_step {l bs : List UInt8} {k : Nat} (h : pfx l (k + 1) = some bs) : ∃ b0 b, pfx l k = some b0 ∧ pst l k = some b ∧ bs = b0 ++ [b] := by
  rw [pfx] at h
  split at h
  · rename_i b0 b h1 h2
    exact ⟨b0, b, h1, h2, by simpa using h.symm⟩
  · cases h
theorem pst_some {l : List UInt8} {k : Nat} {b : UInt8} (h : pst l k = some b) : (0 < k → l.getD (3 * k - 1) 0 = 58) ∧ (numB 16 0 ((l.drop (3 * k)).take 2)).map UInt8.ofNat = some b := by
  unfold pst at h
  split at h
  · cases h
  · rename_i hn
    refine ⟨fun hk => ?_, h⟩
    exact Classical.not_not.1 fun hc => hn ⟨hk, hc⟩
/-- What is read is, but for its letters, the text of what it is read as. -/
theorem prs_lower (l : List UInt8) (bs : List UInt8) (h : prs l = some bs) : Lib.toLowerA l = textL bs ∧ ∀ c ∈ l, c.toNat < 128 := by
  unfold prs at h
  split at h
  · rename_i hl
    obtain ⟨x5, b5, k5, g5, rfl⟩ := pfx_step h
    obtain ⟨x4, b4, k4, g4, rfl⟩ := pfx_step k5
    obtain ⟨x3, b3, k3, g3, rfl⟩ := pfx_step k4
    obtain ⟨x2, b2, k2, g2, rfl⟩ := pfx_step k3
    obtain ⟨x1, b1, k1, g1, rfl⟩ := pfx_step k2
    obtain ⟨x0, b0, k0, g0, rfl⟩ := pfx_step k1
    obtain rfl : x0 = [] := by simpa [pfx] using k0.symm
    clear h k5 k4 k3 k2 k1 k0
    match l, hl with
    | [p0, q0, c1, p1, q1, c2, p2, q2, c3, p3, q3, c4, p4, q4, c5, p5, q5], _ =>
      obtain ⟨-, n0⟩ := pst_some g0
      obtain ⟨s1, n1⟩ := pst_some g1
      obtain ⟨s2, n2⟩ := pst_some g2
      obtain ⟨s3, n3⟩ := pst_some g3
      obtain ⟨s4, n4⟩ := pst_some g4
      obtain ⟨s5, n5⟩ := pst_some g5
      obtain rfl : c1 = 58 := by simpa using s1 (by omega)
      obtain rfl : c2 = 58 := by simpa using s2 (by omega)
      obtain rfl : c3 = 58 := by simpa using s3 (by omega)
      obtain rfl : c4 = 58 := by simpa using s4 (by omega)
      obtain rfl : c5 = 58 := by simpa using s5 (by omega)
      obtain ⟨_, _, e0, t0, u0, v0⟩ := two_digits [p0, q0] rfl b0 n0
      obtain ⟨_, _, e1, t1, u1, v1⟩ := two_digits [p1, q1] rfl b1 n1
      obtain ⟨_, _, e2, t2, u2, v2⟩ := two_digits [p2, q2] rfl b2 n2
      obtain ⟨_, _, e3, t3, u3, v3⟩ := two_digits [p3, q3] rfl b3 n3
      obtain ⟨_, _, e4, t4, u4, v4⟩ := two_digits [p4, q4] rfl b4 n4
      obtain ⟨_, _, e5, t5, u5, v5⟩ := two_digits [p5, q5] rfl b5 n5
      cases e0; cases e1; cases e2; cases e3; cases e4; cases e5
      simp only [hex2, List.cons.injEq, and_true] at t0 t1 t2 t3 t4 t5
      constructor
      · show List.map Lib.lowerB _ = textL [b0, b1, b2, b3, b4, b5]
        simp only [List.map_cons, List.map_nil, t0.1, t0.2, t1.1, t1.2, t2.1, t2.2, t3.1, t3.2, t4.1, t4.2, t5.1, t5.2]
        rw [show Lib.lowerB 58 = 58 from by decide]
        rfl
      · intro c hc
        simp only [List.mem_cons, List.not_mem_nil, or_false] at hc
        rcases hc with rfl | rfl | rfl | rfl | rfl | rfl | rfl | rfl | rfl | rfl | rfl | rfl | rfl | rfl | rfl | rfl | rfl <;> first | assumption | decide
  · cases h

/-- No slash in an address's text. -/
theorem hexd_ns : ∀ n : Fin 256, hexd (n.val / 16) ≠ 47 ∧ hexd (n.val % 16) ≠ 47 ∧ (hexd (n.val / 16)).toNat < 128 ∧ (hexd (n.val % 16)).toNat < 128 := by decide +kernel
theorem hexd_ns' (b : UInt8) : hexd (b.toNat / 16) ≠ 47 ∧ hexd (b.toNat % 16) ≠ 47 ∧ (hexd (b.toNat / 16)).toNat < 128 ∧ (hexd (b.toNat % 16)).toNat < 128 := hexd_ns ⟨b.toNat, b.toNat_lt⟩
theorem text_ns (a b c d e f : UInt8) : ∀ x ∈ textL [a, b, c, d, e, f], x ≠ 47 ∧ x.toNat < 128 := by
  intro x hx
  have ha := hexd_ns' a
  have hb := hexd_ns' b
  have hc := hexd_ns' c
  have hd := hexd_ns' d
  have he := hexd_ns' e
  have hf := hexd_ns' f
  change x ∈ [hexd (a.toNat / 16), hexd (a.toNat % 16), 58, hexd (b.toNat / 16), hexd (b.toNat % 16), 58, hexd (c.toNat / 16), hexd (c.toNat % 16), 58, hexd (d.toNat / 16), hexd (d.toNat % 16), 58, hexd (e.toNat / 16), hexd (e.toNat % 16), 58, hexd (f.toNat / 16), hexd (f.toNat % 16)] at hx
  simp only [List.mem_cons, List.not_mem_nil, or_false] at hx
  rcases hx with rfl | rfl | rfl | rfl | rfl | rfl | rfl | rfl | rfl | rfl | rfl | rfl | rfl | rfl | rfl | rfl | rfl <;> first | exact ⟨ha.1, ha.2.2.1⟩ | exact ⟨ha.2.1, ha.2.2.2⟩ | exact ⟨hb.1, hb.2.2.1⟩ | exact ⟨hb.2.1, hb.2.2.2⟩ | exact ⟨hc.1, hc.2.2.1⟩ | exact ⟨hc.2.1, hc.2.2.2⟩ | exact ⟨hd.1, hd.2.2.1⟩ | exact ⟨hd.2.1, hd.2.2.2⟩ | exact ⟨he.1, he.2.2.1⟩ | exact ⟨he.2.1, he.2.2.2⟩ | exact ⟨hf.1, hf.2.2.1⟩ | exact ⟨hf.2.1, hf.2.2.2⟩ | exact ⟨by decide, by decide⟩

theorem ix_none (l : List UInt8) (h : ∀ x ∈ l, x ≠ 47) : Lib.indexByte l 47 = -1 := by
  induction l with
  | nil => rfl
  | cons x l ih =>
    have hx : (x == 47) = false := by simpa using h x (by simp)
    rw [Lib.indexByte, hx, ih fun y hy => h y (by simp [hy])]
    rfl
theorem ix_at (l r : List UInt8) (h : ∀ x ∈ l, x ≠ 47) : Lib.indexByte (l ++ 47 :: r) 47 = (l.length : Int) := by
  induction l with
  | nil => rfl
  | cons x l ih =>
    have hx : (x == 47) = false := by simpa using h x (by simp)
    rw [List.cons_append, Lib.indexByte, hx, ih fun y hy => h y (by simp [hy])]
    have : ((l.length : Int) == -1) = false := by simp
    simp [this]
theorem dec_back : ∀ n : Fin 49, numB 10 0 (Lib.decDigits n.val) = some n.val ∧ Lib.decDigits n.val ≠ [] ∧ (Lib.decDigits n.val).length ≤ 2 := by decide +kernel
theorem pmk_mtx (a b c d e f : UInt8) : pmk (mtx [a, b, c, d, e, f]) = .ok [a, b, c, d, e, f] := by
  unfold mtx
  split
  · rename_i h
    obtain ⟨h1, h2, h3⟩ := h
    have hd := dec_back ⟨(loI [a, b, c, d, e, f]).toNat, by omega⟩
    simp only at hd
    unfold pmk
    rw [if_neg (by omega), if_neg hd.2.1, hd.1]
    simp only
    rw [if_neg (by omega), ← h3]
  · unfold pmk
    rw [if_pos (by rw [textL_len]; omega), prs_text]
theorem and_idem (a b : UInt8) : (a &&& b) &&& b = a &&& b := by rw [UInt8.and_assoc, UInt8.and_self]
theorem andL_idem (a0 a1 a2 a3 a4 a5 m0 m1 m2 m3 m4 m5 : UInt8) : andL (andL [a0, a1, a2, a3, a4, a5] [m0, m1, m2, m3, m4, m5]) [m0, m1, m2, m3, m4, m5] = andL [a0, a1, a2, a3, a4, a5] [m0, m1, m2, m3, m4, m5] := by
  simp [andL, and_idem]
theorem ppt_ptx (a0 a1 a2 a3 a4 a5 m0 m1 m2 m3 m4 m5 : UInt8) : ppt (ptx [a0, a1, a2, a3, a4, a5] [m0, m1, m2, m3, m4, m5]) = .ok (andL [a0, a1, a2, a3, a4, a5] [m0, m1, m2, m3, m4, m5], [m0, m1, m2, m3, m4, m5]) := by
  have hns : ∀ x ∈ textL (andL [a0, a1, a2, a3, a4, a5] [m0, m1, m2, m3, m4, m5]), x ≠ 47 := fun x hx => (text_ns _ _ _ _ _ _ x hx).1
  have hp : prs (textL (andL [a0, a1, a2, a3, a4, a5] [m0, m1, m2, m3, m4, m5])) = some (andL [a0, a1, a2, a3, a4, a5] [m0, m1, m2, m3, m4, m5]) := prs_text _ _ _ _ _ _
  have hid := andL_idem a0 a1 a2 a3 a4 a5 m0 m1 m2 m3 m4 m5
  have hln : (textL (andL [a0, a1, a2, a3, a4, a5] [m0, m1, m2, m3, m4, m5])).length = 17 := rfl
  unfold ptx
  generalize andL [a0, a1, a2, a3, a4, a5] [m0, m1, m2, m3, m4, m5] = w at *
  by_cases hm : [m0, m1, m2, m3, m4, m5] = [255, 255, 255, 255, 255, 255]
  · rw [if_pos hm, List.append_nil]
    unfold ppt
    rw [if_pos (ix_none _ hns), hp]
    simp only
    rw [if_pos (ix_none _ hns), ← hm, hid]
  · rw [if_neg hm]
    have hix := ix_at (textL w) (mtx [m0, m1, m2, m3, m4, m5]) hns
    rw [hln] at hix
    have ht : (textL w ++ 47 :: mtx [m0, m1, m2, m3, m4, m5]).take 17 = textL w := by rw [← hln, List.take_left]
    have hd : (textL w ++ 47 :: mtx [m0, m1, m2, m3, m4, m5]).drop (17 + 1) = mtx [m0, m1, m2, m3, m4, m5] := by
      rw [← hln, ← List.drop_drop, List.drop_left]
      rfl
    unfold ppt
    rw [hix, if_neg (by omega), show ((17 : Nat) : Int).toNat = 17 from rfl, ht, hp]
    simp only
    rw [if_neg (by omega), hd, pmk_mtx]
    simp only
    rw [hid]
/-- What a pattern is read as: of the six bytes each, or an error. -/
theorem ppt_form (l : List UInt8) : (∃ e, ppt l = .error e ∧ e ≠ 0) ∨ ∃ w0 w1 w2 w3 w4 w5 m0 m1 m2 m3 m4 m5, ppt l = .ok ([w0, w1, w2, w3, w4, w5], [m0, m1, m2, m3, m4, m5]) ∧ andL [w0, w1, w2, w3, w4, w5] [m0, m1, m2, m3, m4, m5] = [w0, w1, w2, w3, w4, w5] := by
  have hpm : ∀ t, (∃ e, pmk t = .error e ∧ e ≠ 0) ∨ ∃ m0 m1 m2 m3 m4 m5, pmk t = .ok [m0, m1, m2, m3, m4, m5] := by
    intro t
    cases hk : pmk t with
    | ok m =>
      obtain ⟨a, b, c, d, e, f, rfl⟩ := six m (pmk_len _ _ hk)
      exact .inr ⟨a, b, c, d, e, f, rfl⟩
    | error e =>
      refine .inl ⟨e, rfl, ?_⟩
      unfold pmk at hk
      split at hk
      · split at hk <;> simp at hk
        omega
      · split at hk
        · simp at hk; omega
        · split at hk
          · simp at hk; omega
          · split at hk <;> simp at hk
            omega
  unfold ppt
  cases hp : prs (if Lib.indexByte l 47 = -1 then l else l.take (Lib.indexByte l 47).toNat) with
  | none => exact .inl ⟨5, rfl, by decide⟩
  | some a =>
    obtain ⟨a0, a1, a2, a3, a4, a5, rfl⟩ := six a (prs_len _ _ hp)
    simp only
    by_cases hi : Lib.indexByte l 47 = -1
    · rw [if_pos hi]
      exact .inr ⟨_, _, _, _, _, _, _, _, _, _, _, _, rfl, andL_idem _ _ _ _ _ _ _ _ _ _ _ _⟩
    · rw [if_neg hi]
      rcases hpm (l.drop ((Lib.indexByte l 47).toNat + 1)) with ⟨e, he, h0⟩ | ⟨m0, m1, m2, m3, m4, m5, he⟩
      · exact .inl ⟨e, by rw [he], h0⟩
      · exact .inr ⟨_, _, _, _, _, _, _, _, _, _, _, _, by rw [he]; rfl, andL_idem _ _ _ _ _ _ _ _ _ _ _ _⟩
theorem of_num (a b c d e f : UInt8) : ofL (numL [a, b, c, d, e, f]) = [a, b, c, d, e, f] ∧ numL [a, b, c, d, e, f] < 281474976710656 := by
  have ha := a.toNat_lt
  have hb := b.toNat_lt
  have hc := c.toNat_lt
  have hd := d.toNat_lt
  have he := e.toNat_lt
  have hf := f.toNat_lt
  have e6 := num6 a b c d e f
  have hlt := num_lt a b c d e f
  refine ⟨?_, hlt⟩
  rw [e6]
  unfold ofL
  simp only [List.cons.injEq, and_true, ← UInt8.toNat_inj, UInt8.toNat_ofNat', Nat.reducePow]
  refine ⟨?_, ?_, ?_, ?_, ?_, ?_⟩ <;> omega
theorem ptx_size (a0 a1 a2 a3 a4 a5 m0 m1 m2 m3 m4 m5 : UInt8) : (⟨(ptx [a0, a1, a2, a3, a4, a5] [m0, m1, m2, m3, m4, m5]).toArray⟩ : ByteArray).size ≤ 1000 := by
  have h := mtx_len m0 m1 m2 m3 m4 m5
  show (ptx _ _).toArray.size ≤ 1000
  rw [List.size_toArray]
  unfold ptx
  rw [List.length_append, show (textL (andL [a0, a1, a2, a3, a4, a5] [m0, m1, m2, m3, m4, m5])).length = 17 from rfl]
  split
  · simp
  · simp only [List.length_cons]; omega
/-- The world under a new name, with what is known of it. -/
theorem wp_name {P : Program} {c : Code} {Q : Exit → Act → World → Prop} {a : Act} {W0 : World} (R : World → Prop) (h0 : R W0) (h : ∀ W, R W → Code.wp P c Q a W) : Code.wp P c Q a W0 := h W0 h0
end Go.Proofs.YtifoepglhlpoiaaDoor
