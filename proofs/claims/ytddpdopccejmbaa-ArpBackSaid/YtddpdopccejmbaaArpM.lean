/- Package arp: there and back, in plain words. -/
import Derived.Test.YtddpdopccejmbaaArpD
namespace Go.Proofs.Ytddpdopccejmbaa
open Go.RowKit Go.Sort
set_option linter.unusedVariables false

theorem nm2 (x : Nat) (h : x < 65536) : numM (beAll 2 [x]) = x := by simp [numM, beAll, beM, List.range_succ]; omega
theorem nm4 (x : Nat) (h : x < 4294967296) : numM (beAll 4 [x]) = x := by simp [numM, beAll, beM, List.range_succ]; omega
theorem bn2 (a b : UInt8) : beAll 2 [numM [a, b]] = [a, b] := by
  have ha := a.toNat_lt
  have hb := b.toNat_lt
  have e : numM [a, b] = a.toNat * 256 + b.toNat := by simp [numM]
  rw [beAll_two, e]
  have e1 : UInt8.ofNat ((a.toNat * 256 + b.toNat) / 256) = a := UInt8.toNat_inj.1 (by rw [UInt8.toNat_ofNat']; omega)
  have e2 : UInt8.ofNat (a.toNat * 256 + b.toNat) = b := UInt8.toNat_inj.1 (by rw [UInt8.toNat_ofNat']; omega)
  rw [e1, e2]
theorem bn4 (a b c d : UInt8) : beAll 4 [numM [a, b, c, d]] = [a, b, c, d] := by
  have ha := a.toNat_lt
  have hb := b.toNat_lt
  have hc := c.toNat_lt
  have hd := d.toNat_lt
  have e : numM [a, b, c, d] = a.toNat * 16777216 + b.toNat * 65536 + c.toNat * 256 + d.toNat := by simp only [numM, List.foldl_cons, List.foldl_nil]; omega
  rw [e]
  have e0 : ∀ x : Nat, beAll 4 [x] = [UInt8.ofNat (x / 16777216), UInt8.ofNat (x / 65536), UInt8.ofNat (x / 256), UInt8.ofNat x] := fun x => by simp [beAll, beM, List.range_succ]
  rw [e0]
  have e1 : UInt8.ofNat ((a.toNat * 16777216 + b.toNat * 65536 + c.toNat * 256 + d.toNat) / 16777216) = a := UInt8.toNat_inj.1 (by rw [UInt8.toNat_ofNat']; omega)
  have e2 : UInt8.ofNat ((a.toNat * 16777216 + b.toNat * 65536 + c.toNat * 256 + d.toNat) / 65536) = b := UInt8.toNat_inj.1 (by rw [UInt8.toNat_ofNat']; omega)
  have e3 : UInt8.ofNat ((a.toNat * 16777216 + b.toNat * 65536 + c.toNat * 256 + d.toNat) / 256) = c := UInt8.toNat_inj.1 (by rw [UInt8.toNat_ofNat']; omega)
  have e4 : UInt8.ofNat (a.toNat * 16777216 + b.toNat * 65536 + c.toNat * 256 + d.toNat) = d := UInt8.toNat_inj.1 (by rw [UInt8.toNat_ofNat']; omega)
  rw [e1, e2, e3, e4]
theorem two_ofL (l : List UInt8) (h : l.length = 2) : ∃ a b, l = [a, b] := by
  match l, h with
  | [a, b], _ => exact ⟨a, b, rfl⟩
theorem four_ofL (l : List UInt8) (h : l.length = 4) : ∃ a b c d, l = [a, b, c, d] := by
  match l, h with
  | [a, b, c, d], _ => exact ⟨a, b, c, d, rfl⟩
/-- Laid, and read again. -/
theorem get_form (q : Pk) (hq : q.ok) (hm : mayP q = true) (l : List UInt8) : getP (formP q ++ l) = (q, 0) := by
  have ho := nm2 q.o hq.o
  have hx := nm4 q.x hq.x
  have hy := nm4 q.y hq.y
  obtain ⟨f0, f1, f2, f3, f4, f5, hf⟩ := six_of q.f hq.f
  obtain ⟨t0, t1, t2, t3, t4, t5, ht⟩ := six_of q.t hq.t
  obtain ⟨u0, u1, hu⟩ := two_ofL (beAll 2 [q.o]) (by simp [beAll_len])
  obtain ⟨x0, x1, x2, x3, hx4⟩ := four_ofL (beAll 4 [q.x]) (by simp [beAll_len])
  obtain ⟨y0, y1, y2, y3, hy4⟩ := four_ofL (beAll 4 [q.y]) (by simp [beAll_len])
  rw [hu] at ho
  rw [hx4] at hx
  rw [hy4] at hy
  have e : formP q ++ l = 0 :: 1 :: 8 :: 0 :: 6 :: 4 :: u0 :: u1 :: f0 :: f1 :: f2 :: f3 :: f4 :: f5 :: x0 :: x1 :: x2 :: x3 :: t0 :: t1 :: t2 :: t3 :: t4 :: t5 :: y0 :: y1 :: y2 :: y3 :: l := by
    unfold formP
    rw [hu, hf, hx4, ht, hy4]
    rfl
  rw [e]
  have hqq : (⟨numM [u0, u1], [f0, f1, f2, f3, f4, f5], numM [x0, x1, x2, x3], [t0, t1, t2, t3, t4, t5], numM [y0, y1, y2, y3]⟩ : Pk) = q := by
    rw [ho, hx, hy, ← hf, ← ht]
  unfold getP
  rw [if_neg (by simp)]
  show (if headL = headL ∧ mayP ⟨numM [u0, u1], [f0, f1, f2, f3, f4, f5], numM [x0, x1, x2, x3], [t0, t1, t2, t3, t4, t5], numM [y0, y1, y2, y3]⟩ = true then ((⟨numM [u0, u1], [f0, f1, f2, f3, f4, f5], numM [x0, x1, x2, x3], [t0, t1, t2, t3, t4, t5], numM [y0, y1, y2, y3]⟩ : Pk), (0 : Int)) else (Pk.zero, 5)) = (q, 0)
  rw [hqq, if_pos ⟨rfl, hm⟩]
theorem get_short (l : List UInt8) (h : l.length < 28) : getP l = (Pk.zero, 4) := by unfold getP; rw [if_pos h]
/-- Read, and laid again. -/
theorem form_get (b : List UInt8) (h : (getP b).2 = 0) : 28 ≤ b.length ∧ mayP (getP b).1 = true ∧ formP (getP b).1 = b.take 28 := by
  unfold getP at h ⊢
  split at h
  · cases h
  · rename_i h28
    have hl : 28 ≤ b.length := by omega
    rw [if_neg h28]
    split at h
    · rename_i hc
      rw [if_pos hc]
      refine ⟨hl, hc.2, ?_⟩
      obtain ⟨u0, u1, hu⟩ := two_ofL ((b.drop 6).take 2) (by simp; omega)
      obtain ⟨x0, x1, x2, x3, hx4⟩ := four_ofL ((b.drop 14).take 4) (by simp; omega)
      obtain ⟨y0, y1, y2, y3, hy4⟩ := four_ofL ((b.drop 24).take 4) (by simp; omega)
      unfold formP
      simp only
      rw [hu, hx4, hy4, bn2, bn4, bn4, ← hu, ← hx4, ← hy4, ← hc.1]
      rw [← List.take_add, show 6 + 2 = 8 from rfl, ← List.take_add, show 8 + 6 = 14 from rfl, ← List.take_add, show 14 + 4 = 18 from rfl, ← List.take_add, show 18 + 6 = 24 from rfl, ← List.take_add]
    · cases h
/-- Of what is none, nothing is told. -/
theorem get_none (b : List UInt8) (h : (getP b).2 ≠ 0) : (getP b).1 = Pk.zero ∧ (getP b).2 = if b.length < 28 then 4 else 5 := by
  unfold getP at h ⊢
  split
  · rename_i h1
    exact ⟨rfl, rfl⟩
  · rename_i h1
    rw [if_neg h1] at h
    split
    · rename_i h2
      rw [if_pos h2] at h
      exact absurd rfl h
    · exact ⟨rfl, rfl⟩
end Go.Proofs.Ytddpdopccejmbaa
