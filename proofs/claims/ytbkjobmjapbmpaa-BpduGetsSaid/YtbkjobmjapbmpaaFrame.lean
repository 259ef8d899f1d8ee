/- From what is read of an argument to plain data: bytes, numbers, slices of whatever elements. Nothing of the program is named here. -/
import Derived.Test.YtbkjobmjapbmpaaMem
import Derived.ProofKit
import Derived.OpenShut
import Derived.ShutString
import Derived.ChangeOld
import Derived.Deep.Slices
namespace Go.Proofs.Ytbkjobmjapbmpaa
open Go.RowKit Go.ChangeShapes Go.WideShapes

theorem pick {α : Type} (n : Nat) (P : Nat → α → Prop) (h : ∀ i, i < n → ∃ a, P i a) : ∃ as : List α, as.length = n ∧ ∀ i (hi : i < as.length), P i as[i] := by
  induction n with
  | zero => exact ⟨[], rfl, fun i hi => absurd hi (by simp)⟩
  | succ n ih =>
    obtain ⟨as, hl, hp⟩ := ih fun i hi => h i (by omega)
    obtain ⟨a, ha⟩ := h n (by omega)
    refine ⟨as ++ [a], by simp [hl], fun i hi => ?_⟩
    simp at hi
    by_cases hlt : i < as.length
    · rw [List.getElem_append_left hlt]; exact hp i hlt
    · have : i = as.length := by omega
      subst this
      rw [List.getElem_append_right (by omega)]
      simpa [hl] using ha

section
variable {H : Type} {enc : TypeId × Value → H} {P : Program} {w : World} {base : Nat} {spare : Nat → Bool} {held : Bool} {fuel : Nat} {t e : TypeId} {x : DataW H × List MemPlace}

theorem rd_rows (sz : Nat) (hsz : 0 < sz) (ht : P.underlying t = some (.slice e)) (hc : P.cellsOf e = sz) {v : Value} (h : DataW.trod enc P w base spare held fuel t [v] = some x) :
    ∃ A n c, v = .slice A n c ∧ n ≤ c ∧ c ≤ 9223372036854775807 ∧ (0 < n → ∃ b o, A = some ⟨b, o, none⟩ ∧
      ∀ i, i < n → ∃ cs y fuel', cs.length = sz ∧ (∀ j (hj : j < cs.length), w.cell? ⟨b, o + i * sz + j, none⟩ = some cs[j]) ∧ DataW.trod enc P w base spare held fuel' e cs = some y) := by
  subst hc
  rcases Go.Deep.open_slice ht h with ⟨hcs, _⟩ | ⟨a, len, cap, m, n, D, Pl, hcs, hb, hl, hm, hmm, _, hel⟩
  · simp at hcs
    subst hcs
    exact ⟨none, 0, 0, rfl, Nat.le_refl _, by omega, fun h => absurd h (by omega)⟩
  · simp at hcs
    subst hcs
    have hml : len ≤ m := by rw [hmm]; split <;> omega
    refine ⟨some a, len, cap, rfl, hl, by simpa [maxLen] using hm, fun h0 => ?_⟩
    have each : ∀ i, i < len → ∃ cs y, cs.length = P.cellsOf e ∧ (∀ j (hj : j < cs.length), w.cell? ((a.add (i * P.cellsOf e)).add j) = some cs[j]) ∧ DataW.trod enc P w base spare held n e cs = some y := by
      intro i hi
      obtain ⟨cs, hcs, htr⟩ := hel i (by omega)
      have hs := World.cells?_some hcs
      refine ⟨cs, _, hs.2.1, fun j hj => ?_, htr⟩
      have := hs.2.2 j (by rw [← hs.2.1]; exact hj)
      rw [this]
      exact List.getElem?_eq_getElem hj
    obtain ⟨cs0, y0, hl0, hc0, _⟩ := each 0 h0
    have hspot : a.spot = none := by
      have := World.cell?_spot (hc0 0 (by omega))
      simpa [Addr.add] using this
    have ha : a = ⟨a.block, a.off, none⟩ := by cases a; simp at hspot; simp [hspot]
    refine ⟨a.block, a.off, by rw [← ha], fun i hi => ?_⟩
    obtain ⟨cs, y, h1, h2, h3⟩ := each i hi
    refine ⟨cs, y, n, h1, fun j hj => ?_, h3⟩
    have := h2 j hj
    rw [ha] at this
    unfold Addr.add at this
    by_cases hi0 : i * P.cellsOf e = 0 <;> by_cases hj0 : j = 0 <;> simp [hi0, hj0] at this <;> simpa [hi0, hj0] using this

theorem rd_bytes (ht : P.underlying t = some (.slice e)) (he : P.underlying e = some (.int .u8)) (hc : P.cellsOf e = 1) {v : Value} (h : DataW.trod enc P w base spare held fuel t [v] = some x) :
    ∃ A n c l, v = .slice A n c ∧ Byt w A n c l := by
  obtain ⟨A, n, c, rfl, h1, h2, h3⟩ := rd_rows 1 (by omega) ht hc h
  rcases Nat.eq_zero_or_pos n with h0 | h0
  · subst h0
    exact ⟨A, 0, c, [], rfl, rfl, h1, h2, fun h => absurd h (by omega)⟩
  · obtain ⟨b, o, rfl, hel⟩ := h3 h0
    have : ∀ i, i < n → ∃ u : UInt8, w.cell? ⟨b, o + i, none⟩ = some (.int .u8 (u.toNat : Int)) := by
      intro i hi
      obtain ⟨cs, y, fl, hl, hcell, htr⟩ := hel i hi
      obtain ⟨z, hz, _, hw⟩ := DataW.trod_int he htr
      subst hz
      have := hcell 0 (by simp)
      simp at this
      refine ⟨UInt8.ofNat z.toNat, ?_⟩
      rw [this]
      have : ((UInt8.ofNat z.toNat).toNat : Int) = z := by
        rw [UInt8.toNat_ofNat']
        have := bounds_u8 hw
        omega
      rw [this]
    obtain ⟨l, hl, hp⟩ := pick n _ this
    exact ⟨some ⟨b, o, none⟩, n, c, l, rfl, hl, h1, h2, fun _ => ⟨b, o, rfl, hp⟩⟩

theorem rd_field {fs : Array Field} {cs : List Value} (ht : P.underlying t = some (.struct fs)) (h : DataW.trod enc P w base spare held fuel t cs = some x) (i : Nat) (f : Field) (hf : fs[i]? = some f) (cs' : List Value)
    (hc : (cs.drop f.offset).take (P.cellsOf f.type) = cs') : ∃ n y, DataW.trod enc P w base spare held n f.type cs' = some y := by
  obtain ⟨xs, n, _, _, _, hl, hall⟩ := DataW.trod_struct ht h
  have := hall i f hf
  rw [hc] at this
  have hi : i < xs.length := by
    rw [hl]
    exact (Array.getElem?_eq_some_iff.1 hf).1
  rw [List.getElem?_eq_getElem hi] at this
  exact ⟨n, _, this⟩
theorem rd_nat {k : IntKind} (m : Nat) (ht : P.underlying t = some (.int k)) (hk : ∀ n, (Lit.int k n).wf = true → 0 ≤ n ∧ n ≤ (m : Int)) {c : Value} (h : DataW.trod enc P w base spare held fuel t [c] = some x) : ∃ n : Nat, c = .int k (n : Int) ∧ n ≤ m := by
  obtain ⟨z, hz, _, hw⟩ := DataW.trod_int ht h
  have hb := hk z hw
  obtain ⟨n, rfl⟩ := Int.eq_ofNat_of_zero_le hb.1
  simp at hz
  exact ⟨n, hz, by omega⟩
end
theorem wfu8 (n : Int) (h : (Lit.int .u8 n).wf = true) : 0 ≤ n ∧ n ≤ ((255 : Nat) : Int) := by simp [Lit.wf, IntKind.min, IntKind.max, IntKind.signed, IntKind.bits] at h; omega
theorem wfu16 (n : Int) (h : (Lit.int .u16 n).wf = true) : 0 ≤ n ∧ n ≤ ((65535 : Nat) : Int) := by simp [Lit.wf, IntKind.min, IntKind.max, IntKind.signed, IntKind.bits] at h; omega
theorem wfu32 (n : Int) (h : (Lit.int .u32 n).wf = true) : 0 ≤ n ∧ n ≤ ((4294967295 : Nat) : Int) := by simp [Lit.wf, IntKind.min, IntKind.max, IntKind.signed, IntKind.bits] at h; omega
end Go.Proofs.Ytbkjobmjapbmpaa
