/- A pad's calls as the acts of a region that draws its order. -/
import Derived.Test.YthjfeanmgaidcaaMg2
import Derived.Test.YthjfeanmgaidcaaMg13
namespace Go.Proofs.Ythjfeanmgaidcaa
open Go.RowKit Go.Sort
set_option linter.unusedVariables false

/-- The pad at g holds what is laid behind so many acts; the made blocks lie apart. -/
def padI (B g n0 : Nat) (v0 : Value) (ls : Nat → List UInt8) (D : Nat → Prop) (s : List Value) (u : World) : Prop :=
  ∃ v, Padd u B g v (ls s.length) ∧ (∀ k, D k → k < u.heap.size ∧ ¬ foot g v k) ∧ Newer n0 v0 v ∧ n0 ≤ u.heap.size ∧ B ≤ n0
theorem padI_keeps (B g n0 : Nat) (v0 : Value) (ls : Nat → List UInt8) : Keeps (padI B g n0 v0 ls) where
  quiet := fun D s u u' ⟨v, h1, h2, h3, h4, h5⟩ hk => ⟨v, h1.kept hk (fun _ _ hf => hf), fun k hk' => ⟨Nat.lt_of_lt_of_le (h2 k hk').1 hk.size, (h2 k hk').2⟩, h3, Nat.le_trans h4 hk.size, h5⟩
  make := fun D s u o ⟨v, h1, h2, h3, h4, h5⟩ => ⟨v, h1.kept ((Kept.refl Nil u).alloc o) (fun _ _ hf => hf), fun k hk => by
    rcases hk with hk | rfl
    · exact ⟨by have := (h2 k hk).1; simp; omega, (h2 k hk).2⟩
    · exact ⟨by simp, fun hf => absurd (h1.foot_lt _ hf) (Nat.lt_irrefl _)⟩, h3, by simp; omega, h5⟩
theorem padI_start {B g : Nat} {v : Value} {l : List UInt8} {w : World} (ls : Nat → List UInt8) (h : Padd w B g v l) (hl : ls 0 = l) (hB : B ≤ w.heap.size) : padI B g w.heap.size v ls (fun _ => False) [] w :=
  ⟨v, by show Padd w B g v (ls 0); rw [hl]; exact h, fun _ hf => hf.elim, Newer.refl _ _, Nat.le_refl _, hB⟩

theorem padI_byte {B g : Nat} {v0 : Value} {ls : Nat → List UInt8} {D : Nat → Prop} {s : List Value} {w u : World} {gA n : Nat} {t : TypeId} {cs : Array Value} (xs : List Nat) (hu : Kept (foot g v0) w u) (hI : padI B g w.heap.size v0 ls D s u) (hD : D gA) (hb : Blo u gA t cs) (hcs : cs = (xs.map fun x : Nat => Value.int .u8 (x : Int)).toArray) (hn : xs.length = n)
    (hls : ls (s.length + 1) = ls s.length ++ beAll 1 xs) (hbd : (ls s.length).length + xs.length * 1 ≤ 1099511627776) (hx : ∀ x ∈ xs, x < 256 ^ 1) :
    Calls Try.prog 24 #[.pointer (some ⟨g, 0, none⟩), .slice (some ⟨gA, 0, none⟩) n n] u fun e w' =>
      ∃ r, e = .returned r ∧ r = .pointer (some ⟨g, 0, none⟩) ∧ Kept (foot g v0) w w' ∧ padI B g w.heap.size v0 ls D (s ++ [r]) w' ∧ u.heap.size ≤ w'.heap.size ∧ ∀ k, D k → k < u.heap.size → w'.heap[k]? = u.heap[k]? := by
  obtain ⟨v, h1, h2, h3, h4, h5⟩ := hI
  subst hn hcs
  have hs : Nums .u8 u (some ⟨gA, 0, none⟩) xs.length xs.length xs := by
    refine ⟨rfl, Nat.le_refl _, by omega, fun _ => ⟨gA, 0, rfl, fun i hi => ?_⟩⟩
    rw [hb.cell]
    simp [hi]
  refine (PByte_yes B g v (ls s.length) _ _ _ xs u h1 hs (by omega) ?_ hbd hx).mono ?_
  · rintro i ⟨_, ad, e, rfl⟩ hf
    cases e
    exact (h2 gA hD).2 hf
  · rintro e w' ⟨v', rfl, hp, hk, hnw⟩
    refine ⟨_, rfl, rfl, hu.trans hk (fun i hi hf => foot_newer h3 i hi hf), ⟨v', by rw [List.length_append, List.length_singleton, hls]; exact hp, fun k hk' => ⟨Nat.lt_of_lt_of_le (h2 k hk').1 hk.size, fun hf => ?_⟩, h3.trans hnw h4, Nat.le_trans h4 hk.size, h5⟩, hk.size, fun k hk' hlt => hk.block k hlt (h2 k hk').2⟩
    rcases hf with rfl | hf
    · exact (h2 k hk').2 (.inl rfl)
    · rcases hnw k hf with h | h
      · exact (h2 k hk').2 (.inr h)
      · have := (h2 k hk').1; omega
theorem padI_two {B g : Nat} {v0 : Value} {ls : Nat → List UInt8} {D : Nat → Prop} {s : List Value} {w u : World} {gA n : Nat} {t : TypeId} {cs : Array Value} (xs : List Nat) (hu : Kept (foot g v0) w u) (hI : padI B g w.heap.size v0 ls D s u) (hD : D gA) (hb : Blo u gA t cs) (hcs : cs = (xs.map fun x : Nat => Value.int .u16 (x : Int)).toArray) (hn : xs.length = n)
    (hls : ls (s.length + 1) = ls s.length ++ beAll 2 xs) (hbd : (ls s.length).length + xs.length * 2 ≤ 1099511627776) (hx : ∀ x ∈ xs, x < 256 ^ 2) :
    Calls Try.prog 26 #[.pointer (some ⟨g, 0, none⟩), .slice (some ⟨gA, 0, none⟩) n n] u fun e w' =>
      ∃ r, e = .returned r ∧ r = .pointer (some ⟨g, 0, none⟩) ∧ Kept (foot g v0) w w' ∧ padI B g w.heap.size v0 ls D (s ++ [r]) w' ∧ u.heap.size ≤ w'.heap.size ∧ ∀ k, D k → k < u.heap.size → w'.heap[k]? = u.heap[k]? := by
  obtain ⟨v, h1, h2, h3, h4, h5⟩ := hI
  subst hn hcs
  have hs : Nums .u16 u (some ⟨gA, 0, none⟩) xs.length xs.length xs := by
    refine ⟨rfl, Nat.le_refl _, by omega, fun _ => ⟨gA, 0, rfl, fun i hi => ?_⟩⟩
    rw [hb.cell]
    simp [hi]
  refine (PTwo_yes B g v (ls s.length) _ _ _ xs u h1 hs (by omega) ?_ hbd hx).mono ?_
  · rintro i ⟨_, ad, e, rfl⟩ hf
    cases e
    exact (h2 gA hD).2 hf
  · rintro e w' ⟨v', rfl, hp, hk, hnw⟩
    refine ⟨_, rfl, rfl, hu.trans hk (fun i hi hf => foot_newer h3 i hi hf), ⟨v', by rw [List.length_append, List.length_singleton, hls]; exact hp, fun k hk' => ⟨Nat.lt_of_lt_of_le (h2 k hk').1 hk.size, fun hf => ?_⟩, h3.trans hnw h4, Nat.le_trans h4 hk.size, h5⟩, hk.size, fun k hk' hlt => hk.block k hlt (h2 k hk').2⟩
    rcases hf with rfl | hf
    · exact (h2 k hk').2 (.inl rfl)
    · rcases hnw k hf with h | h
      · exact (h2 k hk').2 (.inr h)
      · have := (h2 k hk').1; omega
theorem padI_four {B g : Nat} {v0 : Value} {ls : Nat → List UInt8} {D : Nat → Prop} {s : List Value} {w u : World} {gA n : Nat} {t : TypeId} {cs : Array Value} (xs : List Nat) (hu : Kept (foot g v0) w u) (hI : padI B g w.heap.size v0 ls D s u) (hD : D gA) (hb : Blo u gA t cs) (hcs : cs = (xs.map fun x : Nat => Value.int .u32 (x : Int)).toArray) (hn : xs.length = n)
    (hls : ls (s.length + 1) = ls s.length ++ beAll 4 xs) (hbd : (ls s.length).length + xs.length * 4 ≤ 1099511627776) (hx : ∀ x ∈ xs, x < 256 ^ 4) :
    Calls Try.prog 25 #[.pointer (some ⟨g, 0, none⟩), .slice (some ⟨gA, 0, none⟩) n n] u fun e w' =>
      ∃ r, e = .returned r ∧ r = .pointer (some ⟨g, 0, none⟩) ∧ Kept (foot g v0) w w' ∧ padI B g w.heap.size v0 ls D (s ++ [r]) w' ∧ u.heap.size ≤ w'.heap.size ∧ ∀ k, D k → k < u.heap.size → w'.heap[k]? = u.heap[k]? := by
  obtain ⟨v, h1, h2, h3, h4, h5⟩ := hI
  subst hn hcs
  have hs : Nums .u32 u (some ⟨gA, 0, none⟩) xs.length xs.length xs := by
    refine ⟨rfl, Nat.le_refl _, by omega, fun _ => ⟨gA, 0, rfl, fun i hi => ?_⟩⟩
    rw [hb.cell]
    simp [hi]
  refine (PFour_yes B g v (ls s.length) _ _ _ xs u h1 hs (by omega) ?_ hbd hx).mono ?_
  · rintro i ⟨_, ad, e, rfl⟩ hf
    cases e
    exact (h2 gA hD).2 hf
  · rintro e w' ⟨v', rfl, hp, hk, hnw⟩
    refine ⟨_, rfl, rfl, hu.trans hk (fun i hi hf => foot_newer h3 i hi hf), ⟨v', by rw [List.length_append, List.length_singleton, hls]; exact hp, fun k hk' => ⟨Nat.lt_of_lt_of_le (h2 k hk').1 hk.size, fun hf => ?_⟩, h3.trans hnw h4, Nat.le_trans h4 hk.size, h5⟩, hk.size, fun k hk' hlt => hk.block k hlt (h2 k hk').2⟩
    rcases hf with rfl | hf
    · exact (h2 k hk').2 (.inl rfl)
    · rcases hnw k hf with h | h
      · exact (h2 k hk').2 (.inr h)
      · have := (h2 k hk').1; omega
end Go.Proofs.Ythjfeanmgaidcaa
