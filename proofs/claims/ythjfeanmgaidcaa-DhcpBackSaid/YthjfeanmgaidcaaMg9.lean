/- Texts that belong together, one behind the other: RegP, RegJ. Conditions: those of each. -/
import Derived.Test.YthjfeanmgaidcaaMg2
import Derived.Test.YthjfeanmgaidcaaMg8
import Derived.Test.YthjfeanmgaidcaaMg3
/- A pad's calls as the acts of a region that draws its order. -/
namespace Go.Proofs.Ythjfeanmgaidcaa
open Go.RowKit Go.Sort
set_option linter.unusedVariables false

/-- The pad at g holds what is laid behind so many acts; the made blocks lie apart. -/
def padI (B g n0 : Nat) (v0 : Value) (ls : Nat → List UInt8) (D : Nat → Prop) (s : List Value) (u : World) : Prop :=
  ∃ v, Padd u B g v (ls s.length) ∧ (∀ k, D k → k < u.heap.size ∧ ¬ foot g v k) ∧ Newer n0 v0 v ∧ n0 ≤ u.heap.size ∧ B ≤ n0
theorem padI_keeps (B g n0 : Nat) (v0 : Value) (ls : Nat → List UInt8) : Keeps (padI B g n0 v0 ls) where
  quiet := fun D s u u' ⟨v, h1, h2, h3, h4, h5⟩ hk => ⟨v, h1.kept hk (fun _ _ hf => hf), fun k hk' => ⟨Nat.lt_of_lt_of_le (h2 k hk').1 hk.size, (h2 k hk').2⟩, h3, Nat.le_trans h4 hk.size, h5⟩
  make := fun D s u o ⟨v, h1, h2, h3, h4, h5⟩ => ⟨v, h1.kept ((Kept.refl Nil u).alloc o) (fun _ _ hf => hf), fun k hk => by
    rcases hk with hk | rfl
    · exact ⟨by have := (h2 k hk).1; simp; omega, (h2 k hk).2⟩
    · exact ⟨by simp, fun hf => absurd (h1.foot_lt _ hf) (Nat.lt_irrefl _)⟩, h3, by simp; omega, h5⟩
theorem padI_start {B g : Nat} {v : Value} {l : List UInt8} {w : World} (ls : Nat → List UInt8) (h : Padd w B g v l) (hl : ls 0 = l) (hB : B ≤ w.heap.size) : padI B g w.heap.size v ls (fun _ => False) [] w :=
  ⟨v, by show Padd w B g v (ls 0); rw [hl]; exact h, fun _ hf => hf.elim, Newer.refl _ _, Nat.le_refl _, hB⟩

theorem padI_byte {B g : Nat} {v0 : Value} {ls : Nat → List UInt8} {D : Nat → Prop} {s : List Value} {w u : World} {gA n : Nat} {t : TypeId} {cs : Array Value} (xs : List Nat) (hu : Kept (foot g v0) w u) (hI : padI B g w.heap.size v0 ls D s u) (hD : D gA) (hb : Blo u gA t cs) (hcs : cs = (xs.map fun x : Nat => Value.int .u8 (x : Int)).toArray) (hn : xs.length = n)
    (hls : ls (s.length + 1) = ls s.length ++ beAll 1 xs) (hbd : (ls s.length).length + xs.length * 1 ≤ 1099511627776) (hx : ∀ x ∈ xs, x < 256 ^ 1) :
    Calls Try.prog 24 #[.pointer (some ⟨g, 0, none⟩), .slice (some ⟨gA, 0, none⟩) n n] u fun e w' =>
      ∃ r, e = .returned r ∧ r = .pointer (some ⟨g, 0, none⟩) ∧ Kept (foot g v0) w w' ∧ padI B g w.heap.size v0 ls D (s ++ [r]) w' ∧ u.heap.size ≤ w'.heap.size ∧ ∀ k, D k → k < u.heap.size → w'.heap[k]? = u.heap[k]? := by
  obtain ⟨v, h1, h2, h3, h4, h5⟩ := hI
  subst hn hcs
  have hs : Nums .u8 u (some ⟨gA, 0, none⟩) xs.length xs.length xs := by
    refine ⟨rfl, Nat.le_refl _, by omega, fun _ => ⟨gA, 0, rfl, fun i hi => ?_⟩⟩
    rw [hb.cell]
    simp [hi]
  refine (PByte_yes B g v (ls s.length) _ _ _ xs u h1 hs (by omega) ?_ hbd hx).mono ?_
  · rintro i ⟨_, ad, e, rfl⟩ hf
    cases e
    exact (h2 gA hD).2 hf
  · rintro e w' ⟨v', rfl, hp, hk, hnw⟩
    refine ⟨_, rfl, rfl, hu.trans hk (fun i hi hf => foot_newer h3 i hi hf), ⟨v', by rw [List.length_append, List.length_singleton, hls]; exact hp, fun k hk' => ⟨Nat.lt_of_lt_of_le (h2 k hk').1 hk.size, fun hf => ?_⟩, h3.trans hnw h4, Nat.le_trans h4 hk.size, h5⟩, hk.size, fun k hk' hlt => hk.block k hlt (h2 k hk').2⟩
    rcases hf with rfl | hf
    · exact (h2 k hk').2 (.inl rfl)
    · rcases hnw k hf with h | h
      · exact (h2 k hk').2 (.inr h)
      · have := (h2 k hk').1; omega
theorem padI_two {B g : Nat} {v0 : Value} {ls : Nat → List UInt8} {D : Nat → Prop} {s : List Value} {w u : World} {gA n : Nat} {t : TypeId} {cs : Array Value} (xs : List Nat) (hu : Kept (foot g v0) w u) (hI : padI B g w.heap.size v0 ls D s u) (hD : D gA) (hb : Blo u gA t cs) (hcs : cs = (xs.map fun x : Nat => Value.int .u16 (x : Int)).toArray) (hn : xs.length = n)
    (hls : ls (s.length + 1) = ls s.length ++ beAll 2 xs) (hbd : (ls s.length).length + xs.length * 2 ≤ 1099511627776) (hx : ∀ x ∈ xs, x < 256 ^ 2) :
    Calls Try.prog 26 #[.pointer (some ⟨g, 0, none⟩), .slice (some ⟨gA, 0, none⟩) n n] u fun e w' =>
      ∃ r, e = .returned r ∧ r = .pointer (some ⟨g, 0, none⟩) ∧ Kept (foot g v0) w w' ∧ padI B g w.heap.size v0 ls D (s ++ [r]) w' ∧ u.heap.size ≤ w'.heap.size ∧ ∀ k, D k → k < u.heap.size → w'.heap[k]? = u.heap[k]? := by
  obtain ⟨v, h1, h2, h3, h4, h5⟩ := hI
  subst hn hcs
  have hs : Nums .u16 u (some ⟨gA, 0, none⟩) xs.length xs.length xs := by
    refine ⟨rfl, Nat.le_refl _, by omega, fun _ => ⟨gA, 0, rfl, fun i hi => ?_⟩⟩
    rw [hb.cell]
    simp [hi]
  refine (PTwo_yes B g v (ls s.length) _ _ _ xs u h1 hs (by omega) ?_ hbd hx).mono ?_
  · rintro i ⟨_, ad, e, rfl⟩ hf
    cases e
    exact (h2 gA hD).2 hf
  · rintro e w' ⟨v', rfl, hp, hk, hnw⟩
    refine ⟨_, rfl, rfl, hu.trans hk (fun i hi hf => foot_newer h3 i hi hf), ⟨v', by rw [List.length_append, List.length_singleton, hls]; exact hp, fun k hk' => ⟨Nat.lt_of_lt_of_le (h2 k hk').1 hk.size, fun hf => ?_⟩, h3.trans hnw h4, Nat.le_trans h4 hk.size, h5⟩, hk.size, fun k hk' hlt => hk.block k hlt (h2 k hk').2⟩
    rcases hf with rfl | hf
    · exact (h2 k hk').2 (.inl rfl)
    · rcases hnw k hf with h | h
      · exact (h2 k hk').2 (.inr h)
      · have := (h2 k hk').1; omega
theorem padI_four {B g : Nat} {v0 : Value} {ls : Nat → List UInt8} {D : Nat → Prop} {s : List Value} {w u : World} {gA n : Nat} {t : TypeId} {cs : Array Value} (xs : List Nat) (hu : Kept (foot g v0) w u) (hI : padI B g w.heap.size v0 ls D s u) (hD : D gA) (hb : Blo u gA t cs) (hcs : cs = (xs.map fun x : Nat => Value.int .u32 (x : Int)).toArray) (hn : xs.length = n)
    (hls : ls (s.length + 1) = ls s.length ++ beAll 4 xs) (hbd : (ls s.length).length + xs.length * 4 ≤ 1099511627776) (hx : ∀ x ∈ xs, x < 256 ^ 4) :
    Calls Try.prog 25 #[.pointer (some ⟨g, 0, none⟩), .slice (some ⟨gA, 0, none⟩) n n] u fun e w' =>
      ∃ r, e = .returned r ∧ r = .pointer (some ⟨g, 0, none⟩) ∧ Kept (foot g v0) w w' ∧ padI B g w.heap.size v0 ls D (s ++ [r]) w' ∧ u.heap.size ≤ w'.heap.size ∧ ∀ k, D k → k < u.heap.size → w'.heap[k]? = u.heap[k]? := by
  obtain ⟨v, h1, h2, h3, h4, h5⟩ := hI
  subst hn hcs
  have hs : Nums .u32 u (some ⟨gA, 0, none⟩) xs.length xs.length xs := by
    refine ⟨rfl, Nat.le_refl _, by omega, fun _ => ⟨gA, 0, rfl, fun i hi => ?_⟩⟩
    rw [hb.cell]
    simp [hi]
  refine (PFour_yes B g v (ls s.length) _ _ _ xs u h1 hs (by omega) ?_ hbd hx).mono ?_
  · rintro i ⟨_, ad, e, rfl⟩ hf
    cases e
    exact (h2 gA hD).2 hf
  · rintro e w' ⟨v', rfl, hp, hk, hnw⟩
    refine ⟨_, rfl, rfl, hu.trans hk (fun i hi hf => foot_newer h3 i hi hf), ⟨v', by rw [List.length_append, List.length_singleton, hls]; exact hp, fun k hk' => ⟨Nat.lt_of_lt_of_le (h2 k hk').1 hk.size, fun hf => ?_⟩, h3.trans hnw h4, Nat.le_trans h4 hk.size, h5⟩, hk.size, fun k hk' hlt => hk.block k hlt (h2 k hk').2⟩
    rcases hf with rfl | hf
    · exact (h2 k hk').2 (.inl rfl)
    · rcases hnw k hf with h | h
      · exact (h2 k hk').2 (.inr h)
      · have := (h2 k hk').1; omega
end Go.Proofs.Ythjfeanmgaidcaa
/- A region that begins a pad of its own (Lay) and lays what follows: its calls as acts. -/
namespace Go.Proofs.Ythjfeanmgaidcaa
open Go.RowKit Go.Sort
set_option linter.unusedVariables false

/-- Nothing has been laid yet, or the pad that was begun holds what is laid behind so many acts; all lies in new blocks. -/
def padJ (n0 : Nat) (ls : Nat → List UInt8) (D : Nat → Prop) (s : List Value) (u : World) : Prop :=
  n0 ≤ u.heap.size ∧ (∀ k, D k → k < u.heap.size) ∧ (s = [] ∨ ∃ g v, (∀ x ∈ s, x = .pointer (some ⟨g, 0, none⟩)) ∧ Padd u n0 g v (ls s.length) ∧ ∀ k, D k → ¬ foot g v k)
theorem padJ_keeps (n0 : Nat) (ls : Nat → List UInt8) : Keeps (padJ n0 ls) where
  quiet := fun D s u u' ⟨h1, h2, h3⟩ hk => ⟨Nat.le_trans h1 hk.size, fun k h => Nat.lt_of_lt_of_le (h2 k h) hk.size, by
    rcases h3 with h3 | ⟨g, v, h4, h5, h6⟩
    · exact .inl h3
    · exact .inr ⟨g, v, h4, h5.kept hk (fun _ _ hf => hf), h6⟩⟩
  make := fun D s u o ⟨h1, h2, h3⟩ => ⟨by simp; omega, fun k h => by
    rcases h with h | rfl
    · have := h2 k h; simp; omega
    · simp, by
    rcases h3 with h3 | ⟨g, v, h4, h5, h6⟩
    · exact .inl h3
    · refine .inr ⟨g, v, h4, h5.kept ((Kept.refl Nil u).alloc o) (fun _ _ hf => hf), fun k hk => ?_⟩
      rcases hk with hk | rfl
      · exact h6 k hk
      · exact fun hf => absurd (h5.foot_lt _ hf) (Nat.lt_irrefl _)⟩
theorem padJ_nil (w : World) (ls : Nat → List UInt8) : padJ w.heap.size ls (fun _ => False) [] w := ⟨Nat.le_refl _, fun _ h => h.elim, .inl rfl⟩
/-- What the answers of the acts are. -/
def padP (i : Nat) (v : Value) : Prop := ∃ g, v = .pointer (some ⟨g, 0, none⟩)
theorem padP_0 (i : Nat) : padP i (.pointer (some ⟨0, 0, none⟩)) := ⟨0, rfl⟩
theorem padJ_lay {ls : Nat → List UInt8} {D : Nat → Prop} {w u : World} (hu : Kept Nil w u) (hI : padJ w.heap.size ls D [] u) (h1 : ls 1 = []) (i : Nat) :
    Calls Try.prog 23 #[] u fun e w' => ∃ r, e = .returned r ∧ padP i r ∧ Kept Nil w w' ∧ padJ w.heap.size ls D ([] ++ [r]) w' ∧ u.heap.size ≤ w'.heap.size ∧ ∀ k, D k → k < u.heap.size → w'.heap[k]? = u.heap[k]? := by
  refine (Lay_yes u).mono ?_
  rintro e w' ⟨rfl, hp, hk⟩
  refine ⟨_, rfl, ⟨_, rfl⟩, hu.then hk, ⟨Nat.le_trans hI.1 hk.size, fun k h => Nat.lt_of_lt_of_le (hI.2.1 k h) hk.size, .inr ⟨_, .slice none 0 0, fun x hx => by simpa using hx, ?_, fun k hk' hf => ?_⟩⟩, hk.size, fun k _ hlt => hk.block k hlt (fun hf => hf)⟩
  · show Padd w' w.heap.size u.heap.size (.slice none 0 0) (ls 1)
    rw [h1]
    exact hp.mono hI.1
  · have := hp.foot_ge _ hf
    have := hI.2.1 k hk'
    omega
/-- What a call that lays leaves behind. -/
theorem padJ_step {ls : Nat → List UInt8} {D : Nat → Prop} {s : List Value} {w u w' : World} {g : Nat} {v v' : Value} {l : List UInt8} (hu : Kept Nil w u) (hI : padJ w.heap.size ls D s u) (hs : ∀ x ∈ s, x = .pointer (some ⟨g, 0, none⟩)) (h6 : ∀ k, D k → ¬ foot g v k) (hp0 : Padd u w.heap.size g v (ls s.length)) (hp : Padd w' w.heap.size g v' (ls s.length ++ l)) (hk : Kept (foot g v) u w') (hn : Newer u.heap.size v v') (hls : ls (s.length + 1) = ls s.length ++ l) (i : Nat) :
    padP i (.pointer (some ⟨g, 0, none⟩)) ∧ Kept Nil w w' ∧ padJ w.heap.size ls D (s ++ [.pointer (some ⟨g, 0, none⟩)]) w' ∧ u.heap.size ≤ w'.heap.size ∧ ∀ k, D k → k < u.heap.size → w'.heap[k]? = u.heap[k]? := by
  refine ⟨⟨g, rfl⟩, hu.fresh hk hp0.foot_ge, ⟨Nat.le_trans hI.1 hk.size, fun k h => Nat.lt_of_lt_of_le (hI.2.1 k h) hk.size, .inr ⟨g, v', fun x hx => ?_, ?_, fun k hk' hf => ?_⟩⟩, hk.size, fun k hk' hlt => hk.block k hlt (h6 k hk')⟩
  · rcases List.mem_append.1 hx with h | h
    · exact hs x h
    · simpa using h
  · rw [List.length_append, List.length_singleton, hls]
    exact hp
  · rcases hf with rfl | hf
    · exact h6 _ hk' (.inl rfl)
    · rcases hn k hf with h | h
      · exact h6 _ hk' (.inr h)
      · have := hI.2.1 k hk'; omega
theorem padJ_at {n0 : Nat} {ls : Nat → List UInt8} {D : Nat → Prop} {s : List Value} {u : World} {g : Nat} (hI : padJ n0 ls D s u) (hg : .pointer (some ⟨g, 0, none⟩) ∈ s) : ∃ v, (∀ x ∈ s, x = .pointer (some ⟨g, 0, none⟩)) ∧ Padd u n0 g v (ls s.length) ∧ ∀ k, D k → ¬ foot g v k := by
  rcases hI.2.2 with rfl | ⟨g', v, h4, h5, h6⟩
  · cases hg
  · have := h4 _ hg
    injection this with this
    injection this with this
    injection this with e _ _
    subst e
    exact ⟨v, h4, h5, h6⟩
theorem padJ_byte {ls : Nat → List UInt8} {D : Nat → Prop} {s : List Value} {w u : World} {g gA n : Nat} {t : TypeId} {cs : Array Value} (xs : List Nat) (hu : Kept Nil w u) (hI : padJ w.heap.size ls D s u) (hg : .pointer (some ⟨g, 0, none⟩) ∈ s) (hD : D gA) (hb : Blo u gA t cs) (hcs : cs = (xs.map fun x : Nat => Value.int .u8 (x : Int)).toArray) (hn : xs.length = n)
    (hls : ls (s.length + 1) = ls s.length ++ beAll 1 xs) (hbd : (ls s.length).length + xs.length * 1 ≤ 1099511627776) (hx : ∀ x ∈ xs, x < 256 ^ 1) (i : Nat) :
    Calls Try.prog 24 #[.pointer (some ⟨g, 0, none⟩), .slice (some ⟨gA, 0, none⟩) n n] u fun e w' =>
      ∃ r, e = .returned r ∧ padP i r ∧ Kept Nil w w' ∧ padJ w.heap.size ls D (s ++ [r]) w' ∧ u.heap.size ≤ w'.heap.size ∧ ∀ k, D k → k < u.heap.size → w'.heap[k]? = u.heap[k]? := by
  obtain ⟨v, h4, h5, h6⟩ := padJ_at hI hg
  subst hn hcs
  have hs : Nums .u8 u (some ⟨gA, 0, none⟩) xs.length xs.length xs := by
    refine ⟨rfl, Nat.le_refl _, by omega, fun _ => ⟨gA, 0, rfl, fun i hi => ?_⟩⟩
    rw [hb.cell]
    simp [hi]
  refine (PByte_yes w.heap.size g v (ls s.length) _ _ _ xs u h5 hs hI.1 ?_ hbd hx).mono ?_
  · rintro i ⟨_, ad, e, rfl⟩ hf
    cases e
    exact h6 gA hD hf
  · rintro e w' ⟨v', rfl, hp, hk, hnw⟩
    exact ⟨_, rfl, padJ_step hu hI h4 h6 h5 hp hk hnw hls i⟩
theorem padJ_two {ls : Nat → List UInt8} {D : Nat → Prop} {s : List Value} {w u : World} {g gA n : Nat} {t : TypeId} {cs : Array Value} (xs : List Nat) (hu : Kept Nil w u) (hI : padJ w.heap.size ls D s u) (hg : .pointer (some ⟨g, 0, none⟩) ∈ s) (hD : D gA) (hb : Blo u gA t cs) (hcs : cs = (xs.map fun x : Nat => Value.int .u16 (x : Int)).toArray) (hn : xs.length = n)
    (hls : ls (s.length + 1) = ls s.length ++ beAll 2 xs) (hbd : (ls s.length).length + xs.length * 2 ≤ 1099511627776) (hx : ∀ x ∈ xs, x < 256 ^ 2) (i : Nat) :
    Calls Try.prog 26 #[.pointer (some ⟨g, 0, none⟩), .slice (some ⟨gA, 0, none⟩) n n] u fun e w' =>
      ∃ r, e = .returned r ∧ padP i r ∧ Kept Nil w w' ∧ padJ w.heap.size ls D (s ++ [r]) w' ∧ u.heap.size ≤ w'.heap.size ∧ ∀ k, D k → k < u.heap.size → w'.heap[k]? = u.heap[k]? := by
  obtain ⟨v, h4, h5, h6⟩ := padJ_at hI hg
  subst hn hcs
  have hs : Nums .u16 u (some ⟨gA, 0, none⟩) xs.length xs.length xs := by
    refine ⟨rfl, Nat.le_refl _, by omega, fun _ => ⟨gA, 0, rfl, fun i hi => ?_⟩⟩
    rw [hb.cell]
    simp [hi]
  refine (PTwo_yes w.heap.size g v (ls s.length) _ _ _ xs u h5 hs hI.1 ?_ hbd hx).mono ?_
  · rintro i ⟨_, ad, e, rfl⟩ hf
    cases e
    exact h6 gA hD hf
  · rintro e w' ⟨v', rfl, hp, hk, hnw⟩
    exact ⟨_, rfl, padJ_step hu hI h4 h6 h5 hp hk hnw hls i⟩
theorem padJ_four {ls : Nat → List UInt8} {D : Nat → Prop} {s : List Value} {w u : World} {g gA n : Nat} {t : TypeId} {cs : Array Value} (xs : List Nat) (hu : Kept Nil w u) (hI : padJ w.heap.size ls D s u) (hg : .pointer (some ⟨g, 0, none⟩) ∈ s) (hD : D gA) (hb : Blo u gA t cs) (hcs : cs = (xs.map fun x : Nat => Value.int .u32 (x : Int)).toArray) (hn : xs.length = n)
    (hls : ls (s.length + 1) = ls s.length ++ beAll 4 xs) (hbd : (ls s.length).length + xs.length * 4 ≤ 1099511627776) (hx : ∀ x ∈ xs, x < 256 ^ 4) (i : Nat) :
    Calls Try.prog 25 #[.pointer (some ⟨g, 0, none⟩), .slice (some ⟨gA, 0, none⟩) n n] u fun e w' =>
      ∃ r, e = .returned r ∧ padP i r ∧ Kept Nil w w' ∧ padJ w.heap.size ls D (s ++ [r]) w' ∧ u.heap.size ≤ w'.heap.size ∧ ∀ k, D k → k < u.heap.size → w'.heap[k]? = u.heap[k]? := by
  obtain ⟨v, h4, h5, h6⟩ := padJ_at hI hg
  subst hn hcs
  have hs : Nums .u32 u (some ⟨gA, 0, none⟩) xs.length xs.length xs := by
    refine ⟨rfl, Nat.le_refl _, by omega, fun _ => ⟨gA, 0, rfl, fun i hi => ?_⟩⟩
    rw [hb.cell]
    simp [hi]
  refine (PFour_yes w.heap.size g v (ls s.length) _ _ _ xs u h5 hs hI.1 ?_ hbd hx).mono ?_
  · rintro i ⟨_, ad, e, rfl⟩ hf
    cases e
    exact h6 gA hD hf
  · rintro e w' ⟨v', rfl, hp, hk, hnw⟩
    exact ⟨_, rfl, padJ_step hu hI h4 h6 h5 hp hk hnw hls i⟩
/-- Bytes that were there ahead of the region. -/
theorem padJ_src {ls : Nat → List UInt8} {D : Nat → Prop} {s : List Value} {w u : World} {g : Nat} {A : Option Addr} {n c : Nat} (l : List UInt8) (hu : Kept Nil w u) (hI : padJ w.heap.size ls D s u) (hg : .pointer (some ⟨g, 0, none⟩) ∈ s) (hy : Byt w A n c l)
    (hls : ls (s.length + 1) = ls s.length ++ l) (hbd : (ls s.length).length + n ≤ 1099511627776) (i : Nat) :
    Calls Try.prog 24 #[.pointer (some ⟨g, 0, none⟩), .slice A n c] u fun e w' =>
      ∃ r, e = .returned r ∧ padP i r ∧ Kept Nil w w' ∧ padJ w.heap.size ls D (s ++ [r]) w' ∧ u.heap.size ≤ w'.heap.size ∧ ∀ k, D k → k < u.heap.size → w'.heap[k]? = u.heap[k]? := by
  obtain ⟨v, h4, h5, h6⟩ := padJ_at hI hg
  have hs := (hy.kept hu (fun _ _ hf => hf)).nums
  refine (PByte_yes w.heap.size g v (ls s.length) _ _ _ (l.map UInt8.toNat) u h5 hs hI.1 ?_ (by simpa using hbd) (fun x hx => by obtain ⟨y, _, rfl⟩ := List.mem_map.1 hx; exact y.toNat_lt)).mono ?_
  · intro i hi hf
    have := hy.lt i hi
    have := h5.foot_ge i hf
    omega
  · rintro e w' ⟨v', rfl, hp, hk, hnw⟩
    rw [beAll_bytes] at hp
    exact ⟨_, rfl, padJ_step hu hI h4 h6 h5 hp hk hnw hls i⟩
/-- One station's address. -/
theorem padJ_mac {ls : Nat → List UInt8} {D : Nat → Prop} {s : List Value} {w u : World} {g gA : Nat} {t : TypeId} {cs : Array Value} (m : List UInt8) (hm : m.length = 6) (hu : Kept Nil w u) (hI : padJ w.heap.size ls D s u) (hg : .pointer (some ⟨g, 0, none⟩) ∈ s) (hD : D gA) (hb : Blo u gA t cs) (hcs : cs = (bys m).toArray)
    (hls : ls (s.length + 1) = ls s.length ++ m) (hbd : (ls s.length).length + 1 * 6 ≤ 1099511627776) (i : Nat) :
    Calls Try.prog 27 #[.pointer (some ⟨g, 0, none⟩), .slice (some ⟨gA, 0, none⟩) 1 1] u fun e w' =>
      ∃ r, e = .returned r ∧ padP i r ∧ Kept Nil w w' ∧ padJ w.heap.size ls D (s ++ [r]) w' ∧ u.heap.size ≤ w'.heap.size ∧ ∀ k, D k → k < u.heap.size → w'.heap[k]? = u.heap[k]? := by
  obtain ⟨v, h4, h5, h6⟩ := padJ_at hI hg
  subst hcs
  have hs : Macs u (some ⟨gA, 0, none⟩) 1 1 [m] := by
    refine ⟨rfl, Nat.le_refl _, by omega, by simpa using hm, fun _ => ⟨gA, 0, rfl, fun i hi j hj => ?_⟩⟩
    have : i = 0 := by simp at hi; omega
    subst this
    rw [hb.cell]
    simp at hj
    simp [bys, hj]
  refine (PMac_yes w.heap.size g v (ls s.length) _ 1 1 [m] u h5 hs hI.1 ?_ hbd).mono ?_
  · rintro i ⟨_, ad, e, rfl⟩ hf
    cases e
    exact h6 gA hD hf
  · rintro e w' ⟨v', rfl, hp, hk, hnw⟩
    rw [show [m].flatten = m by simp] at hp
    exact ⟨_, rfl, padJ_step hu hI h4 h6 h5 hp hk hnw hls i⟩
end Go.Proofs.Ythjfeanmgaidcaa
