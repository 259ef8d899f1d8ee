/- A region in free order that makes two blocks and stores into each. One step an operation. -/
import Derived.Test.YtiehmpiaddjhiaaDoorMg28
namespace Go.Proofs.YtiehmpiaddjhiaaDoor
open Go.RowKit Go.Sort
set_option linter.unusedVariables false

/-- What such a region keeps up: sa, sb: the slots of the new blocks. -/
structure dbI (w0 : World) (D : List Nat) (sa sb : Nat) (T : TypeId) (len : Nat) (a0 a : Act) (u : World) : Prop where
  size : a.tmps.size = a0.tmps.size
  defs : a.defers = a0.defers
  fr : ∀ d, d ∉ D → a.eval (.tmp d) = a0.eval (.tmp d)
  kept : Kept Nil w0 u
  al : ∀ s, s = sa ∨ s = sb → ∀ g f', a.eval (.tmp s) = .pointer (some ⟨g, f', none⟩) → w0.heap.size ≤ g ∧ g < u.heap.size ∧ ∃ cs : List Value, cs.length = len ∧ Blo u g T cs.toArray
  ne : ∀ g f' g' f'', a.eval (.tmp sa) = .pointer (some ⟨g, f', none⟩) → a.eval (.tmp sb) = .pointer (some ⟨g', f'', none⟩) → g ≠ g'
section
variable {w0 : World} {D : List Nat} {sa sb : Nat} {T : TypeId} {len : Nat} {a0 a : Act} {u u' : World}
theorem dbI.start (h1 : a0.eval (.tmp sa) = undef) (h2 : a0.eval (.tmp sb) = undef) (hk : Kept Nil w0 u) : dbI w0 D sa sb T len a0 a0 u where
  size := rfl
  defs := rfl
  fr := fun _ _ => rfl
  kept := hk
  al := fun s hs g f' e => by
    rcases hs with rfl | rfl
    · rw [h1] at e; cases e
    · rw [h2] at e; cases e
  ne := fun g f' g' f'' e _ => by rw [h1] at e; cases e
theorem dbI.put (h : dbI w0 D sa sb T len a0 a u) (d : Nat) (v : Value) (hd : d ∈ D) (ha : d ≠ sa) (hb : d ≠ sb) : dbI w0 D sa sb T len a0 (a.put (some d) v) u := by
  refine ⟨(put_size _ _ _).trans h.size, h.defs, fun k hk => ?_, h.kept, fun s hs g f' e => ?_, fun g f' g' f'' e e' => ?_⟩
  · have hne : d ≠ k := fun e => hk (e ▸ hd)
    rw [eval_put _ _ _ _ hne]
    exact h.fr k hk
  · have hne : d ≠ s := by rcases hs with rfl | rfl <;> assumption
    rw [eval_put _ _ _ _ hne] at e
    exact h.al s hs g f' e
  · rw [eval_put _ _ _ _ ha] at e
    rw [eval_put _ _ _ _ hb] at e'
    exact h.ne g f' g' f'' e e'
/-- A new block. -/
theorem dbI.alloc (h : dbI w0 D sa sb T len a0 a u) (hab : sa ≠ sb) (s : Nat) (hs : s = sa ∨ s = sb) (hD : s ∈ D) (hsz : s < a.tmps.size) (cs : List Value) (hl : cs.length = len) : dbI w0 D sa sb T len a0 (a.put (some s) (pAt u.heap.size 0)) (u.alloc (.cells cs.toArray T)) := by
  have k := (Kept.refl Nil u).alloc (.cells cs.toArray T)
  have elder : ∀ s', s' = sa ∨ s' = sb → ∀ g f', a.eval (.tmp s') = .pointer (some ⟨g, f', none⟩) → g < u.heap.size := fun s' hs' g f' e => (h.al s' hs' g f' e).2.1
  refine ⟨(put_size _ _ _).trans h.size, h.defs, fun d hd => ?_, h.kept.then k, fun s' hs' g f' e => ?_, fun g f' g' f'' e e' => ?_⟩
  · have hne : _ ≠ d := fun e => hd (e ▸ hD)
    rw [eval_put _ _ _ _ hne]
    exact h.fr d hd
  · by_cases hss : s = s'
    · subst hss
      rw [eval_same _ _ _ hsz] at e
      unfold pAt at e
      cases e
      exact ⟨h.kept.size, by simp, cs, hl, Blo.new _ _ _⟩
    · rw [eval_put _ _ _ _ hss] at e
      obtain ⟨h1, h2, cs', h3, h4⟩ := h.al s' hs' g f' e
      exact ⟨h1, Nat.lt_of_lt_of_le h2 k.size, cs', h3, h4.kept k (fun hf => hf)⟩
  · rcases hs with rfl | rfl
    · rw [eval_same _ _ _ hsz] at e
      rw [eval_put _ _ _ _ hab] at e'
      unfold pAt at e
      cases e
      have := elder _ (.inr rfl) _ _ e'
      omega
    · rw [eval_same _ _ _ hsz] at e'
      rw [eval_put _ _ _ _ (Ne.symm hab)] at e
      unfold pAt at e'
      cases e'
      have := elder _ (.inl rfl) _ _ e
      omega
/-- A store into one of them. -/
theorem dbI.store (h : dbI w0 D sa sb T len a0 a u) (s : Nat) (hs : s = sa ∨ s = sb) {g : Nat} (k : Kept (One g) u u') (hz : u'.heap.size = u.heap.size) (e : a.eval (.tmp s) = pAt g 0) (cs : List Value) (hl : cs.length = len) (hb : Blo u' g T cs.toArray) : dbI w0 D sa sb T len a0 a u' := by
  obtain ⟨hg1, hg2, _⟩ := h.al s hs g 0 e
  refine ⟨h.size, h.defs, h.fr, h.kept.fresh k (fun i hi => by cases hi; exact hg1), fun s' hs' g' f' e' => ?_, h.ne⟩
  obtain ⟨h1, h2, cs', h3, h4⟩ := h.al s' hs' g' f' e'
  by_cases hgg : g = g'
  · subst hgg
    exact ⟨hg1, by rw [hz]; exact hg2, cs, hl, hb⟩
  · exact ⟨h1, by rw [hz]; exact h2, cs', h3, h4.kept k (fun hf => hgg hf.symm)⟩
/-- What the six operations leave. -/
def dbR (la lb sa sb : Nat) (T : TypeId) (v : Value) (cs : List Value) (i : Nat) (a : Act) (u : World) : Prop := match i with
  | 0 => a.eval (.tmp la) = v
  | 1 => a.eval (.tmp lb) = v
  | 2 => ∃ g, a.eval (.tmp sa) = pAt g 0
  | 3 => ∃ g, a.eval (.tmp sb) = pAt g 0
  | 4 => ∃ g, a.eval (.tmp sa) = pAt g 0 ∧ Blo u g T cs.toArray
  | 5 => ∃ g, a.eval (.tmp sb) = pAt g 0 ∧ Blo u g T cs.toArray
  | _ => True
structure dbW (la lb sa sb : Nat) (T : TypeId) (v : Value) (cs : List Value) (i : Nat) (a : Act) (u : World) : Prop where
  out : dbR la lb sa sb T v cs i a u
theorem dbW.kept {la lb sa sb : Nat} {v : Value} {cs : List Value} {i : Nat} {F : Nat → Prop} (h : dbW la lb sa sb T v cs i a u) (k : Kept F u u') (ha : i = 4 → ∀ g, a.eval (.tmp sa) = pAt g 0 → ¬ F g) (hb : i = 5 → ∀ g, a.eval (.tmp sb) = pAt g 0 → ¬ F g) : dbW la lb sa sb T v cs i a u' := by
  obtain ⟨h⟩ := h
  refine ⟨?_⟩
  unfold dbR at h ⊢
  split at h <;> first | exact h | (obtain ⟨g, h1, h2⟩ := h; exact ⟨g, h1, h2.kept k (ha rfl g h1)⟩) | (obtain ⟨g, h1, h2⟩ := h; exact ⟨g, h1, h2.kept k (hb rfl g h1)⟩)
end
end Go.Proofs.YtiehmpiaddjhiaaDoor
