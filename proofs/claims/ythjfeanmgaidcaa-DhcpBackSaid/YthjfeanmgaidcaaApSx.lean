/- A region in free order: two appends onto a row that was begun ahead of it (one of a literal slice), a call that reads the row, a new block that the call's answer is stored into. One step an operation. -/
import Derived.Test.YthjfeanmgaidcaaMg31
namespace Go.Proofs.Ythjfeanmgaidcaa
open Go.RowKit Go.Sort
set_option linter.unusedVariables false

def ptrTo (a : Act) (sl g : Nat) : Prop := ∃ f', a.eval (.tmp sl) = .pointer (some ⟨g, f', none⟩)
def litAt (a : Act) (sq q : Nat) : Prop := ∃ n c, a.eval (.tmp sq) = .slice (some ⟨q, 0, none⟩) n c
/-- What is said of a row's answer. -/
structure axQ (w0 : World) (F : Nat → Prop) (sl sq : Nat) (a : Act) (v : Value) : Prop where
  own : ∀ i, v.ownBlock = some i → F i ∨ w0.heap.size ≤ i
  al : ∀ g, ptrTo a sl g → v.ownBlock ≠ some g
  li : ∀ q, litAt a sq q → v.ownBlock ≠ some q
structure axI (w0 : World) (B : Nat) (v0 : Value) (D : List Nat) (s1 s2 sg sl sq : Nat) (T : TypeId) (len : Nat) (l0 l1 l2 lq : List UInt8) (E : (Nat → Prop) → Value → World → Prop) (a0 a : Act) (u : World) : Prop where
  size : a.tmps.size = a0.tmps.size
  defs : a.defers = a0.defers
  fr : ∀ d, d ∉ D → a.eval (.tmp d) = a0.eval (.tmp d)
  kept : Kept (fun i => v0.ownBlock = some i) w0 u
  al : ∀ g, ptrTo a sl g → w0.heap.size ≤ g ∧ g < u.heap.size ∧ ∃ cs : List Value, cs.length = len ∧ Blo u g T cs.toArray
  li : ∀ q, litAt a sq q → w0.heap.size ≤ q ∧ q < u.heap.size ∧ Blo u q 5 (bys lq).toArray ∧ ∀ g, ptrTo a sl g → g ≠ q
  r0 : a.eval (.tmp s1) = undef → u.ownsRow B 5 1 v0 l0.length (bys l0)
  r1 : a.eval (.tmp s1) ≠ undef → a.eval (.tmp s2) = undef → u.ownsRow B 5 1 (a.eval (.tmp s1)) l1.length (bys l1) ∧ axQ w0 (fun i => v0.ownBlock = some i) sl sq a (a.eval (.tmp s1))
  r2 : a.eval (.tmp s2) ≠ undef → u.ownsRow B 5 1 (a.eval (.tmp s2)) l2.length (bys l2) ∧ axQ w0 (fun i => v0.ownBlock = some i) sl sq a (a.eval (.tmp s2))
  o1 : a.eval (.tmp s2) ≠ undef → a.eval (.tmp s1) ≠ undef
  o2 : a.eval (.tmp sg) ≠ undef → a.eval (.tmp s2) ≠ undef
  got : a.eval (.tmp sg) ≠ undef → E (fun i => ∀ g, ptrTo a sl g → i ≠ g) (a.eval (.tmp sg)) u
section
variable {w0 : World} {B : Nat} {v0 : Value} {D : List Nat} {s1 s2 sg sl sq : Nat} {T : TypeId} {len : Nat} {l0 l1 l2 lq : List UInt8} {E : (Nat → Prop) → Value → World → Prop} {a0 a : Act} {u u' : World}
theorem axI.start (h1 : a0.eval (.tmp s1) = undef) (h2 : a0.eval (.tmp s2) = undef) (h3 : a0.eval (.tmp sg) = undef) (h4 : a0.eval (.tmp sl) = undef) (h5 : a0.eval (.tmp sq) = undef) (hk : Kept Nil w0 u) (hr : w0.ownsRow B 5 1 v0 l0.length (bys l0)) : axI w0 B v0 D s1 s2 sg sl sq T len l0 l1 l2 lq E a0 a0 u where
  size := rfl
  defs := rfl
  fr := fun _ _ => rfl
  kept := hk.nil
  al := fun g ⟨f', e⟩ => by rw [h4] at e; cases e
  li := fun q ⟨n, c, e⟩ => by rw [h5] at e; cases e
  r0 := fun _ => own_kept hr hk (fun _ _ hf => hf)
  r1 := fun h _ => absurd h1 h
  r2 := fun h => absurd h2 h
  o1 := fun h => absurd h2 h
  o2 := fun h => absurd h3 h
  got := fun h => absurd h3 h
theorem ptr_put {d g : Nat} {v : Value} (h : d ≠ sl) : ptrTo (a.put (some d) v) sl g ↔ ptrTo a sl g := by unfold ptrTo; rw [eval_put _ _ _ _ h]
theorem lit_put {d q : Nat} {v : Value} (h : d ≠ sq) : litAt (a.put (some d) v) sq q ↔ litAt a sq q := by unfold litAt; rw [eval_put _ _ _ _ h]
theorem axQ.put {F : Nat → Prop} {x : Value} (h : axQ w0 F sl sq a x) {d : Nat} (v : Value) (h1 : d ≠ sl) (h2 : d ≠ sq) : axQ w0 F sl sq (a.put (some d) v) x :=
  ⟨h.own, fun g hg => h.al g ((ptr_put h1).1 hg), fun q hq => h.li q ((lit_put h2).1 hq)⟩
theorem axI.put (h : axI w0 B v0 D s1 s2 sg sl sq T len l0 l1 l2 lq E a0 a u) (d : Nat) (v : Value) (hd : d ∈ D) (h1 : d ≠ s1) (h2 : d ≠ s2) (h3 : d ≠ sg) (h4 : d ≠ sl) (h5 : d ≠ sq) : axI w0 B v0 D s1 s2 sg sl sq T len l0 l1 l2 lq E a0 (a.put (some d) v) u := by
  refine ⟨(put_size _ _ _).trans h.size, h.defs, fun k hk => ?_, h.kept, fun g hg => h.al g ((ptr_put h4).1 hg), fun q hq => ?_, ?_, ?_, ?_, ?_, ?_, ?_⟩
  · have hne : d ≠ k := fun e => hk (e ▸ hd)
    rw [eval_put _ _ _ _ hne]
    exact h.fr k hk
  · obtain ⟨g1, g2, g3, g4⟩ := h.li q ((lit_put h5).1 hq)
    exact ⟨g1, g2, g3, fun g hg => g4 g ((ptr_put h4).1 hg)⟩
  · rw [eval_put _ _ _ _ h1]; exact h.r0
  · rw [eval_put _ _ _ _ h1, eval_put _ _ _ _ h2]
    exact fun x y => ⟨(h.r1 x y).1, (h.r1 x y).2.put v h4 h5⟩
  · rw [eval_put _ _ _ _ h2]
    exact fun x => ⟨(h.r2 x).1, (h.r2 x).2.put v h4 h5⟩
  · rw [eval_put _ _ _ _ h1, eval_put _ _ _ _ h2]; exact h.o1
  · rw [eval_put _ _ _ _ h2, eval_put _ _ _ _ h3]; exact h.o2
  · rw [eval_put _ _ _ _ h3]
    simp only [ptr_put h4]
    exact h.got
theorem axI.next (hE : ∀ D v u u', E D v u → Kept Nil u u' → E D v u') (h : axI w0 B v0 D s1 s2 sg sl sq T len l0 l1 l2 lq E a0 a u) (k : Kept Nil u u') : axI w0 B v0 D s1 s2 sg sl sq T len l0 l1 l2 lq E a0 a u' where
  size := h.size
  defs := h.defs
  fr := h.fr
  kept := h.kept.then k
  al := fun g hg => by
    obtain ⟨h1, h2, cs, h3, h4⟩ := h.al g hg
    exact ⟨h1, Nat.lt_of_lt_of_le h2 k.size, cs, h3, h4.kept k (fun hf => hf)⟩
  li := fun q hq => by
    obtain ⟨h1, h2, h3, h4⟩ := h.li q hq
    exact ⟨h1, Nat.lt_of_lt_of_le h2 k.size, h3.kept k (fun hf => hf), h4⟩
  r0 := fun x => own_kept (h.r0 x) k (fun _ _ hf => hf)
  r1 := fun x y => ⟨own_kept (h.r1 x y).1 k (fun _ _ hf => hf), (h.r1 x y).2⟩
  r2 := fun x => ⟨own_kept (h.r2 x).1 k (fun _ _ hf => hf), (h.r2 x).2⟩
  o1 := h.o1
  o2 := h.o2
  got := fun x => hE _ _ _ _ (h.got x) k
/-- The literal slice. -/
theorem axI.lit (hE : ∀ D v u u', E D v u → Kept Nil u u' → E D v u') (h : axI w0 B v0 D s1 s2 sg sl sq T len l0 l1 l2 lq E a0 a u) (hd : sq ∈ D) (h1 : sq ≠ s1) (h2 : sq ≠ s2) (h3 : sq ≠ sg) (h4 : sq ≠ sl) (hsz : sq < a.tmps.size) (n c : Nat) : axI w0 B v0 D s1 s2 sg sl sq T len l0 l1 l2 lq E a0 (a.put (some sq) (.slice (some ⟨u.heap.size, 0, none⟩) n c)) (u.alloc (.cells (bys lq).toArray 5)) := by
  have k := (Kept.refl Nil u).alloc (.cells (bys lq).toArray 5)
  have hq : ∀ q, litAt (a.put (some sq) (.slice (some ⟨u.heap.size, 0, none⟩) n c)) sq q → q = u.heap.size := fun q ⟨x, y, e⟩ => by
    rw [eval_same _ _ _ hsz] at e
    cases e
    rfl
  have hQ : ∀ {x : Value} {l : List UInt8}, u.ownsRow B 5 1 x l.length (bys l) → axQ w0 (fun i => v0.ownBlock = some i) sl sq a x → axQ w0 (fun i => v0.ownBlock = some i) sl sq (a.put (some sq) (.slice (some ⟨u.heap.size, 0, none⟩) n c)) x := fun ho hx =>
    ⟨hx.own, fun g hg => hx.al g ((ptr_put h4).1 hg), fun q hq' e => by
      have := own_blt ho q e
      have := hq q hq'
      omega⟩
  refine ⟨(put_size _ _ _).trans h.size, h.defs, fun k hk => ?_, h.kept.then k, fun g hg => ?_, fun q hq' => ?_, ?_, ?_, ?_, ?_, ?_, ?_⟩
  · have hne : sq ≠ k := fun e => hk (e ▸ hd)
    rw [eval_put _ _ _ _ hne]
    exact h.fr k hk
  · obtain ⟨g1, g2, cs, g3, g4⟩ := h.al g ((ptr_put h4).1 hg)
    exact ⟨g1, Nat.lt_of_lt_of_le g2 k.size, cs, g3, g4.kept k (fun hf => hf)⟩
  · obtain rfl := hq q hq'
    refine ⟨h.kept.size, by simp, Blo.new _ _ _, fun g hg => ?_⟩
    have := (h.al g ((ptr_put h4).1 hg)).2.1
    omega
  · rw [eval_put _ _ _ _ h1]; exact fun x => own_kept (h.r0 x) k (fun _ _ hf => hf)
  · rw [eval_put _ _ _ _ h1, eval_put _ _ _ _ h2]
    exact fun x y => ⟨own_kept (h.r1 x y).1 k (fun _ _ hf => hf), hQ (h.r1 x y).1 (h.r1 x y).2⟩
  · rw [eval_put _ _ _ _ h2]
    exact fun x => ⟨own_kept (h.r2 x).1 k (fun _ _ hf => hf), hQ (h.r2 x).1 (h.r2 x).2⟩
  · rw [eval_put _ _ _ _ h1, eval_put _ _ _ _ h2]; exact h.o1
  · rw [eval_put _ _ _ _ h2, eval_put _ _ _ _ h3]; exact h.o2
  · rw [eval_put _ _ _ _ h3]
    simp only [ptr_put h4]
    exact fun x => hE _ _ _ _ (h.got x) k
/-- One append: onto v, whose row reads lv; what comes of it. -/
theorem run_ax (h : axI w0 B v0 D s1 s2 sg sl sq T len l0 l1 l2 lq E a0 a u) {v : Value} {lv m l : List UInt8} (hl : l = lv ++ m) (hv : u.ownsRow B 5 1 v lv.length (bys lv)) (hQ : axQ w0 (fun i => v0.ownBlock = some i) sl sq a v)
    {A : Option Addr} {n c : Nat} (hy : Byt u A n c m) (hb : lv.length + n ≤ 140737488355328) (hB : B ≤ w0.heap.size) {ty : TypeId} :
    ∃ v' u', (Builtin.append_ #[31, 31] ty #[v, .slice A n c]).run Try.prog u = .ok v' u' ∧ Kept (fun i => v.ownBlock = some i) u u' ∧ Kept (fun i => v0.ownBlock = some i) w0 u' ∧ u'.ownsRow B 5 1 v' l.length (bys l) ∧ axQ w0 (fun i => v0.ownBlock = some i) sl sq a v' ∧ v' ≠ undef ∧ ∃ A c, v' = .slice A l.length c := by
  obtain ⟨i0, hi, hz0, hz1, hz2⟩ := info_parts Try.infb
  obtain ⟨v', u', hr, hn, hgr, hor⟩ := run_app (P := Try.prog) (ty := ty) Try.underlying31 hi hz0 hz1 hz2 rfl hv hy hb (Nat.le_trans hB h.kept.size)
  have e1 : lv.length + n = l.length := by rw [hl, List.length_append, hy.1]
  rw [e1, ← bys_app, ← hl] at hn
  have hkk : Kept (fun i => v.ownBlock = some i) u u' := (Kept.refl _ u).grown hgr (fun k hk _ => hk)
  obtain ⟨A', c', e', _⟩ := Byt.of_own hn
  refine ⟨v', u', hr, hkk, h.kept.trans hkk (fun i hi hf => ?_), hn, ⟨fun i hi => ?_, fun g hg e => ?_, fun q hq e => ?_⟩, fun e => ?_, A', c', e'⟩
  · rcases hQ.own i hf with h1 | h1
    · exact h1
    · omega
  · rcases hor with h' | h'
    · rw [h'] at hi; exact hQ.own i hi
    · rw [h'] at hi
      injection hi with hi
      exact .inr (by have := h.kept.size; omega)
  · rcases hor with h' | h'
    · rw [h'] at e; exact hQ.al g hg e
    · rw [h'] at e
      injection e with e
      have := (h.al g hg).2.1
      omega
  · rcases hor with h' | h'
    · rw [h'] at e; exact hQ.li q hq e
    · rw [h'] at e
      injection e with e
      have := (h.li q hq).2.1
      omega
  · rw [e'] at e; cases e
theorem axI.app1 (hF : ∀ i, v0.ownBlock = some i → i < w0.heap.size) (h : axI w0 B v0 D s1 s2 sg sl sq T len l0 l1 l2 lq E a0 a u) (hd : s1 ∈ D) (h1 : s1 ≠ s2) (h2 : s1 ≠ sg) (h3 : s1 ≠ sl) (h4 : s1 ≠ sq) (hsz : s1 < a.tmps.size) (hun : a.eval (.tmp s1) = undef)
    {m : List UInt8} (hl : l1 = l0 ++ m) {A : Option Addr} {n c : Nat} (hy : Byt u A n c m) (hb : l0.length + n ≤ 140737488355328) (hB : B ≤ w0.heap.size) {ty : TypeId} :
    ∃ v' u', (Builtin.append_ #[31, 31] ty #[v0, .slice A n c]).run Try.prog u = .ok v' u' ∧ axI w0 B v0 D s1 s2 sg sl sq T len l0 l1 l2 lq E a0 (a.put (some s1) v') u' ∧ (∃ A c, v' = .slice A l1.length c) ∧ Kept (fun i => v0.ownBlock = some i) u u' := by
  have hQ0 : axQ w0 (fun i => v0.ownBlock = some i) sl sq a v0 := ⟨fun i hi => .inl hi, fun g hg e => by have := hF g e; have := (h.al g hg).1; omega, fun q hq e => by have := hF q e; have := (h.li q hq).1; omega⟩
  obtain ⟨v', u', hr, hkk, hk0, hn, hQ, hne, hA⟩ := run_ax h hl (h.r0 hun) hQ0 hy hb hB (ty := ty)
  have hu2 : a.eval (.tmp s2) = undef := Classical.byContradiction fun x => h.o1 x hun
  have hu3 : a.eval (.tmp sg) = undef := Classical.byContradiction fun x => h.o2 x hu2
  refine ⟨v', u', hr, ⟨(put_size _ _ _).trans h.size, h.defs, fun k hk => ?_, hk0, fun g hg => ?_, fun q hq => ?_, fun x => ?_, fun _ _ => ?_, fun x => ?_, fun x => ?_, fun x => ?_, fun x => ?_⟩, hA, hkk⟩
  · have hne : s1 ≠ k := fun e => hk (e ▸ hd)
    rw [eval_put _ _ _ _ hne]
    exact h.fr k hk
  · obtain ⟨g1, g2, cs, g3, g4⟩ := h.al g ((ptr_put h3).1 hg)
    exact ⟨g1, Nat.lt_of_lt_of_le g2 hkk.size, cs, g3, g4.kept hkk (hQ0.al g ((ptr_put h3).1 hg))⟩
  · obtain ⟨g1, g2, g3, g4⟩ := h.li q ((lit_put h4).1 hq)
    exact ⟨g1, Nat.lt_of_lt_of_le g2 hkk.size, g3.kept hkk (hQ0.li q ((lit_put h4).1 hq)), fun g hg => g4 g ((ptr_put h3).1 hg)⟩
  · rw [eval_same _ _ _ hsz] at x; exact absurd x hne
  · rw [eval_same _ _ _ hsz]; exact ⟨hn, hQ.put v' h3 h4⟩
  · rw [eval_put _ _ _ _ h1] at x; exact absurd hu2 x
  · rw [eval_put _ _ _ _ h1] at x; exact absurd hu2 x
  · rw [eval_put _ _ _ _ h2] at x; exact absurd hu3 x
  · rw [eval_put _ _ _ _ h2] at x; exact absurd hu3 x
theorem axI.app2 (h : axI w0 B v0 D s1 s2 sg sl sq T len l0 l1 l2 lq E a0 a u) (hd : s2 ∈ D) (h1 : s2 ≠ s1) (h2 : s2 ≠ sg) (h3 : s2 ≠ sl) (h4 : s2 ≠ sq) (hsz : s2 < a.tmps.size) (hun : a.eval (.tmp s2) = undef) (hpv : a.eval (.tmp s1) ≠ undef)
    {m : List UInt8} (hl : l2 = l1 ++ m) {A : Option Addr} {n c : Nat} (hy : Byt u A n c m) (hb : l1.length + n ≤ 140737488355328) (hB : B ≤ w0.heap.size) {ty : TypeId} :
    ∃ v' u', (Builtin.append_ #[31, 31] ty #[a.eval (.tmp s1), .slice A n c]).run Try.prog u = .ok v' u' ∧ axI w0 B v0 D s1 s2 sg sl sq T len l0 l1 l2 lq E a0 (a.put (some s2) v') u' ∧ (∃ A c, v' = .slice A l2.length c) ∧ Kept (fun i => (a.eval (.tmp s1)).ownBlock = some i) u u' ∧ ∀ g, ptrTo a sl g → (a.eval (.tmp s1)).ownBlock ≠ some g := by
  obtain ⟨hr1, hQ0⟩ := h.r1 hpv hun
  obtain ⟨v', u', hr, hkk, hk0, hn, hQ, hne, hA⟩ := run_ax h hl hr1 hQ0 hy hb hB (ty := ty)
  have hu3 : a.eval (.tmp sg) = undef := Classical.byContradiction fun x => h.o2 x hun
  refine ⟨v', u', hr, ⟨(put_size _ _ _).trans h.size, h.defs, fun k hk => ?_, hk0, fun g hg => ?_, fun q hq => ?_, fun x => ?_, fun _ x => ?_, fun _ => ?_, fun x => ?_, fun x => ?_, fun x => ?_⟩, hA, hkk, fun g hg => hQ0.al g hg⟩
  · have hne : s2 ≠ k := fun e => hk (e ▸ hd)
    rw [eval_put _ _ _ _ hne]
    exact h.fr k hk
  · obtain ⟨g1, g2, cs, g3, g4⟩ := h.al g ((ptr_put h3).1 hg)
    exact ⟨g1, Nat.lt_of_lt_of_le g2 hkk.size, cs, g3, g4.kept hkk (hQ0.al g ((ptr_put h3).1 hg))⟩
  · obtain ⟨g1, g2, g3, g4⟩ := h.li q ((lit_put h4).1 hq)
    exact ⟨g1, Nat.lt_of_lt_of_le g2 hkk.size, g3.kept hkk (hQ0.li q ((lit_put h4).1 hq)), fun g hg => g4 g ((ptr_put h3).1 hg)⟩
  · rw [eval_put _ _ _ _ h1] at x; exact absurd x hpv
  · rw [eval_same _ _ _ hsz] at x; exact absurd x hne
  · rw [eval_same _ _ _ hsz]; exact ⟨hn, hQ.put v' h3 h4⟩
  · rw [eval_put _ _ _ _ h1]; exact hpv
  · rw [eval_put _ _ _ _ h2] at x; exact absurd hu3 x
  · rw [eval_put _ _ _ _ h2] at x; exact absurd hu3 x
/-- The call. -/
theorem axI.call (hE : ∀ D v u u', E D v u → Kept Nil u u' → E D v u') (hM : ∀ (D D' : Nat → Prop) v u, E D v u → (∀ i, D i → D' i) → E D' v u) (h : axI w0 B v0 D s1 s2 sg sl sq T len l0 l1 l2 lq E a0 a u) (hd : sg ∈ D) (h1 : sg ≠ s1) (h2 : sg ≠ s2) (h3 : sg ≠ sl) (h4 : sg ≠ sq) (hsz : sg < a.tmps.size) (hpv : a.eval (.tmp s2) ≠ undef) (k : Kept Nil u u') (v : Value) (hv : E (fun i => u.heap.size ≤ i) v u') : axI w0 B v0 D s1 s2 sg sl sq T len l0 l1 l2 lq E a0 (a.put (some sg) v) u' := by
  have h' := h.next hE k
  refine ⟨(put_size _ _ _).trans h.size, h.defs, fun k hk => ?_, h'.kept, fun g hg => h'.al g ((ptr_put h3).1 hg), fun q hq => ?_, ?_, ?_, ?_, ?_, ?_, ?_⟩
  · have hne : sg ≠ k := fun e => hk (e ▸ hd)
    rw [eval_put _ _ _ _ hne]
    exact h.fr k hk
  · obtain ⟨g1, g2, g3, g4⟩ := h'.li q ((lit_put h4).1 hq)
    exact ⟨g1, g2, g3, fun g hg => g4 g ((ptr_put h3).1 hg)⟩
  · rw [eval_put _ _ _ _ h1]; exact h'.r0
  · rw [eval_put _ _ _ _ h1, eval_put _ _ _ _ h2]
    exact fun x y => ⟨(h'.r1 x y).1, (h'.r1 x y).2.put v h3 h4⟩
  · rw [eval_put _ _ _ _ h2]
    exact fun x => ⟨(h'.r2 x).1, (h'.r2 x).2.put v h3 h4⟩
  · rw [eval_put _ _ _ _ h1, eval_put _ _ _ _ h2]; exact h.o1
  · rw [eval_put _ _ _ _ h2]; exact fun _ => hpv
  · intro _
    rw [eval_same _ _ _ hsz]
    refine hM _ _ _ _ hv (fun i hi g hg => ?_)
    have := (h.al g ((ptr_put h3).1 hg)).2.1
    omega
/-- The new block. -/
theorem axI.alloc (hE : ∀ D v u u', E D v u → Kept Nil u u' → E D v u') (hb : ∀ (D : Nat → Prop) v u, E D v u → E (fun i => D i ∧ i < u.heap.size) v u) (hM : ∀ (D D' : Nat → Prop) v u, E D v u → (∀ i, D i → D' i) → E D' v u) (h : axI w0 B v0 D s1 s2 sg sl sq T len l0 l1 l2 lq E a0 a u) (hd : sl ∈ D) (h1 : sl ≠ s1) (h2 : sl ≠ s2) (h3 : sl ≠ sg) (h4 : sl ≠ sq) (hsz : sl < a.tmps.size) (cs : List Value) (hl : cs.length = len) : axI w0 B v0 D s1 s2 sg sl sq T len l0 l1 l2 lq E a0 (a.put (some sl) (pAt u.heap.size 0)) (u.alloc (.cells cs.toArray T)) := by
  have k := (Kept.refl Nil u).alloc (.cells cs.toArray T)
  have hq : ∀ g, ptrTo (a.put (some sl) (pAt u.heap.size 0)) sl g → g = u.heap.size := fun g ⟨f', e⟩ => by
    rw [eval_same _ _ _ hsz] at e
    unfold pAt at e
    cases e
    rfl
  have hQ : ∀ {x : Value} {l : List UInt8}, u.ownsRow B 5 1 x l.length (bys l) → axQ w0 (fun i => v0.ownBlock = some i) sl sq a x → axQ w0 (fun i => v0.ownBlock = some i) sl sq (a.put (some sl) (pAt u.heap.size 0)) x := fun ho hx =>
    ⟨hx.own, fun g hg e => by
      have := own_blt ho g e
      have := hq g hg
      omega, fun q hq' => hx.li q ((lit_put h4).1 hq')⟩
  refine ⟨(put_size _ _ _).trans h.size, h.defs, fun k hk => ?_, h.kept.then k, fun g hg => ?_, fun q hq' => ?_, ?_, ?_, ?_, ?_, ?_, ?_⟩
  · have hne : sl ≠ k := fun e => hk (e ▸ hd)
    rw [eval_put _ _ _ _ hne]
    exact h.fr k hk
  · obtain rfl := hq g hg
    exact ⟨h.kept.size, by simp, cs, hl, Blo.new _ _ _⟩
  · obtain ⟨g1, g2, g3, g4⟩ := h.li q ((lit_put h4).1 hq')
    refine ⟨g1, Nat.lt_of_lt_of_le g2 k.size, g3.kept k (fun hf => hf), fun g hg => ?_⟩
    have := hq g hg
    omega
  · rw [eval_put _ _ _ _ h1]; exact fun x => own_kept (h.r0 x) k (fun _ _ hf => hf)
  · rw [eval_put _ _ _ _ h1, eval_put _ _ _ _ h2]
    exact fun x y => ⟨own_kept (h.r1 x y).1 k (fun _ _ hf => hf), hQ (h.r1 x y).1 (h.r1 x y).2⟩
  · rw [eval_put _ _ _ _ h2]
    exact fun x => ⟨own_kept (h.r2 x).1 k (fun _ _ hf => hf), hQ (h.r2 x).1 (h.r2 x).2⟩
  · rw [eval_put _ _ _ _ h1, eval_put _ _ _ _ h2]; exact h.o1
  · rw [eval_put _ _ _ _ h2, eval_put _ _ _ _ h3]; exact h.o2
  · rw [eval_put _ _ _ _ h3]
    intro x
    refine hM _ _ _ _ (hE _ _ _ _ (hb _ _ _ (h.got x)) k) (fun i hi g hg => ?_)
    have := hq g hg
    have := hi.2
    omega
/-- The store into it. -/
theorem axI.store (hK : ∀ (D F : Nat → Prop) v u u', E D v u → Kept F u u' → (∀ i, D i → ¬ F i) → E D v u') (hF : ∀ i, v0.ownBlock = some i → i < w0.heap.size) (h : axI w0 B v0 D s1 s2 sg sl sq T len l0 l1 l2 lq E a0 a u) {g : Nat} (k : Kept (One g) u u') (hz : u'.heap.size = u.heap.size) (e : a.eval (.tmp sl) = pAt g 0) (cs : List Value) (hl : cs.length = len) (hb : Blo u' g T cs.toArray) : axI w0 B v0 D s1 s2 sg sl sq T len l0 l1 l2 lq E a0 a u' := by
  have hg : ptrTo a sl g := ⟨0, e⟩
  have hgu : ∀ g', ptrTo a sl g' → g' = g := fun g' ⟨f', e'⟩ => by
    rw [e] at e'
    unfold pAt at e'
    cases e'
    rfl
  obtain ⟨hg1, hg2, _⟩ := h.al g hg
  refine ⟨h.size, h.defs, h.fr, h.kept.fresh k (fun i hi => by cases hi; exact hg1), fun g' hg' => ?_, fun q hq => ?_, fun x => ?_, fun x y => ?_, fun x => ?_, h.o1, h.o2, fun x => ?_⟩
  · obtain rfl := hgu g' hg'
    exact ⟨hg1, by rw [hz]; exact hg2, cs, hl, hb⟩
  · obtain ⟨g1, g2, g3, g4⟩ := h.li q hq
    exact ⟨g1, by rw [hz]; exact g2, g3.kept k (fun hf => g4 g hg hf.symm), g4⟩
  · exact own_kept (h.r0 x) k (fun i hi hf => by have := hF i hi; cases hf; omega)
  · exact ⟨own_kept (h.r1 x y).1 k (fun i hi hf => by cases hf; exact (h.r1 x y).2.al _ hg hi), (h.r1 x y).2⟩
  · exact ⟨own_kept (h.r2 x).1 k (fun i hi hf => by cases hf; exact (h.r2 x).2.al _ hg hi), (h.r2 x).2⟩
  · exact hK _ _ _ _ _ (h.got x) k (fun i hi hf => hi g hg hf)
end
end Go.Proofs.Ythjfeanmgaidcaa
