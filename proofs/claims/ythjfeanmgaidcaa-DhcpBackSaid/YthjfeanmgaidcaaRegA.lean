/- Appends onto a row of the call's own as the acts of a region that draws its order. -/
import Derived.Test.YthjfeanmgaidcaaMg2
import Derived.Test.YthjfeanmgaidcaaMg3
import Derived.Test.YthjfeanmgaidcaaMg5
namespace Go.Proofs.Ythjfeanmgaidcaa
open Go.RowKit Go.Sort
set_option linter.unusedVariables false

/-- An append as an act. -/
theorem tLex_app {P : Program} {ops : Array Oper} {F : Nat → Prop} {W : World} {acts : List Nat} {Z : Nat → List Value → Array Value × TypeId} {vs : Nat → Value} {I : (Nat → Prop) → List Value → World → Prop} {Pv : Nat → Value → Prop} {T : Act → Mad → List Value → Prop} {o : Oper} {rest : List Oper} {k : Nat} {a : Act} {L : Mad} {s : List Value}
    (sl x : Operand) (t : TypeId) (ho : o.op = .call { callee := .builtin .append, args := #[sl, x], argTypes := #[t, t] }) (hg : Region.wanted o (yielded ops a.tmps) = true) (hk : acts.contains k = true) (v0 : Value) (hv : Pv k v0)
    (hc : ∀ D u, Kept F W u → I D s u → (∀ g y, Dep (opVals o a) g → L g = some y → D g ∧ Blo u g y.2 y.1) → ∃ v w', (Builtin.append_ #[t, t] o.type #[a.eval sl, a.eval x]).run P u = .ok v w' ∧ Pv k v ∧ Kept F W w' ∧ I D (s ++ [v]) w' ∧ u.heap.size ≤ w'.heap.size ∧ ∀ k, D k → k < u.heap.size → w'.heap[k]? = u.heap[k]?)
    (h : ∀ v, Pv k v → tLex P ops F W acts Z vs I Pv T rest (k + 1) (a.put o.dst v) L (s ++ [v])) : tLex P ops F W acts Z vs I Pv T (o :: rest) k a L s := by
  have hkd : kdOf ops acts k o a = .act := by
    unfold kdOf
    rw [if_pos hg, if_pos hk]
  show tO P ops F W acts Z vs I Pv k o _ a L s
  unfold tO
  simp only [hkd]
  refine ⟨fun D u hu hI hd => ?_, ⟨v0, hv⟩, h⟩
  obtain ⟨v, w', hr, h1, h2, h3, h4, h5⟩ := hc D u hu hI hd
  unfold execOp
  simp only [ho, resolve, invoke, builtin, Sem.run_bind, Sem.run_pure, Result.andThen_ok, List.map_toArray, List.map_cons, List.map_nil, hr]
  exact ⟨h1, h2, h3, h4, h5⟩
/-- The row as it stands behind so many acts; what else is known of the answers (E). -/
def chI (B n0 : Nat) (v0 : Value) (cv : List Value → Value) (ls : Nat → List UInt8) (E : List Value → World → Prop) (D : Nat → Prop) (s : List Value) (u : World) : Prop :=
  n0 ≤ u.heap.size ∧ (∀ k, D k → k < u.heap.size) ∧ u.ownsRow B 5 1 (cv s) (ls s.length).length (bys (ls s.length)) ∧ (∀ k, D k → (cv s).ownBlock ≠ some k) ∧ (∀ k, (cv s).ownBlock = some k → v0.ownBlock = some k ∨ n0 ≤ k) ∧ E s u
theorem own_blt {w : World} {B e size n : Nat} {v : Value} {xs : List Value} (h : w.ownsRow B e size v n xs) : ∀ i, v.ownBlock = some i → i < w.heap.size := fun i hi => (h.lt i hi).2
theorem chI_keeps (B n0 : Nat) (v0 : Value) (cv : List Value → Value) (ls : Nat → List UInt8) (E : List Value → World → Prop) (hE : ∀ s u u', E s u → Kept Nil u u' → E s u') : Keeps (chI B n0 v0 cv ls E) where
  quiet := fun D s u u' ⟨h1, h2, h3, h4, h5, h6⟩ hk => ⟨Nat.le_trans h1 hk.size, fun k h => Nat.lt_of_lt_of_le (h2 k h) hk.size, own_kept h3 hk (fun _ _ hf => hf), h4, h5, hE s u u' h6 hk⟩
  make := fun D s u o ⟨h1, h2, h3, h4, h5, h6⟩ => ⟨by simp; omega, fun k h => by
    rcases h with h | rfl
    · have := h2 k h; simp; omega
    · simp, own_kept h3 ((Kept.refl Nil u).alloc o) (fun _ _ hf => hf), fun k h e => by
    rcases h with h | rfl
    · exact h4 k h e
    · exact absurd (own_blt h3 _ e) (Nat.lt_irrefl _), h5, hE s u _ h6 ((Kept.refl Nil u).alloc o)⟩
/-- One append more. -/
theorem chI_app {B : Nat} {v0 : Value} {cv : List Value → Value} {ls : Nat → List UInt8} {E : List Value → World → Prop} {D : Nat → Prop} {s : List Value} {w u : World} {ty : TypeId} (hu : Kept (fun k => v0.ownBlock = some k) w u) (hI : chI B w.heap.size v0 cv ls E D s u) {A : Option Addr} {m c : Nat} {l : List UInt8} (hy : Byt u A m c l) (hb : (ls s.length).length + m ≤ 140737488355328) (hB : B ≤ w.heap.size)
    (hls : ls (s.length + 1) = ls s.length ++ l) (hcv : ∀ v, cv (s ++ [v]) = v) (hE : ∀ v u', E (s ++ [v]) u') :
    ∃ v w', (Builtin.append_ #[31, 31] ty #[cv s, .slice A m c]).run Try.prog u = .ok v w' ∧ True ∧ Kept (fun k => v0.ownBlock = some k) w w' ∧ chI B w.heap.size v0 cv ls E D (s ++ [v]) w' ∧ u.heap.size ≤ w'.heap.size ∧ ∀ k, D k → k < u.heap.size → w'.heap[k]? = u.heap[k]? := by
  obtain ⟨h1, h2, h3, h4, h5, h6⟩ := hI
  obtain ⟨i0, hi, hz0, hz1, hz2⟩ := info_parts Try.infb
  obtain ⟨v, w', hr, hn, hgr, hor⟩ := run_app (P := Try.prog) (ty := ty) Try.underlying31 hi hz0 hz1 hz2 rfl h3 hy hb (Nat.le_trans hB h1)
  refine ⟨v, w', hr, trivial, ?_, ⟨Nat.le_trans h1 hgr.size, fun k h => Nat.lt_of_lt_of_le (h2 k h) hgr.size, ?_, fun k h e => ?_, fun k e => ?_, hE v w'⟩, hgr.size, fun k h hlt => hgr.block k hlt (fun e => h4 k h e.symm)⟩
  · refine hu.trans (F' := fun k => (cv s).ownBlock = some k) ((Kept.refl _ u).grown hgr (fun k hk _ => hk)) (fun k hk hf => ?_)
    rcases h5 k hf with h | h
    · exact h
    · omega
  · rw [hcv, List.length_append, List.length_singleton, hls, bys_app, List.length_append]
    have := hy.1
    rw [this]
    exact hn
  · rw [hcv] at e
    rcases hor with h' | h'
    · exact h4 k h (by rw [← h']; exact e)
    · rw [h'] at e
      injection e with e
      have := h2 k h
      omega
  · rw [hcv] at e
    rcases hor with h' | h'
    · exact h5 k (by rw [← h']; exact e)
    · rw [h'] at e
      injection e with e
      exact .inr (by omega)
end Go.Proofs.Ythjfeanmgaidcaa
