/- What is laid, then what follows it: Done and Concat in one region. -/
import Derived.Test.YthjbabkmjmfmjaaDoorMg4
import Derived.Test.YthjbabkmjmfmjaaDoorMg20
import Derived.Test.YthjbabkmjmfmjaaDoorMg19
namespace Go.Proofs.YthjbabkmjmfmjaaDoor
open Go.RowKit Go.Sort
set_option linter.unusedVariables false

/-- What Done and Concat have made. -/
def dcI (n0 : Nat) (l1 l2 : List UInt8) (D : Nat → Prop) (s : List Value) (u : World) : Prop := n0 ≤ u.heap.size ∧ match s with
  | [] => True
  | [v] => u.ownsRow n0 5 1 v l1.length (bys l1)
  | _ :: v :: _ => u.ownsRow n0 5 1 v l2.length (bys l2)
theorem dcI_keeps (n0 : Nat) (l1 l2 : List UInt8) : Keeps (dcI n0 l1 l2) where
  quiet := fun D s u u' ⟨h1, h2⟩ hk => ⟨Nat.le_trans h1 hk.size, by
    match s, h2 with
    | [], _ => trivial
    | [v], h2 => exact own_kept h2 hk (fun _ _ hf => hf)
    | _ :: v :: _, h2 => exact own_kept h2 hk (fun _ _ hf => hf)⟩
  make := fun D s u o ⟨h1, h2⟩ => ⟨by simp; omega, by
    match s, h2 with
    | [], _ => trivial
    | [v], h2 => exact own_kept h2 ((Kept.refl Nil u).alloc o) (fun _ _ hf => hf)
    | _ :: v :: _, h2 => exact own_kept h2 ((Kept.refl Nil u).alloc o) (fun _ _ hf => hf)⟩
theorem own_form' {w : World} {B e n : Nat} {v : Value} {l : List UInt8} (h : w.ownsRow B e 1 v n (bys l)) : ∃ A n c, v = .slice A n c := by
  obtain ⟨A, c, rfl, _⟩ := Byt.of_own h
  exact ⟨A, n, c, rfl⟩
/-- The act of Done. -/
theorem dc_done {w0 w u : World} {B g : Nat} {v : Value} {l l2 : List UInt8} {D : Nat → Prop} (hp : Padd w B g v l) (hl : l.length ≤ 140737488355328) (hu : Kept Nil w u) (hI : dcI w0.heap.size l l2 D [] u) :
    Calls Tryd.prog 50 #[.pointer (some ⟨g, 0, none⟩)] u fun e w' => ∃ r, e = .returned r ∧ (∃ A n c, r = .slice A n c) ∧ Kept Nil w w' ∧ dcI w0.heap.size l l2 D ([] ++ [r]) w' ∧ u.heap.size ≤ w'.heap.size ∧ ∀ k, D k → k < u.heap.size → w'.heap[k]? = u.heap[k]? := by
  refine (Done_yes B g v l u (hp.kept hu (fun _ _ hf => hf)) hl).mono ?_
  rintro e w' ⟨r, rfl, hm⟩
  exact ⟨r, rfl, own_form' hm.1, hu.then hm.2, ⟨Nat.le_trans hI.1 hm.2.size, own_mono hm.1 hI.1⟩, hm.2.size, fun k _ hk => hm.2.block k hk (fun hf => hf)⟩
/-- The act of Concat. -/
theorem dc_cat {w0 w u : World} {q : Nat} {A3 : Option Addr} {n3 c3 : Nat} {l b : List UInt8} {B : Option Addr} {m d : Nat} {D : Nat → Prop} {T : TypeId} (hb : Byt w B m d b) (hl : l.length + m ≤ 1099511627776) (hu : Kept Nil w u) (hI : dcI w0.heap.size l (l ++ b) D [.slice A3 n3 c3] u) (d2 : Blo u q T #[.slice A3 n3 c3, .slice B m d]) :
    Calls Tryd.prog 56 #[.slice (some ⟨q, 0, none⟩) 2 2] u fun e w' => ∃ r, e = .returned r ∧ (∃ A n c, r = .slice A n c) ∧ Kept Nil w w' ∧ dcI w0.heap.size l (l ++ b) D ([.slice A3 n3 c3] ++ [r]) w' ∧ u.heap.size ≤ w'.heap.size ∧ ∀ k, D k → k < u.heap.size → w'.heap[k]? = u.heap[k]? := by
  obtain ⟨hI1, hI2⟩ := hI
  have hI2' : u.ownsRow w0.heap.size 5 1 (.slice A3 n3 c3) l.length (bys l) := hI2
  obtain ⟨A4, c4, e4, hy4, _⟩ := Byt.of_own hI2'
  cases e4
  refine (concat_b q 2 T [.slice A3 l.length c3, .slice B m d] [l, b] u d2 rfl rfl (by decide) ?_ (by have := hb.1; simp; omega)).mono ?_
  · intro i h1 h2
    match i, h1 with
    | 0, _ => exact ⟨_, _, _, rfl, hy4⟩
    | 1, _ => exact ⟨_, _, _, rfl, hb.kept hu (fun _ _ hf => hf)⟩
  · rintro e w' ⟨r, rfl, hm⟩
    rw [show [l, b].flatten = l ++ b by simp] at hm
    exact ⟨r, rfl, own_form' hm.1, hu.then hm.2, ⟨Nat.le_trans hI1 hm.2.size, own_mono hm.1 hI1⟩, hm.2.size, fun k _ hk => hm.2.block k hk (fun hf => hf)⟩
end Go.Proofs.YthjbabkmjmfmjaaDoor
