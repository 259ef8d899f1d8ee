/- tolllaw03: of; the reference's Read. -/
import Derived.Test.YtbkjobmjapbmpaaTagE
namespace Go.Proofs.Ytbkjobmjapbmpaa
open Go.RowKit Go.Sort
set_option linter.unusedVariables false

theorem Try.infr : (Try.prog.info? 109).map (fun i => (i.zero, i.size, i.bytes)) = some (some (tgv ⟨0, 0, false, 0⟩), 4, 6) := by kernel_rfl
/-- The document's tags in new memory. -/
def MadeQ (w w' : World) (v : Value) (l : List Tg) : Prop := w'.ownsRow w.heap.size 109 4 v l.length (l.map tgc).flatten ∧ Kept Nil w w'

theorem own_block_ge {w : World} {B e size n : Nat} {v : Value} {xs : List Value} (h : w.ownsRow B e size v n xs) : ∀ i, v.ownBlock = some i → B ≤ i := fun i hi => (h.lt i hi).1
theorem numM_two (a b : UInt8) : (numM [a, b] : Int) = 256 * (a.toNat : Int) + b.toNat := by simp [numM]; omega
theorem two_of (l : List UInt8) (h : 2 ≤ l.length) : ∃ a b r, l = a :: b :: r := by
  match l, h with
  | a :: b :: r, _ => exact ⟨a, b, r, rfl⟩
theorem four_of (l : List UInt8) (h : 4 ≤ l.length) : ∃ a b c d r, l = a :: b :: c :: d :: r := by
  match l, h with
  | a :: b :: c :: d :: r, _ => exact ⟨a, b, c, d, r, rfl⟩
/-- Documents' tags and bytes, in new memory and in old. -/
structure MadeS (w w' : World) (v1 v2 : Value) (ts : List Tg) (r : List UInt8) (F : Nat → Prop) : Prop where
  tags : w'.ownsRow w.heap.size 109 4 v1 ts.length (ts.map tgc).flatten
  rest : ∃ A m c, v2 = .slice A m c ∧ Byt w' A m c r
  ok : ∀ t ∈ ts, t.ok
  kept : Kept Nil w w'
  far : ∀ A m c, v2 = .slice A m c → ∀ i, Lies A m i → F i
theorem readGo_ok (f : Nat) : ∀ (ts : List Tg) (b : List UInt8), (∀ t ∈ ts, t.ok) → ∀ t ∈ (readGo f ts b).1, t.ok := by
  induction f with
  | zero => intro ts b h; exact h
  | succ f ih =>
    intro ts b h
    unfold readGo
    split
    · split
      · intro t ht; simp at ht
      · refine ih _ _ fun t ht => ?_
        rcases List.mem_append.1 ht with ht | ht
        · exact h t ht
        · simp at ht
          subst ht
          exact tagOfM_ok _ _ (numM_take2 _) (numM_take2 _)
    · exact h

end Go.Proofs.Ytbkjobmjapbmpaa
