/- Texts that belong together, one behind the other: TagF, TagG. Conditions: those of each. -/
import Derived.Test.YthjfeanmgaidcaaMg23
/- tolllaw03: of; the reference's Read. -/
namespace Go.Proofs.Ythjfeanmgaidcaa
open Go.RowKit Go.Sort
set_option linter.unusedVariables false

theorem own_block_ge {w : World} {B e size n : Nat} {v : Value} {xs : List Value} (h : w.ownsRow B e size v n xs) : ∀ i, v.ownBlock = some i → B ≤ i := fun i hi => (h.lt i hi).1
theorem numM_two (a b : UInt8) : (numM [a, b] : Int) = 256 * (a.toNat : Int) + b.toNat := by simp [numM]; omega
theorem two_of (l : List UInt8) (h : 2 ≤ l.length) : ∃ a b r, l = a :: b :: r := by
  match l, h with
  | a :: b :: r, _ => exact ⟨a, b, r, rfl⟩
theorem four_of (l : List UInt8) (h : 4 ≤ l.length) : ∃ a b c d r, l = a :: b :: c :: d :: r := by
  match l, h with
  | a :: b :: c :: d :: r, _ => exact ⟨a, b, c, d, r, rfl⟩
theorem readGo_ok (f : Nat) : ∀ (ts : List Tg) (b : List UInt8), (∀ t ∈ ts, t.ok) → ∀ t ∈ (readGo f ts b).1, t.ok := by
  induction f with
  | zero => intro ts b h; exact h
  | succ f ih =>
    intro ts b h
    unfold readGo
    split
    · split
      · intro t ht; simp at ht
      · refine ih _ _ fun t ht => ?_
        rcases List.mem_append.1 ht with ht | ht
        · exact h t ht
        · simp at ht
          subst ht
          exact tagOfM_ok _ _ (numM_take2 _) (numM_take2 _)
    · exact h

end Go.Proofs.Ythjfeanmgaidcaa
/- tolllaw03: the examples (wakes), brought. -/
namespace Go.Proofs.Ythjfeanmgaidcaa
open Go.RowKit Go.Sort
set_option linter.unusedVariables false

def exR : List UInt8 := [136, 168, 0, 5, 129, 0, 0, 7, 129, 0]
theorem exR_read : readM exR = ([⟨34984, 0, false, 5⟩, ⟨33024, 0, false, 7⟩], [129, 0], 0) := by decide +kernel
theorem exP_push : pushM [⟨34984, 0, false, 1⟩] ⟨34984, 0, false, 2⟩ = ([], 1) := by decide +kernel
theorem exB_bytes : bytesM [⟨33024, 5, true, 100⟩] = [129, 0, 176, 100] := by decide +kernel

/-- A tag that may be, of any. -/
def broM (t : Tg) : Tg := ⟨if t.k % 2 = 0 then 34984 else 33024, t.p % 8, t.d, t.n % 4096⟩
theorem broM_ok (t : Tg) : (broM t).ok := ⟨by unfold broM; simp only; split <;> decide, by unfold broM; simp only; omega, by unfold broM; simp only; omega⟩
theorem broM_may (t : Tg) : mayT (broM t) = true := by
  rw [mayT_iff]
  unfold broM
  simp only
  refine ⟨?_, by omega, by omega⟩
  split
  · exact .inl rfl
  · exact .inr rfl
end Go.Proofs.Ythjfeanmgaidcaa
