/- What acts that make memory alone keep up. -/
import Derived.Test.YtbkjobmjapbmpaaMg5
namespace Go.Proofs.Ytbkjobmjapbmpaa
open Go.RowKit Go.Sort
set_option linter.unusedVariables false

def actI (G0 : Nat → Value → World → Prop) (D : Nat → Prop) (s : List Value) (u : World) : Prop := ∀ i v, s[i]? = some v → G0 i v u
theorem actI_keeps {G0 : Nat → Value → World → Prop} (h : ∀ i v u u', G0 i v u → Kept Nil u u' → G0 i v u') : Keeps (actI G0) where
  quiet := fun D s u u' hI hk i v hi => h i v u u' (hI i v hi) hk
  make := fun D s u o hI i v hi => h i v u _ (hI i v hi) ((Kept.refl Nil u).alloc o)
theorem actI_nil {G0 : Nat → Value → World → Prop} {D : Nat → Prop} {u : World} : actI G0 D [] u := fun i v h => by simp at h
theorem actI_snoc {G0 : Nat → Value → World → Prop} (h : ∀ i v u u', G0 i v u → Kept Nil u u' → G0 i v u') {D : Nat → Prop} {s : List Value} {u u' : World} {v : Value} (hI : actI G0 D s u) (k : Kept Nil u u') (n : Nat) (hn : s.length = n) (hv : G0 n v u') : actI G0 D (s ++ [v]) u' := by
  intro i x hi
  by_cases hlt : i < s.length
  · rw [List.getElem?_append_left hlt] at hi
    exact h i x u u' (hI i x hi) k
  · rw [List.getElem?_append_right (by omega)] at hi
    by_cases h0 : i - s.length = 0
    · rw [h0] at hi
      simp at hi
      subst hi
      rw [show i = n by omega]
      exact hv
    · rw [List.getElem?_eq_none (by simp; omega)] at hi
      cases hi
end Go.Proofs.Ytbkjobmjapbmpaa
