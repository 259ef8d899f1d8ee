/- tolllaw03: the examples (wakes), brought. -/
import Derived.Test.YtjdaaelkaeokeaaTagF
namespace Go.Proofs.Ytjdaaelkaeokeaa
open Go.RowKit Go.Sort
set_option linter.unusedVariables false

theorem byt_lit (w : World) (l : List UInt8) (t : TypeId) (cs : Array Value) (hcs : cs = (bys l).toArray) (n : Nat) (hn : l.length = n) (b : Nat) (hb : b = w.heap.size) (h : l.length ≤ 9223372036854775807) : Byt (w.alloc (.cells cs t)) (some ⟨b, 0, Option.none⟩) n n l := by
  subst hcs hn hb
  exact Byt.lit w l t h
theorem byt_own {w w' : World} {v : Value} {l : List UInt8} (h : Made w w' v l) : ∃ A c, v = .slice A l.length c ∧ Byt w' A l.length c l ∧ ∀ i, Lies A l.length i → w.heap.size ≤ i := Byt.of_own h.1

def exR : List UInt8 := [136, 168, 0, 5, 129, 0, 0, 7, 129, 0]
theorem exR_read : readM exR = ([⟨34984, 0, false, 5⟩, ⟨33024, 0, false, 7⟩], [129, 0], 0) := by decide +kernel
theorem exP_push : pushM [⟨34984, 0, false, 1⟩] ⟨34984, 0, false, 2⟩ = ([], 1) := by decide +kernel
theorem exB_bytes : bytesM [⟨33024, 5, true, 100⟩] = [129, 0, 176, 100] := by decide +kernel

/-- A tag that may be, of any. -/
def broM (t : Tg) : Tg := ⟨if t.k % 2 = 0 then 34984 else 33024, t.p % 8, t.d, t.n % 4096⟩
theorem broM_ok (t : Tg) : (broM t).ok := ⟨by unfold broM; simp only; split <;> decide, by unfold broM; simp only; omega, by unfold broM; simp only; omega⟩
theorem broM_may (t : Tg) : mayT (broM t) = true := by
  rw [mayT_iff]
  unfold broM
  simp only
  refine ⟨?_, by omega, by omega⟩
  split
  · exact .inl rfl
  · exact .inr rfl
end Go.Proofs.Ytjdaaelkaeokeaa
