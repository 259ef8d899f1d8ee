/- tolllaw04.EtherBack: the walk. -/
import Derived.Test.YtddpdopccejmbaaEthF
import Derived.Test.YtddpdopccejmbaaMg22
import Derived.Test.YtddpdopccejmbaaMg23
import Derived.Test.YtddpdopccejmbaaMg17
import Derived.Test.YtddpdopccejmbaaMg24
import Derived.Test.YtddpdopccejmbaaMg25
import Derived.Test.YtddpdopccejmbaaEthU
namespace Go.Proofs.Ytddpdopccejmbaa
open Go.RowKit Go.Sort
set_option linter.unusedVariables false

theorem fewM_ok {f : Fr} (h : f.ok) : (fewM f).ok := ⟨h.d, h.s, fun t ht => h.t t (List.mem_of_mem_take ht), h.k, h.y, h.l, h.o⟩
theorem fewM_small (f : Fr) : (fewM f).t.length ≤ 4 ∧ (fewM f).b.length ≤ 1600 ∧ (fewM f).r.length ≤ 1600 := by
  refine ⟨?_, ?_, ?_⟩ <;> (simp only [fewM, List.length_take]; omega)
theorem NewF.frIn {w w' : World} {f : Fr} {vt vb vr : Value} (h : NewF w w' f vt vb vr) (hok : f.ok) (h1 : f.t.length ≤ 1000) (h2 : f.b.length ≤ 1000000) (h3 : f.r.length ≤ 1000000) : FrIn w' f vt vb vr := by
  obtain ⟨A, n, c, e, ht, _⟩ := h.t
  obtain ⟨A1, n1, c1, e1, hb, _⟩ := h.b
  obtain ⟨A2, n2, c2, e2, hr, _⟩ := h.r
  exact ⟨hok, ⟨A, n, c, e, ht⟩, ⟨A1, n1, c1, e1, hb⟩, ⟨A2, n2, c2, e2, hr⟩, h1, h2, h3⟩
theorem FrIn.rd {w : World} {f : Fr} {vt vb vr : Value} (h : FrIn w f vt vb vr) : FrRd w f vt vb vr := ⟨h.ok.six, h.t, h.b, h.r, h.tn⟩
theorem FrIn.far {w w' : World} {f : Fr} {vt vb vr : Value} {g B : Nat} {w0 : World} (h : NewF w0 w f vt vb vr) (hi : FrIn w f vt vb vr) (k : Kept (One g) w w') (hg : g < w0.heap.size) : FrIn w' f vt vb vr := (h.far k hg).frIn hi.ok hi.tn hi.bn hi.rn
theorem Fr.zero_ok : Fr.zero.ok := ⟨rfl, rfl, fun _ h => (by cases h), ⟨by decide, by decide⟩, ⟨by decide, by decide⟩, rfl, rfl⟩
theorem put_lens (f : Fr) (h : (putM f).2 = 0) : f.t.length * 4 + f.b.length + f.r.length ≤ (putM f).1.length := by
  unfold putM at h ⊢
  split
  · rename_i h0; rw [if_pos h0] at h; simp at h
  · rename_i h0
    rw [if_neg h0] at h
    split
    · rename_i h1; rw [if_pos h1] at h; simp at h
    · have := bytTs_len f.t
      simp only [aheadM, List.length_append]
      omega
def bkG (G : Fr) (ub ur pb pr : Value) (i : Nat) (v : Value) (u : World) : Prop := match i with
  | 0 => ∃ t1, v = frv G t1 ub ur ∧ FrRd u G t1 ub ur
  | 1 => ∃ t2, v = frv G t2 pb pr ∧ FrRd u G t2 pb pr
  | _ => True
theorem bkG_kept {G : Fr} {ub ur pb pr : Value} (i : Nat) (v : Value) (u u' : World) (h : bkG G ub ur pb pr i v u) (k : Kept Nil u u') : bkG G ub ur pb pr i v u' := by
  match i, h with
  | 0, ⟨t1, e, h⟩ => exact ⟨t1, e, h.kept k⟩
  | 1, ⟨t1, e, h⟩ => exact ⟨t1, e, h.kept k⟩
  | _ + 2, _ => trivial
def bkP (G : Fr) (ub ur pb pr : Value) (i : Nat) (v : Value) : Prop := if i = 4 then ∃ t1, v = frv G t1 ub ur else if i = 6 then ∃ t2, v = frv G t2 pb pr else v = .bool true
/-- What Of tells can be read. -/
theorem of_rd {f : Fr} {vt vb vr v : Value} {u w' : World} (h : FrIn u f vt vb vr) (hn : NewT u w' v f.t) (k : Kept Nil u w') : FrRd w' f v vb vr := by
  obtain ⟨A, n, c, e, ht, _⟩ := hn
  have h' := h.kept k
  exact ⟨h.ok.six, ⟨A, n, c, e, ht⟩, h'.b, h'.r, h.tn⟩
theorem putM_len (f : Fr) (hok : f.ok) (h : Hid (f.t.length ≤ 4 ∧ f.b.length ≤ 1600 ∧ f.r.length ≤ 1600)) : (putM f).1.length ≤ 100000000 := by
  have h := h.out
  unfold putM
  split
  · simp
  · split
    · simp
    · have := bytTs_len f.t
      have h2 := hok.d
      have h3 := hok.s
      have h4 := head_len f hok.l hok.o
      simp only [aheadM, List.length_append]
      omega
end Go.Proofs.Ytddpdopccejmbaa
