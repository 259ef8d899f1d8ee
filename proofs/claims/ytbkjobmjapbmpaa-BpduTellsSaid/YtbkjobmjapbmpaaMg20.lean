/- Texts that belong together, one behind the other: EthO, TagG. Conditions: those of each. -/
import Derived.Test.YtbkjobmjapbmpaaMg19
import Derived.Test.YtbkjobmjapbmpaaMg3
import Derived.Test.YtbkjobmjapbmpaaMg17
/- A frame's block. -/
namespace Go.Proofs.Ytbkjobmjapbmpaa
open Go.RowKit Go.Sort
set_option linter.unusedVariables false

/-- A frame's cells. -/
def fcs (f : Fr) (vt vb vr : Value) : List Value := bys f.d ++ (bys f.s ++ ([vt, .int .i64 f.k, .int .i64 f.y] ++ (bys f.l ++ (bys f.o ++ [vb, vr]))))
def frv (f : Fr) (vt vb vr : Value) : Value := .agg (fcs f vt vb vr).toArray
/-- Lengths of a frame's arrays. -/
structure Fr.six (f : Fr) : Prop where
  d : f.d.length = 6
  s : f.s.length = 6
  l : f.l.length = 3
  o : f.o.length = 3
theorem Fr.ok.six {f : Fr} (h : f.ok) : f.six := ⟨h.d, h.s, h.l, h.o⟩
theorem Fr.zero_six : Fr.zero.six := ⟨rfl, rfl, rfl, rfl⟩
section
variable {f : Fr} {vt vb vr : Value} {w : World} {g : Nat} {T : TypeId}
theorem fcs_len (h : f.six) : (fcs f vt vb vr).length = 23 := by
  simp only [fcs, List.length_append, bys_len, h.d, h.s, h.l, h.o, List.length_cons, List.length_nil]
theorem fcs_one (hs : vt.oneCell' = true) (hb : vb.oneCell' = true) (hr : vr.oneCell' = true) : ∀ u ∈ fcs f vt vb vr, u.oneCell' = true := by
  intro u hu
  simp only [fcs, List.mem_append, List.mem_cons, List.not_mem_nil, or_false] at hu
  rcases hu with h | h | h | h | h | h
  · exact bys_one _ u h
  · exact bys_one _ u h
  · rcases h with rfl | rfl | rfl
    · exact hs
    · rfl
    · rfl
  · exact bys_one _ u h
  · exact bys_one _ u h
  · rcases h with rfl | rfl
    · exact hb
    · exact hr
/-- A block holds a frame. -/
def FB (w : World) (g : Nat) (T : TypeId) (f : Fr) (vt vb vr : Value) : Prop := Blo w g T (fcs f vt vb vr).toArray
theorem FB.all (h : FB w g T f vt vb vr) : Row w g 0 (fcs f vt vb vr) := Blo.row [] _ [] (by rw [List.nil_append, List.append_nil]; exact h)
theorem FB.rd (h : FB w g T f vt vb vr) : Row w g 0 (bys f.d) := by
  have := Blo.row [] (bys f.d) (bys f.s ++ ([vt, .int .i64 f.k, .int .i64 f.y] ++ (bys f.l ++ (bys f.o ++ [vb, vr])))) (w := w) (g := g) (t := T) (by simpa [FB, fcs] using h)
  exact this
theorem FB.rs (h : FB w g T f vt vb vr) (hf : f.six) : Row w g 6 (bys f.s) := by
  have := Blo.row (bys f.d) (bys f.s) ([vt, .int .i64 f.k, .int .i64 f.y] ++ (bys f.l ++ (bys f.o ++ [vb, vr]))) (w := w) (g := g) (t := T) (by simpa [FB, fcs] using h)
  rwa [bys_len, hf.d] at this
theorem FB.rm (h : FB w g T f vt vb vr) (hf : f.six) : Row w g 12 [vt, .int .i64 f.k, .int .i64 f.y] := by
  have := Blo.row (bys f.d ++ bys f.s) [vt, .int .i64 f.k, .int .i64 f.y] (bys f.l ++ (bys f.o ++ [vb, vr])) (w := w) (g := g) (t := T) (by simpa [FB, fcs] using h)
  rwa [List.length_append, bys_len, bys_len, hf.d, hf.s] at this
theorem FB.rl (h : FB w g T f vt vb vr) (hf : f.six) : Row w g 15 (bys f.l) := by
  have := Blo.row (bys f.d ++ bys f.s ++ [vt, .int .i64 f.k, .int .i64 f.y]) (bys f.l) (bys f.o ++ [vb, vr]) (w := w) (g := g) (t := T) (by simpa [FB, fcs] using h)
  rwa [List.length_append, List.length_append, bys_len, bys_len, hf.d, hf.s] at this
theorem FB.ro (h : FB w g T f vt vb vr) (hf : f.six) : Row w g 18 (bys f.o) := by
  have := Blo.row (bys f.d ++ bys f.s ++ [vt, .int .i64 f.k, .int .i64 f.y] ++ bys f.l) (bys f.o) [vb, vr] (w := w) (g := g) (t := T) (by simpa [FB, fcs] using h)
  rwa [List.length_append, List.length_append, List.length_append, bys_len, bys_len, bys_len, hf.d, hf.s, hf.l] at this
theorem FB.re (h : FB w g T f vt vb vr) (hf : f.six) : Row w g 21 [vb, vr] := by
  have := Blo.row (bys f.d ++ bys f.s ++ [vt, .int .i64 f.k, .int .i64 f.y] ++ bys f.l ++ bys f.o) [vb, vr] [] (w := w) (g := g) (t := T) (by simpa [FB, fcs] using h)
  rwa [List.length_append, List.length_append, List.length_append, List.length_append, bys_len, bys_len, bys_len, bys_len, hf.d, hf.s, hf.l, hf.o] at this
theorem FB.ct (h : FB w g T f vt vb vr) (hf : f.six) : w.cell? ⟨g, 12, none⟩ = some vt := h.rm hf 0 _ rfl
theorem FB.ck (h : FB w g T f vt vb vr) (hf : f.six) : w.cell? ⟨g, 13, none⟩ = some (.int .i64 f.k) := h.rm hf 1 _ rfl
theorem FB.cy (h : FB w g T f vt vb vr) (hf : f.six) : w.cell? ⟨g, 14, none⟩ = some (.int .i64 f.y) := h.rm hf 2 _ rfl
theorem FB.cb (h : FB w g T f vt vb vr) (hf : f.six) : w.cell? ⟨g, 21, none⟩ = some vb := h.re hf 0 _ rfl
theorem FB.cr (h : FB w g T f vt vb vr) (hf : f.six) : w.cell? ⟨g, 22, none⟩ = some vr := h.re hf 1 _ rfl
theorem FB.kept {F : Nat → Prop} {w' : World} (h : FB w g T f vt vb vr) (k : Kept F w w') (hg : ¬ F g) : FB w' g T f vt vb vr := Blo.kept h k hg
theorem FB.new (w : World) (T : TypeId) (f : Fr) (vt vb vr : Value) : FB (w.alloc (.cells (fcs f vt vb vr).toArray T)) w.heap.size T f vt vb vr := Blo.new w T _
theorem FB.alloc (h : FB w g T f vt vb vr) (o : Obj) : FB (w.alloc o) g T f vt vb vr := Blo.alloc h o
theorem FB.lt (h : FB w g T f vt vb vr) : g < w.heap.size := Blo.lt h
/-- Fields stored anew. -/
theorem FB.of_all {f' : Fr} {vt' vb' vr' : Value} (hf : f.six) (hf' : f'.six) (h : Blo w g T ((fcs f vt vb vr).take 0 ++ fcs f' vt' vb' vr' ++ (fcs f vt vb vr).drop (0 + (fcs f' vt' vb' vr').length)).toArray) : FB w g T f' vt' vb' vr' := by
  rw [fcs_len hf', List.drop_of_length_le (by rw [fcs_len hf]; omega)] at h
  simpa [FB] using h
theorem splice_at {α : Type} (a l l' b : List α) (h : l.length = l'.length) : (a ++ (l ++ b)).take a.length ++ l' ++ (a ++ (l ++ b)).drop (a.length + l'.length) = a ++ (l' ++ b) := by
  rw [List.take_left, ← List.drop_drop, List.drop_left, ← h, List.drop_left, List.append_assoc]
theorem FB.set_d (d : List UInt8) (hd : d.length = 6) (hf : f.six) (h : Blo w g T ((fcs f vt vb vr).take 0 ++ bys d ++ (fcs f vt vb vr).drop (0 + (bys d).length)).toArray) : FB w g T { f with d := d } vt vb vr := by
  have := splice_at [] (bys f.d) (bys d) (bys f.s ++ ([vt, .int .i64 f.k, .int .i64 f.y] ++ (bys f.l ++ (bys f.o ++ [vb, vr])))) (by rw [bys_len, bys_len, hd, hf.d])
  unfold FB
  rw [show fcs { f with d := d } vt vb vr = [] ++ (bys d ++ (bys f.s ++ ([vt, .int .i64 f.k, .int .i64 f.y] ++ (bys f.l ++ (bys f.o ++ [vb, vr]))))) from rfl, ← this]
  exact h
theorem FB.set_s (s : List UInt8) (hs : s.length = 6) (hf : f.six) (h : Blo w g T ((fcs f vt vb vr).take 6 ++ bys s ++ (fcs f vt vb vr).drop (6 + (bys s).length)).toArray) : FB w g T { f with s := s } vt vb vr := by
  have := splice_at (bys f.d) (bys f.s) (bys s) ([vt, .int .i64 f.k, .int .i64 f.y] ++ (bys f.l ++ (bys f.o ++ [vb, vr]))) (by rw [bys_len, bys_len, hs, hf.s])
  rw [bys_len, hf.d] at this
  unfold FB
  rw [show fcs { f with s := s } vt vb vr = bys f.d ++ (bys s ++ ([vt, .int .i64 f.k, .int .i64 f.y] ++ (bys f.l ++ (bys f.o ++ [vb, vr])))) from rfl, ← this]
  exact h
theorem FB.set_o (o : List UInt8) (ho : o.length = 3) (hf : f.six) (h : Blo w g T ((fcs f vt vb vr).take 18 ++ bys o ++ (fcs f vt vb vr).drop (18 + (bys o).length)).toArray) : FB w g T { f with o := o } vt vb vr := by
  have := splice_at (bys f.d ++ bys f.s ++ [vt, .int .i64 f.k, .int .i64 f.y] ++ bys f.l) (bys f.o) (bys o) [vb, vr] (by rw [bys_len, bys_len, ho, hf.o])
  rw [List.length_append, List.length_append, List.length_append, bys_len, bys_len, bys_len, hf.d, hf.s, hf.l] at this
  unfold FB
  have e1 : ∀ z : List UInt8, bys f.d ++ bys f.s ++ [vt, .int .i64 f.k, .int .i64 f.y] ++ bys f.l ++ (bys z ++ [vb, vr]) = bys f.d ++ (bys f.s ++ ([vt, .int .i64 f.k, .int .i64 f.y] ++ (bys f.l ++ (bys z ++ [vb, vr])))) := fun z => by simp
  rw [e1, e1] at this
  rw [show fcs { f with o := o } vt vb vr = bys f.d ++ (bys f.s ++ ([vt, .int .i64 f.k, .int .i64 f.y] ++ (bys f.l ++ (bys o ++ [vb, vr])))) from rfl, ← this]
  exact h
theorem FB.set_m (vt' : Value) (k y : Int) (hf : f.six) {n : Nat} {x : Value} (hx : (n = 12 ∧ x = vt' ∧ k = f.k ∧ y = f.y) ∨ (n = 13 ∧ x = .int .i64 k ∧ vt' = vt ∧ y = f.y) ∨ (n = 14 ∧ x = .int .i64 y ∧ vt' = vt ∧ k = f.k))
    (h : Blo w g T ((fcs f vt vb vr).take n ++ [x] ++ (fcs f vt vb vr).drop (n + [x].length)).toArray) : FB w g T { f with k := k, y := y } vt' vb vr := by
  obtain ⟨d, s, t, fk, fy, l, o, b, r⟩ := f
  obtain ⟨d0, d1, d2, d3, d4, d5, rfl⟩ := six_of d hf.d
  obtain ⟨s0, s1, s2, s3, s4, s5, rfl⟩ := six_of s hf.s
  rcases hx with ⟨rfl, rfl, rfl, rfl⟩ | ⟨rfl, rfl, rfl, rfl⟩ | ⟨rfl, rfl, rfl, rfl⟩ <;> exact h
theorem FB.set_e (vb' vr' : Value) (hf : f.six) {n : Nat} {x : Value} (hx : (n = 21 ∧ x = vb' ∧ vr' = vr) ∨ (n = 22 ∧ x = vr' ∧ vb' = vb))
    (h : Blo w g T ((fcs f vt vb vr).take n ++ [x] ++ (fcs f vt vb vr).drop (n + [x].length)).toArray) : FB w g T f vt vb' vr' := by
  obtain ⟨d, s, t, fk, fy, l, o, b, r⟩ := f
  obtain ⟨d0, d1, d2, d3, d4, d5, rfl⟩ := six_of d hf.d
  obtain ⟨s0, s1, s2, s3, s4, s5, rfl⟩ := six_of s hf.s
  obtain ⟨l0, l1, l2, rfl⟩ := len3 hf.l
  obtain ⟨o0, o1, o2, rfl⟩ := len3 hf.o
  rcases hx with ⟨rfl, rfl, rfl⟩ | ⟨rfl, rfl, rfl⟩ <;> exact h
theorem fcs_set_d (d : List UInt8) (hd : d.length = 6) (hf : f.six) : fcs { f with d := d } vt vb vr = (fcs f vt vb vr).take 0 ++ bys d ++ (fcs f vt vb vr).drop (0 + (bys d).length) :=
  (splice_at [] (bys f.d) (bys d) (bys f.s ++ ([vt, .int .i64 f.k, .int .i64 f.y] ++ (bys f.l ++ (bys f.o ++ [vb, vr])))) (by rw [bys_len, bys_len, hd, hf.d])).symm
theorem fcs_set_s (s : List UInt8) (hs : s.length = 6) (hf : f.six) : fcs { f with s := s } vt vb vr = (fcs f vt vb vr).take 6 ++ bys s ++ (fcs f vt vb vr).drop (6 + (bys s).length) := by
  have := splice_at (bys f.d) (bys f.s) (bys s) ([vt, .int .i64 f.k, .int .i64 f.y] ++ (bys f.l ++ (bys f.o ++ [vb, vr]))) (by rw [bys_len, bys_len, hs, hf.s])
  rw [bys_len, hf.d] at this
  exact this.symm
theorem fcs_set_t (vt' : Value) (hf : f.six) : fcs f vt' vb vr = (fcs f vt vb vr).take 12 ++ [vt'] ++ (fcs f vt vb vr).drop (12 + [vt'].length) := by
  obtain ⟨d, s, t, fk, fy, l, o, b, r⟩ := f
  obtain ⟨d0, d1, d2, d3, d4, d5, rfl⟩ := six_of d hf.d
  obtain ⟨s0, s1, s2, s3, s4, s5, rfl⟩ := six_of s hf.s
  rfl
end
end Go.Proofs.Ytbkjobmjapbmpaa
/- tolllaw03: the examples (wakes), brought. -/
namespace Go.Proofs.Ytbkjobmjapbmpaa
open Go.RowKit Go.Sort
set_option linter.unusedVariables false

def exR : List UInt8 := [136, 168, 0, 5, 129, 0, 0, 7, 129, 0]
theorem exR_read : readM exR = ([⟨34984, 0, false, 5⟩, ⟨33024, 0, false, 7⟩], [129, 0], 0) := by decide +kernel
theorem exP_push : pushM [⟨34984, 0, false, 1⟩] ⟨34984, 0, false, 2⟩ = ([], 1) := by decide +kernel
theorem exB_bytes : bytesM [⟨33024, 5, true, 100⟩] = [129, 0, 176, 100] := by decide +kernel

/-- A tag that may be, of any. -/
def broM (t : Tg) : Tg := ⟨if t.k % 2 = 0 then 34984 else 33024, t.p % 8, t.d, t.n % 4096⟩
theorem broM_ok (t : Tg) : (broM t).ok := ⟨by unfold broM; simp only; split <;> decide, by unfold broM; simp only; omega, by unfold broM; simp only; omega⟩
theorem broM_may (t : Tg) : mayT (broM t) = true := by
  rw [mayT_iff]
  unfold broM
  simp only
  refine ⟨?_, by omega, by omega⟩
  split
  · exact .inl rfl
  · exact .inr rfl
end Go.Proofs.Ytbkjobmjapbmpaa
