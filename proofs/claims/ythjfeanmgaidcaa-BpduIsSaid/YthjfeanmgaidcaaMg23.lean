/- Texts that belong together, one behind the other: EthO, TagE. Conditions: those of each. -/
import Derived.Test.YthjfeanmgaidcaaMg22
import Derived.Test.YthjfeanmgaidcaaMg3
import Derived.Test.YthjfeanmgaidcaaMg21
/- A frame's block. -/
namespace Go.Proofs.Ythjfeanmgaidcaa
open Go.RowKit Go.Sort
set_option linter.unusedVariables false

/-- A frame's cells. -/
def fcs (f : Fr) (vt vb vr : Value) : List Value := bys f.d ++ (bys f.s ++ ([vt, .int .i64 f.k, .int .i64 f.y] ++ (bys f.l ++ (bys f.o ++ [vb, vr]))))
def frv (f : Fr) (vt vb vr : Value) : Value := .agg (fcs f vt vb vr).toArray
/-- Lengths of a frame's arrays. -/
structure Fr.six (f : Fr) : Prop where
  d : f.d.length = 6
  s : f.s.length = 6
  l : f.l.length = 3
  o : f.o.length = 3
theorem Fr.ok.six {f : Fr} (h : f.ok) : f.six := ⟨h.d, h.s, h.l, h.o⟩
theorem Fr.zero_six : Fr.zero.six := ⟨rfl, rfl, rfl, rfl⟩
section
variable {f : Fr} {vt vb vr : Value} {w : World} {g : Nat} {T : TypeId}
theorem fcs_len (h : f.six) : (fcs f vt vb vr).length = 23 := by
  simp only [fcs, List.length_append, bys_len, h.d, h.s, h.l, h.o, List.length_cons, List.length_nil]
theorem fcs_one (hs : vt.oneCell' = true) (hb : vb.oneCell' = true) (hr : vr.oneCell' = true) : ∀ u ∈ fcs f vt vb vr, u.oneCell' = true := by
  intro u hu
  simp only [fcs, List.mem_append, List.mem_cons, List.not_mem_nil, or_false] at hu
  rcases hu with h | h | h | h | h | h
  · exact bys_one _ u h
  · exact bys_one _ u h
  · rcases h with rfl | rfl | rfl
    · exact hs
    · rfl
    · rfl
  · exact bys_one _ u h
  · exact bys_one _ u h
  · rcases h with rfl | rfl
    · exact hb
    · exact hr
/-- A block holds a frame. -/
def FB (w : World) (g : Nat) (T : TypeId) (f : Fr) (vt vb vr : Value) : Prop := Blo w g T (fcs f vt vb vr).toArray
theorem FB.all (h : FB w g T f vt vb vr) : Row w g 0 (fcs f vt vb vr) := Blo.row [] _ [] (by rw [List.nil_append, List.append_nil]; exact h)
theorem FB.rd (h : FB w g T f vt vb vr) : Row w g 0 (bys f.d) := by
  have := Blo.row [] (bys f.d) (bys f.s ++ ([vt, .int .i64 f.k, .int .i64 f.y] ++ (bys f.l ++ (bys f.o ++ [vb, vr])))) (w := w) (g := g) (t := T) (by simpa [FB, fcs] using h)
  exact this
theorem FB.rs (h : FB w g T f vt vb vr) (hf : f.six) : Row w g 6 (bys f.s) := by
  have := Blo.row (bys f.d) (bys f.s) ([vt, .int .i64 f.k, .int .i64 f.y] ++ (bys f.l ++ (bys f.o ++ [vb, vr]))) (w := w) (g := g) (t := T) (by simpa [FB, fcs] using h)
  rwa [bys_len, hf.d] at this
theorem FB.rm (h : FB w g T f vt vb vr) (hf : f.six) : Row w g 12 [vt, .int .i64 f.k, .int .i64 f.y] := by
  have := Blo.row (bys f.d ++ bys f.s) [vt, .int .i64 f.k, .int .i64 f.y] (bys f.l ++ (bys f.o ++ [vb, vr])) (w := w) (g := g) (t := T) (by simpa [FB, fcs] using h)
  rwa [List.length_append, bys_len, bys_len, hf.d, hf.s] at this
theorem FB.rl (h : FB w g T f vt vb vr) (hf : f.six) : Row w g 15 (bys f.l) := by
  have := Blo.row (bys f.d ++ bys f.s ++ [vt, .int .i64 f.k, .int .i64 f.y]) (bys f.l) (bys f.o ++ [vb, vr]) (w := w) (g := g) (t := T) (by simpa [FB, fcs] using h)
  rwa [List.length_append, List.length_append, bys_len, bys_len, hf.d, hf.s] at this
theorem FB.ro (h : FB w g T f vt vb vr) (hf : f.six) : Row w g 18 (bys f.o) := by
  have := Blo.row (bys f.d ++ bys f.s ++ [vt, .int .i64 f.k, .int .i64 f.y] ++ bys f.l) (bys f.o) [vb, vr] (w := w) (g := g) (t := T) (by simpa [FB, fcs] using h)
  rwa [List.length_append, List.length_append, List.length_append, bys_len, bys_len, bys_len, hf.d, hf.s, hf.l] at this
theorem FB.re (h : FB w g T f vt vb vr) (hf : f.six) : Row w g 21 [vb, vr] := by
  have := Blo.row (bys f.d ++ bys f.s ++ [vt, .int .i64 f.k, .int .i64 f.y] ++ bys f.l ++ bys f.o) [vb, vr] [] (w := w) (g := g) (t := T) (by simpa [FB, fcs] using h)
  rwa [List.length_append, List.length_append, List.length_append, List.length_append, bys_len, bys_len, bys_len, bys_len, hf.d, hf.s, hf.l, hf.o] at this
theorem FB.ct (h : FB w g T f vt vb vr) (hf : f.six) : w.cell? ⟨g, 12, none⟩ = some vt := h.rm hf 0 _ rfl
theorem FB.ck (h : FB w g T f vt vb vr) (hf : f.six) : w.cell? ⟨g, 13, none⟩ = some (.int .i64 f.k) := h.rm hf 1 _ rfl
theorem FB.cy (h : FB w g T f vt vb vr) (hf : f.six) : w.cell? ⟨g, 14, none⟩ = some (.int .i64 f.y) := h.rm hf 2 _ rfl
theorem FB.cb (h : FB w g T f vt vb vr) (hf : f.six) : w.cell? ⟨g, 21, none⟩ = some vb := h.re hf 0 _ rfl
theorem FB.cr (h : FB w g T f vt vb vr) (hf : f.six) : w.cell? ⟨g, 22, none⟩ = some vr := h.re hf 1 _ rfl
theorem FB.kept {F : Nat → Prop} {w' : World} (h : FB w g T f vt vb vr) (k : Kept F w w') (hg : ¬ F g) : FB w' g T f vt vb vr := Blo.kept h k hg
theorem FB.new (w : World) (T : TypeId) (f : Fr) (vt vb vr : Value) : FB (w.alloc (.cells (fcs f vt vb vr).toArray T)) w.heap.size T f vt vb vr := Blo.new w T _
theorem FB.alloc (h : FB w g T f vt vb vr) (o : Obj) : FB (w.alloc o) g T f vt vb vr := Blo.alloc h o
theorem FB.lt (h : FB w g T f vt vb vr) : g < w.heap.size := Blo.lt h
/-- Fields stored anew. -/
theorem FB.of_all {f' : Fr} {vt' vb' vr' : Value} (hf : f.six) (hf' : f'.six) (h : Blo w g T ((fcs f vt vb vr).take 0 ++ fcs f' vt' vb' vr' ++ (fcs f vt vb vr).drop (0 + (fcs f' vt' vb' vr').length)).toArray) : FB w g T f' vt' vb' vr' := by
  rw [fcs_len hf', List.drop_of_length_le (by rw [fcs_len hf]; omega)] at h
  simpa [FB] using h
theorem splice_at {α : Type} (a l l' b : List α) (h : l.length = l'.length) : (a ++ (l ++ b)).take a.length ++ l' ++ (a ++ (l ++ b)).drop (a.length + l'.length) = a ++ (l' ++ b) := by
  rw [List.take_left, ← List.drop_drop, List.drop_left, ← h, List.drop_left, List.append_assoc]
theorem FB.set_d (d : List UInt8) (hd : d.length = 6) (hf : f.six) (h : Blo w g T ((fcs f vt vb vr).take 0 ++ bys d ++ (fcs f vt vb vr).drop (0 + (bys d).length)).toArray) : FB w g T { f with d := d } vt vb vr := by
  have := splice_at [] (bys f.d) (bys d) (bys f.s ++ ([vt, .int .i64 f.k, .int .i64 f.y] ++ (bys f.l ++ (bys f.o ++ [vb, vr])))) (by rw [bys_len, bys_len, hd, hf.d])
  unfold FB
  rw [show fcs { f with d := d } vt vb vr = [] ++ (bys d ++ (bys f.s ++ ([vt, .int .i64 f.k, .int .i64 f.y] ++ (bys f.l ++ (bys f.o ++ [vb, vr]))))) from rfl, ← this]
  exact h
theorem FB.set_s (s : List UInt8) (hs : s.length = 6) (hf : f.six) (h : Blo w g T ((fcs f vt vb vr).take 6 ++ bys s ++ (fcs f vt vb vr).drop (6 + (bys s).length)).toArray) : FB w g T { f with s := s } vt vb vr := by
  have := splice_at (bys f.d) (bys f.s) (bys s) ([vt, .int .i64 f.k, .int .i64 f.y] ++ (bys f.l ++ (bys f.o ++ [vb, vr]))) (by rw [bys_len, bys_len, hs, hf.s])
  rw [bys_len, hf.d] at this
  unfold FB
  rw [show fcs { f with s := s } vt vb vr = bys f.d ++ (bys s ++ ([vt, .int .i64 f.k, .int .i64 f.y] ++ (bys f.l ++ (bys f.o ++ [vb, vr])))) from rfl, ← this]
  exact h
theorem FB.set_o (o : List UInt8) (ho : o.length = 3) (hf : f.six) (h : Blo w g T ((fcs f vt vb vr).take 18 ++ bys o ++ (fcs f vt vb vr).drop (18 + (bys o).length)).toArray) : FB w g T { f with o := o } vt vb vr := by
  have := splice_at (bys f.d ++ bys f.s ++ [vt, .int .i64 f.k, .int .i64 f.y] ++ bys f.l) (bys f.o) (bys o) [vb, vr] (by rw [bys_len, bys_len, ho, hf.o])
  rw [List.length_append, List.length_append, List.length_append, bys_len, bys_len, bys_len, hf.d, hf.s, hf.l] at this
  unfold FB
  have e1 : ∀ z : List UInt8, bys f.d ++ bys f.s ++ [vt, .int .i64 f.k, .int .i64 f.y] ++ bys f.l ++ (bys z ++ [vb, vr]) = bys f.d ++ (bys f.s ++ ([vt, .int .i64 f.k, .int .i64 f.y] ++ (bys f.l ++ (bys z ++ [vb, vr])))) := fun z => by simp
  rw [e1, e1] at this
  rw [show fcs { f with o := o } vt vb vr = bys f.d ++ (bys f.s ++ ([vt, .int .i64 f.k, .int .i64 f.y] ++ (bys f.l ++ (bys o ++ [vb, vr])))) from rfl, ← this]
  exact h
theorem FB.set_m (vt' : Value) (k y : Int) (hf : f.six) {n : Nat} {x : Value} (hx : (n = 12 ∧ x = vt' ∧ k = f.k ∧ y = f.y) ∨ (n = 13 ∧ x = .int .i64 k ∧ vt' = vt ∧ y = f.y) ∨ (n = 14 ∧ x = .int .i64 y ∧ vt' = vt ∧ k = f.k))
    (h : Blo w g T ((fcs f vt vb vr).take n ++ [x] ++ (fcs f vt vb vr).drop (n + [x].length)).toArray) : FB w g T { f with k := k, y := y } vt' vb vr := by
  obtain ⟨d, s, t, fk, fy, l, o, b, r⟩ := f
  obtain ⟨d0, d1, d2, d3, d4, d5, rfl⟩ := six_of d hf.d
  obtain ⟨s0, s1, s2, s3, s4, s5, rfl⟩ := six_of s hf.s
  rcases hx with ⟨rfl, rfl, rfl, rfl⟩ | ⟨rfl, rfl, rfl, rfl⟩ | ⟨rfl, rfl, rfl, rfl⟩ <;> exact h
theorem FB.set_e (vb' vr' : Value) (hf : f.six) {n : Nat} {x : Value} (hx : (n = 21 ∧ x = vb' ∧ vr' = vr) ∨ (n = 22 ∧ x = vr' ∧ vb' = vb))
    (h : Blo w g T ((fcs f vt vb vr).take n ++ [x] ++ (fcs f vt vb vr).drop (n + [x].length)).toArray) : FB w g T f vt vb' vr' := by
  obtain ⟨d, s, t, fk, fy, l, o, b, r⟩ := f
  obtain ⟨d0, d1, d2, d3, d4, d5, rfl⟩ := six_of d hf.d
  obtain ⟨s0, s1, s2, s3, s4, s5, rfl⟩ := six_of s hf.s
  obtain ⟨l0, l1, l2, rfl⟩ := len3 hf.l
  obtain ⟨o0, o1, o2, rfl⟩ := len3 hf.o
  rcases hx with ⟨rfl, rfl, rfl⟩ | ⟨rfl, rfl, rfl⟩ <;> exact h
theorem fcs_set_d (d : List UInt8) (hd : d.length = 6) (hf : f.six) : fcs { f with d := d } vt vb vr = (fcs f vt vb vr).take 0 ++ bys d ++ (fcs f vt vb vr).drop (0 + (bys d).length) :=
  (splice_at [] (bys f.d) (bys d) (bys f.s ++ ([vt, .int .i64 f.k, .int .i64 f.y] ++ (bys f.l ++ (bys f.o ++ [vb, vr])))) (by rw [bys_len, bys_len, hd, hf.d])).symm
theorem fcs_set_s (s : List UInt8) (hs : s.length = 6) (hf : f.six) : fcs { f with s := s } vt vb vr = (fcs f vt vb vr).take 6 ++ bys s ++ (fcs f vt vb vr).drop (6 + (bys s).length) := by
  have := splice_at (bys f.d) (bys f.s) (bys s) ([vt, .int .i64 f.k, .int .i64 f.y] ++ (bys f.l ++ (bys f.o ++ [vb, vr]))) (by rw [bys_len, bys_len, hs, hf.s])
  rw [bys_len, hf.d] at this
  exact this.symm
theorem fcs_set_t (vt' : Value) (hf : f.six) : fcs f vt' vb vr = (fcs f vt vb vr).take 12 ++ [vt'] ++ (fcs f vt vb vr).drop (12 + [vt'].length) := by
  obtain ⟨d, s, t, fk, fy, l, o, b, r⟩ := f
  obtain ⟨d0, d1, d2, d3, d4, d5, rfl⟩ := six_of d hf.d
  obtain ⟨s0, s1, s2, s3, s4, s5, rfl⟩ := six_of s hf.s
  rfl
end
end Go.Proofs.Ythjfeanmgaidcaa
/- Package tag: contracts of Push and Pop. -/
namespace Go.Proofs.Ythjfeanmgaidcaa
open Go.RowKit Go.Sort
set_option linter.unusedVariables false

def pushM (l : List Tg) (t : Tg) : List Tg × Int :=
  if mayL l = false ∨ mayT t = false then ([], 1) else if l.length = 2 then ([], 7) else if mayL (t :: l) then (t :: l, 0) else ([], 1)
theorem own_lit {w : World} {s : Nat} (rs : List (List Value)) (t : TypeId) (hr : ∀ r ∈ rs, r.length = s) (h : rs.length ≤ maxLen) (cs : Array Value) (hc : cs = rs.flatten.toArray) (n : Nat) (hn : rs.length = n) (b : Nat) (hb : b = w.heap.size) (B : Nat) (hB : B ≤ w.heap.size) :
    (w.alloc (.cells cs t)).ownsRow B t s (.slice (some ⟨b, 0, none⟩) n n) n rs.flatten := by
  subst hn hc hb
  have hl := flat_len hr
  exact ⟨hl, .inr ⟨w.heap.size, rs.length, rs.flatten.toArray, rfl, hB, heap_alloc_new w _, Nat.le_refl _, h, by simpa using hl, by rw [← hl, List.toList_toArray]; exact List.take_of_length_le (Nat.le_refl _)⟩⟩

def popM (l : List Tg) : Tg × List Tg × Int :=
  if mayL l = false then (⟨0, 0, false, 0⟩, [], 1) else match l with
  | [] => (⟨0, 0, false, 0⟩, [], 6)
  | t :: r => (t, r, 0)
/-- What the copy that Pop makes keeps up. -/
def cloI (n0 : Nat) (l : List Tg) (D : Nat → Prop) (s : List Value) (u : World) : Prop := n0 ≤ u.heap.size ∧ match s with
  | [] => True
  | v :: _ => u.ownsRow n0 67 4 v l.length (l.map tgc).flatten
theorem cloI_keeps (n0 : Nat) (l : List Tg) : Keeps (cloI n0 l) where
  quiet := fun D s u u' ⟨h1, h2⟩ hk => ⟨Nat.le_trans h1 hk.size, by
    cases s with
    | nil => trivial
    | cons v s => exact own_kept h2 hk (fun _ _ hf => hf)⟩
  make := fun D s u o ⟨h1, h2⟩ => ⟨by simp; omega, by
    cases s with
    | nil => trivial
    | cons v s => exact own_kept h2 ((Kept.refl Nil u).alloc o) (fun _ _ hf => hf)⟩

theorem blo_store4 {w : World} {g : Nat} {t : TypeId} {a0 a1 a2 a3 : Value} (h : Blo w g t #[a0, a1, a2, a3]) (b0 b1 b2 b3 : Value) :
    Blo ((((w.setCell ⟨g, 0, none⟩ b0).setCell ⟨g, 1, none⟩ b1).setCell ⟨g, 2, none⟩ b2).setCell ⟨g, 3, none⟩ b3) g t #[b0, b1, b2, b3] ∧ Kept (One g) w ((((w.setCell ⟨g, 0, none⟩ b0).setCell ⟨g, 1, none⟩ b1).setCell ⟨g, 2, none⟩ b2).setCell ⟨g, 3, none⟩ b3) :=
  ⟨by simpa using (((h.set 0 b0).set 1 b1).set 2 b2).set 3 b3, ((((Kept.refl (One g) w).put rfl _).put rfl _).put rfl _).put rfl _⟩

end Go.Proofs.Ythjfeanmgaidcaa
