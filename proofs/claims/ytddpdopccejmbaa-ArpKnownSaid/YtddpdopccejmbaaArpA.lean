/- Package arp: messages as plain data; contracts of what only computes. -/
import Derived.Test.YtddpdopccejmbaaAgg
import Derived.Test.YtddpdopccejmbaaPadC
import Derived.Test.YtddpdopccejmbaaCutC
import Derived.Deep.DeepCutAuto
import Derived.IntWalk
namespace Go.Proofs.Ytddpdopccejmbaa
open Go.RowKit Go.Sort
set_option linter.unusedVariables false

/-- A message: kind, from, its address, to, its address. -/
structure Pk where
  o : Nat
  f : List UInt8
  x : Nat
  t : List UInt8
  y : Nat
  deriving DecidableEq
structure Pk.ok (p : Pk) : Prop where
  o : p.o < 65536
  f : p.f.length = 6
  x : p.x < 4294967296
  t : p.t.length = 6
  y : p.y < 4294967296
def o6 : List UInt8 := [0, 0, 0, 0, 0, 0]
def Pk.zero : Pk := ⟨0, o6, 0, o6, 0⟩
theorem Pk.zero_ok : Pk.zero.ok := ⟨by decide, rfl, by decide, rfl, by decide⟩
def mayP (p : Pk) : Bool := decide (p.o = 1 ∨ p.o = 2)
def probesP (p : Pk) : Bool := decide (p.o = 1 ∧ p.x = 0)
def itselfP (p : Pk) : Bool := decide ((p.o = 1 ∨ p.o = 2) ∧ p.x = p.y ∧ p.x ≠ 0)
def replyP (p : Pk) (m : List UInt8) : Pk × Bool := if p.o = 1 then (⟨2, m, p.y, p.f, p.x⟩, true) else (Pk.zero, false)
theorem replyP_ok (p : Pk) (m : List UInt8) (h : p.ok) (hm : m.length = 6) : (replyP p m).1.ok := by
  unfold replyP
  split
  · exact ⟨show (2 : Nat) < 65536 by decide, hm, h.y, h.f, h.x⟩
  · exact Pk.zero_ok
/-- Its cells, the program's and the document's. -/
def pcs (p : Pk) : List Value := [.int .u16 (p.o : Int)] ++ (bys p.f ++ ([.int .u32 (p.x : Int)] ++ (bys p.t ++ [.int .u32 (p.y : Int)])))
def qcs (p : Pk) : List Value := [.int .i64 (p.o : Int)] ++ (bys p.f ++ (bys p.t ++ [.int .u32 (p.x : Int), .int .u32 (p.y : Int)]))
def pkv (p : Pk) : Value := .agg (pcs p).toArray
def qkv (p : Pk) : Value := .agg (qcs p).toArray
theorem pcs_len {p : Pk} (h : p.ok) : (pcs p).length = 15 := by simp only [pcs, List.length_append, bys_len, h.f, h.t, List.length_cons, List.length_nil]
theorem qcs_len {p : Pk} (h : p.ok) : (qcs p).length = 15 := by simp only [qcs, List.length_append, bys_len, h.f, h.t, List.length_cons, List.length_nil]
theorem pcs_one (p : Pk) : ∀ u ∈ pcs p, u.oneCell' = true := by
  intro u hu
  simp only [pcs, List.mem_append, List.mem_cons, List.not_mem_nil, or_false] at hu
  rcases hu with rfl | h | rfl | h | rfl
  · rfl
  · exact bys_one _ u h
  · rfl
  · exact bys_one _ u h
  · rfl
theorem qcs_one (p : Pk) : ∀ u ∈ qcs p, u.oneCell' = true := by
  intro u hu
  simp only [qcs, List.mem_append, List.mem_cons, List.not_mem_nil, or_false] at hu
  rcases hu with rfl | h | h | rfl | rfl
  · rfl
  · exact bys_one _ u h
  · exact bys_one _ u h
  · rfl
  · rfl
def PB (w : World) (g : Nat) (T : TypeId) (p : Pk) : Prop := Blo w g T (pcs p).toArray
def QB (w : World) (g : Nat) (T : TypeId) (p : Pk) : Prop := Blo w g T (qcs p).toArray
section
variable {w w' : World} {g : Nat} {T : TypeId} {p : Pk}
theorem PB.all (h : PB w g T p) : Row w g 0 (pcs p) := Blo.row [] _ [] (by rw [List.nil_append, List.append_nil]; exact h)
theorem QB.all (h : QB w g T p) : Row w g 0 (qcs p) := Blo.row [] _ [] (by rw [List.nil_append, List.append_nil]; exact h)
theorem PB.co (h : PB w g T p) : w.cell? ⟨g, 0, none⟩ = some (.int .u16 (p.o : Int)) := h.all 0 _ rfl
theorem QB.co (h : QB w g T p) : w.cell? ⟨g, 0, none⟩ = some (.int .i64 (p.o : Int)) := h.all 0 _ rfl
theorem PB.rf (h : PB w g T p) : Row w g 1 (bys p.f) :=
  Blo.row [.int .u16 (p.o : Int)] (bys p.f) ([.int .u32 (p.x : Int)] ++ (bys p.t ++ [.int .u32 (p.y : Int)])) (w := w) (g := g) (t := T) (by simpa [PB, pcs] using h)
theorem QB.rf (h : QB w g T p) : Row w g 1 (bys p.f) :=
  Blo.row [.int .i64 (p.o : Int)] (bys p.f) (bys p.t ++ [.int .u32 (p.x : Int), .int .u32 (p.y : Int)]) (w := w) (g := g) (t := T) (by simpa [QB, qcs] using h)
theorem PB.cx (h : PB w g T p) (hp : p.ok) : w.cell? ⟨g, 7, none⟩ = some (.int .u32 (p.x : Int)) := by
  have := Blo.row ([.int .u16 (p.o : Int)] ++ bys p.f) [.int .u32 (p.x : Int)] (bys p.t ++ [.int .u32 (p.y : Int)]) (w := w) (g := g) (t := T) (by simpa [PB, pcs] using h)
  rw [List.length_append, bys_len, hp.f] at this
  exact this 0 _ rfl
theorem PB.rt (h : PB w g T p) (hp : p.ok) : Row w g 8 (bys p.t) := by
  have := Blo.row ([.int .u16 (p.o : Int)] ++ bys p.f ++ [.int .u32 (p.x : Int)]) (bys p.t) [.int .u32 (p.y : Int)] (w := w) (g := g) (t := T) (by simpa [PB, pcs] using h)
  rwa [List.length_append, List.length_append, bys_len, hp.f] at this
theorem PB.cy (h : PB w g T p) (hp : p.ok) : w.cell? ⟨g, 14, none⟩ = some (.int .u32 (p.y : Int)) := by
  have := Blo.row ([.int .u16 (p.o : Int)] ++ bys p.f ++ [.int .u32 (p.x : Int)] ++ bys p.t) [.int .u32 (p.y : Int)] [] (w := w) (g := g) (t := T) (by simpa [PB, pcs] using h)
  rw [List.length_append, List.length_append, List.length_append, bys_len, bys_len, hp.f, hp.t] at this
  exact this 0 _ rfl
theorem QB.rt (h : QB w g T p) (hp : p.ok) : Row w g 7 (bys p.t) := by
  have := Blo.row ([.int .i64 (p.o : Int)] ++ bys p.f) (bys p.t) [.int .u32 (p.x : Int), .int .u32 (p.y : Int)] (w := w) (g := g) (t := T) (by simpa [QB, qcs] using h)
  rwa [List.length_append, bys_len, hp.f] at this
theorem QB.re (h : QB w g T p) (hp : p.ok) : Row w g 13 [.int .u32 (p.x : Int), .int .u32 (p.y : Int)] := by
  have := Blo.row ([.int .i64 (p.o : Int)] ++ bys p.f ++ bys p.t) [.int .u32 (p.x : Int), .int .u32 (p.y : Int)] [] (w := w) (g := g) (t := T) (by simpa [QB, qcs] using h)
  rwa [List.length_append, List.length_append, bys_len, bys_len, hp.f, hp.t] at this
theorem QB.cx (h : QB w g T p) (hp : p.ok) : w.cell? ⟨g, 13, none⟩ = some (.int .u32 (p.x : Int)) := h.re hp 0 _ rfl
theorem QB.cy (h : QB w g T p) (hp : p.ok) : w.cell? ⟨g, 14, none⟩ = some (.int .u32 (p.y : Int)) := h.re hp 1 _ rfl
theorem PB.kept {F : Nat → Prop} (h : PB w g T p) (k : Kept F w w') (hg : ¬ F g) : PB w' g T p := Blo.kept h k hg
theorem QB.kept {F : Nat → Prop} (h : QB w g T p) (k : Kept F w w') (hg : ¬ F g) : QB w' g T p := Blo.kept h k hg
theorem PB.new (w : World) (T : TypeId) (p : Pk) : PB (w.alloc (.cells (pcs p).toArray T)) w.heap.size T p := Blo.new w T _
theorem QB.new (w : World) (T : TypeId) (p : Pk) : QB (w.alloc (.cells (qcs p).toArray T)) w.heap.size T p := Blo.new w T _
theorem PB.lt (h : PB w g T p) : g < w.heap.size := Blo.lt h
theorem QB.lt (h : QB w g T p) : g < w.heap.size := Blo.lt h
/-- Stored anew as a whole. -/
theorem PB.of_all {p' : Pk} (hp : p.ok) (hp' : p'.ok) (h : Blo w g T ((pcs p).take 0 ++ pcs p' ++ (pcs p).drop (0 + (pcs p').length)).toArray) : PB w g T p' := by
  rw [pcs_len hp', List.drop_of_length_le (by rw [pcs_len hp]; omega)] at h
  simpa [PB] using h
theorem QB.of_all {p' : Pk} (hp : p.ok) (hp' : p'.ok) (h : Blo w g T ((qcs p).take 0 ++ qcs p' ++ (qcs p).drop (0 + (qcs p').length)).toArray) : QB w g T p' := by
  rw [qcs_len hp', List.drop_of_length_le (by rw [qcs_len hp]; omega)] at h
  simpa [QB] using h
end
theorem infP (p : Pk) (h : p.ok) : (Try.prog.info? 49).map (·.size) = some (pcs p).length := by rw [pcs_len h]; kernel_rfl
theorem infQ (p : Pk) (h : p.ok) : (Try.prog.info? 53).map (·.size) = some (qcs p).length := by rw [qcs_len h]; kernel_rfl
theorem infM (l : List UInt8) (h : l.length = 6) : (Try.prog.info? 23).map (·.size) = some (bys l).length := by rw [bys_len, h]; exact infA6
theorem infN (l : List UInt8) (h : l.length = 6) : (Try.prog.info? 22).map (·.size) = some (bys l).length := by rw [bys_len, h]; exact infB6

theorem int_eq (a b : Nat) : ((a : Int) == (b : Int)) = decide (a = b) := by rw [Bool.eq_iff_iff]; simp; omega
/-- Messages are told apart. -/
theorem eq_pk (p q : Pk) (hp : p.ok) (hq : q.ok) (w : World) : (Op.equalIn 10000 49 (pkv p) (pkv q)).run Try.prog w = .ok (decide (p = q)) w := by
  unfold pkv
  rw [run_equalIn_struct w 9999 49 _ _ (by kernel_rfl) (by kernel_rfl)]
  simp only [Program.fieldsOf, Try.underlying49]
  have s1 : ∀ p : Pk, pcs p = ([.int .u16 (p.o : Int)] ++ bys p.f) ++ (.int .u32 (p.x : Int) :: (bys p.t ++ [.int .u32 (p.y : Int)])) := fun p => by simp [pcs]
  have s2 : ∀ p : Pk, pcs p = ([.int .u16 (p.o : Int)] ++ bys p.f ++ [.int .u32 (p.x : Int)]) ++ (bys p.t ++ [.int .u32 (p.y : Int)]) := fun p => by simp [pcs]
  have s3 : ∀ p : Pk, pcs p = ([.int .u16 (p.o : Int)] ++ bys p.f ++ [.int .u32 (p.x : Int)] ++ bys p.t) ++ (.int .u32 (p.y : Int) :: []) := fun p => by simp [pcs]
  have l1 : ∀ p : Pk, p.ok → ([Value.int .u16 (p.o : Int)] ++ bys p.f).length = 7 := fun p h => by simp [bys_len, h.f]
  have l2 : ∀ p : Pk, p.ok → ([Value.int .u16 (p.o : Int)] ++ bys p.f ++ [Value.int .u32 (p.x : Int)]).length = 8 := fun p h => by simp [bys_len, h.f]
  have l3 : ∀ p : Pk, p.ok → ([Value.int .u16 (p.o : Int)] ++ bys p.f ++ [Value.int .u32 (p.x : Int)] ++ bys p.t).length = 14 := fun p h => by simp [bys_len, h.f, h.t]
  show (Op.eqFields 9999 (pcs p).toArray (pcs q).toArray _).run Try.prog w = _
  have hd : decide (p = q) = (decide (p.o = q.o) && ((p.f == q.f) && (decide (p.x = q.x) && ((p.t == q.t) && (decide (p.y = q.y) && true))))) := by
    rw [Bool.eq_iff_iff]
    obtain ⟨o, f, x, t, y⟩ := p
    obtain ⟨o', f', x', t', y'⟩ := q
    simp
  rw [hd]
  refine eqFields_step (.int .u16 (p.o : Int)) (.int .u16 (q.o : Int)) (by simp) ?_ ?_ ?_ ?_
  · exact (part_one [] _ (.int .u16 (p.o : Int)) 0 rfl Try.underlying45 rfl)
  · exact (part_one [] _ (.int .u16 (q.o : Int)) 0 rfl Try.underlying45 rfl)
  · exact (by rw [run_equalIn_int _ _ _ _ _ _ _ Try.underlying45, int_eq])
  refine eqFields_step (.agg (bys p.f).toArray) (.agg (bys q.f).toArray) (by simp) ?_ ?_ ?_ ?_
  · exact (part_row [.int .u16 (p.o : Int)] (bys p.f) _ 1 rfl Try.underlying23 rfl (infM _ hp.f))
  · exact (part_row [.int .u16 (q.o : Int)] (bys q.f) _ 1 rfl Try.underlying23 rfl (infM _ hq.f))
  · exact (run_equalIn_bytes w 9997 23 5 6 Try.underlying23 Try.underlying5 siz5 _ _ hp.f hq.f)
  refine eqFields_step (.int .u32 (p.x : Int)) (.int .u32 (q.x : Int)) (by simp) ?_ ?_ ?_ ?_
  · exact (by rw [s1 p]; exact part_one _ _ _ 7 (l1 p hp) Try.underlying47 rfl)
  · exact (by rw [s1 q]; exact part_one _ _ _ 7 (l1 q hq) Try.underlying47 rfl)
  · exact (by rw [run_equalIn_int _ _ _ _ _ _ _ Try.underlying47, int_eq])
  refine eqFields_step (.agg (bys p.t).toArray) (.agg (bys q.t).toArray) (by simp) ?_ ?_ ?_ ?_
  · exact (by rw [s2 p]; exact part_row _ _ _ 8 (l2 p hp) Try.underlying23 rfl (infM _ hp.t))
  · exact (by rw [s2 q]; exact part_row _ _ _ 8 (l2 q hq) Try.underlying23 rfl (infM _ hq.t))
  · exact (run_equalIn_bytes w 9997 23 5 6 Try.underlying23 Try.underlying5 siz5 _ _ hp.t hq.t)
  refine eqFields_step (.int .u32 (p.y : Int)) (.int .u32 (q.y : Int)) (by simp) ?_ ?_ ?_ ?_
  · exact (by rw [s3 p]; exact part_one _ _ _ 14 (l3 p hp) Try.underlying47 rfl)
  · exact (by rw [s3 q]; exact part_one _ _ _ 14 (l3 q hq) Try.underlying47 rfl)
  · exact (by rw [run_equalIn_int _ _ _ _ _ _ _ Try.underlying47, int_eq])
  rfl
/-- So are the document's. -/
theorem eq_qk (p q : Pk) (hp : p.ok) (hq : q.ok) (w : World) : (Op.equalIn 10000 53 (qkv p) (qkv q)).run Try.prog w = .ok (decide (p = q)) w := by
  unfold qkv
  rw [run_equalIn_struct w 9999 53 _ _ (by kernel_rfl) (by kernel_rfl)]
  simp only [Program.fieldsOf, Try.underlying53]
  have s2 : ∀ p : Pk, qcs p = ([.int .i64 (p.o : Int)] ++ bys p.f) ++ (bys p.t ++ [.int .u32 (p.x : Int), .int .u32 (p.y : Int)]) := fun p => by simp [qcs]
  have s1 : ∀ p : Pk, qcs p = ([.int .i64 (p.o : Int)] ++ bys p.f ++ bys p.t) ++ (.int .u32 (p.x : Int) :: [.int .u32 (p.y : Int)]) := fun p => by simp [qcs]
  have s3 : ∀ p : Pk, qcs p = ([.int .i64 (p.o : Int)] ++ bys p.f ++ bys p.t ++ [.int .u32 (p.x : Int)]) ++ (.int .u32 (p.y : Int) :: []) := fun p => by simp [qcs]
  have l2 : ∀ p : Pk, p.ok → ([Value.int .i64 (p.o : Int)] ++ bys p.f).length = 7 := fun p h => by simp [bys_len, h.f]
  have l1 : ∀ p : Pk, p.ok → ([Value.int .i64 (p.o : Int)] ++ bys p.f ++ bys p.t).length = 13 := fun p h => by simp [bys_len, h.f, h.t]
  have l3 : ∀ p : Pk, p.ok → ([Value.int .i64 (p.o : Int)] ++ bys p.f ++ bys p.t ++ [Value.int .u32 (p.x : Int)]).length = 14 := fun p h => by simp [bys_len, h.f, h.t]
  show (Op.eqFields 9999 (qcs p).toArray (qcs q).toArray _).run Try.prog w = _
  have hd : decide (p = q) = (decide (p.o = q.o) && ((p.f == q.f) && ((p.t == q.t) && (decide (p.x = q.x) && (decide (p.y = q.y) && true))))) := by
    rw [Bool.eq_iff_iff]
    obtain ⟨o, f, x, t, y⟩ := p
    obtain ⟨o', f', x', t', y'⟩ := q
    simp only [Pk.mk.injEq, decide_eq_true_eq, Bool.and_eq_true, beq_iff_eq, and_true]
    constructor
    · rintro ⟨h1, h2, h3, h4, h5⟩; exact ⟨h1, h2, h4, h3, h5⟩
    · rintro ⟨h1, h2, h4, h3, h5⟩; exact ⟨h1, h2, h3, h4, h5⟩
  rw [hd]
  refine eqFields_step (.int .i64 (p.o : Int)) (.int .i64 (q.o : Int)) (by simp) ?_ ?_ ?_ ?_
  · exact (part_one [] _ (.int .i64 (p.o : Int)) 0 rfl Try.underlying3 rfl)
  · exact (part_one [] _ (.int .i64 (q.o : Int)) 0 rfl Try.underlying3 rfl)
  · exact (by rw [run_equalIn_int _ _ _ _ _ _ _ Try.underlying3, int_eq])
  refine eqFields_step (.agg (bys p.f).toArray) (.agg (bys q.f).toArray) (by simp) ?_ ?_ ?_ ?_
  · exact (part_row [.int .i64 (p.o : Int)] (bys p.f) _ 1 rfl Try.underlying22 rfl (infN _ hp.f))
  · exact (part_row [.int .i64 (q.o : Int)] (bys q.f) _ 1 rfl Try.underlying22 rfl (infN _ hq.f))
  · exact (run_equalIn_bytes w 9997 22 5 6 Try.underlying22 Try.underlying5 siz5 _ _ hp.f hq.f)
  refine eqFields_step (.agg (bys p.t).toArray) (.agg (bys q.t).toArray) (by simp) ?_ ?_ ?_ ?_
  · exact (by rw [s2 p]; exact part_row _ _ _ 7 (l2 p hp) Try.underlying22 rfl (infN _ hp.t))
  · exact (by rw [s2 q]; exact part_row _ _ _ 7 (l2 q hq) Try.underlying22 rfl (infN _ hq.t))
  · exact (run_equalIn_bytes w 9997 22 5 6 Try.underlying22 Try.underlying5 siz5 _ _ hp.t hq.t)
  refine eqFields_step (.int .u32 (p.x : Int)) (.int .u32 (q.x : Int)) (by simp) ?_ ?_ ?_ ?_
  · exact (by rw [s1 p]; exact part_one _ _ _ 13 (l1 p hp) Try.underlying46 rfl)
  · exact (by rw [s1 q]; exact part_one _ _ _ 13 (l1 q hq) Try.underlying46 rfl)
  · exact (by rw [run_equalIn_int _ _ _ _ _ _ _ Try.underlying46, int_eq])
  refine eqFields_step (.int .u32 (p.y : Int)) (.int .u32 (q.y : Int)) (by simp) ?_ ?_ ?_ ?_
  · exact (by rw [s3 p]; exact part_one _ _ _ 14 (l3 p hp) Try.underlying46 rfl)
  · exact (by rw [s3 q]; exact part_one _ _ _ 14 (l3 q hq) Try.underlying46 rfl)
  · exact (by rw [run_equalIn_int _ _ _ _ _ _ _ Try.underlying46, int_eq])
  rfl

theorem pmay_yes (p : Pk) (hp : p.ok) (w : World) : Calls Try.prog 26 #[pkv p] w fun e w' => e = .returned (.bool (mayP p)) ∧ Kept Nil w w' := by
  have hP := PB.new w 49 p
  have hk := (Kept.refl Nil w).alloc (.cells (pcs p).toArray 49)
  go_enter Try.func26, Try.ntmps26
  go_upto_region 1 with (fail)
  refine wp_nameE (fun W => PB W w.heap.size 49 p ∧ Kept Nil w W) ⟨hP, hk⟩ ?_
  clear hP hk
  rintro W ⟨hP, hk⟩
  have c0 := hP.co
  have HK := Lib.hid hk
  clear hP hk
  by_cases h1 : p.o = 1
  · have b1 : ((p.o : Int) == 1) = true := by simp; omega
    have hm : mayP p = true := by unfold mayP; simp [h1]
    have HM := Lib.hid hm
    clear h1 hm
    go_wp2
    go_ret
    exact ⟨by rw [HM.out]; first | done | rfl, HK.out⟩
  · have b1 : ((p.o : Int) == 1) = false := by simp; omega
    by_cases h2 : p.o = 2
    · have b2 : ((p.o : Int) == 2) = true := by simp; omega
      have hm : mayP p = true := by unfold mayP; simp [h2]
      have HM := Lib.hid hm
      clear h1 h2 hm
      go_wp2
      go_ret
      exact ⟨by rw [HM.out]; first | done | rfl, HK.out⟩
    · have b2 : ((p.o : Int) == 2) = false := by simp; omega
      have hm : mayP p = false := by unfold mayP; simp [h1, h2]
      have HM := Lib.hid hm
      clear h1 h2 hm
      go_wp2
      go_ret
      exact ⟨by rw [HM.out]; first | done | rfl, HK.out⟩
theorem probes_yes (p : Pk) (hp : p.ok) (w : World) : Calls Try.prog 27 #[pkv p] w fun e w' => e = .returned (.bool (probesP p)) ∧ Kept Nil w w' := by
  have hP := PB.new w 49 p
  have hk := (Kept.refl Nil w).alloc (.cells (pcs p).toArray 49)
  go_enter Try.func27, Try.ntmps27
  go_upto_region 1 with (fail)
  refine wp_nameE (fun W => PB W w.heap.size 49 p ∧ Kept Nil w W) ⟨hP, hk⟩ ?_
  clear hP hk
  rintro W ⟨hP, hk⟩
  have c0 := hP.co
  have c1 := hP.cx hp
  have HK := Lib.hid hk
  clear hP hk
  by_cases h1 : p.o = 1
  · have b1 : ((p.o : Int) == 1) = true := by simp; omega
    have b2 : ((p.x : Int) == 0) = probesP p := by unfold probesP; rw [Bool.eq_iff_iff]; simp [h1]
    clear h1
    go_wp2
    go_ret
    exact ⟨rfl, HK.out⟩
  · have b1 : ((p.o : Int) == 1) = false := by simp; omega
    have hm : probesP p = false := by unfold probesP; simp [h1]
    have HM := Lib.hid hm
    clear h1 hm
    go_wp2
    go_ret
    exact ⟨by rw [HM.out]; first | done | rfl, HK.out⟩
theorem rprobes_yes (p : Pk) (hp : p.ok) (w : World) : Calls Try.prog 28 #[qkv p] w fun e w' => e = .returned (.bool (probesP p)) ∧ Kept Nil w w' := by
  have hP := QB.new w 53 p
  have hk := (Kept.refl Nil w).alloc (.cells (qcs p).toArray 53)
  go_enter Try.func28, Try.ntmps28
  go_upto_region 1 with (fail)
  refine wp_nameE (fun W => QB W w.heap.size 53 p ∧ Kept Nil w W) ⟨hP, hk⟩ ?_
  clear hP hk
  rintro W ⟨hP, hk⟩
  have c0 := hP.co
  have c1 := hP.cx hp
  have HK := Lib.hid hk
  clear hP hk
  by_cases h1 : p.o = 1
  · have b1 : ((p.o : Int) == 1) = true := by simp; omega
    have b2 : ((p.x : Int) == 0) = probesP p := by unfold probesP; rw [Bool.eq_iff_iff]; simp [h1]
    clear h1
    go_wp2
    go_ret
    exact ⟨rfl, HK.out⟩
  · have b1 : ((p.o : Int) == 1) = false := by simp; omega
    have hm : probesP p = false := by unfold probesP; simp [h1]
    have HM := Lib.hid hm
    clear h1 hm
    go_wp2
    go_ret
    exact ⟨by rw [HM.out]; first | done | rfl, HK.out⟩

theorem itself_yes (p : Pk) (hp : p.ok) (w : World) : Calls Try.prog 29 #[pkv p] w fun e w' => e = .returned (.bool (itselfP p)) ∧ Kept Nil w w' := by
  have hP := PB.new w 49 p
  have hk := (Kept.refl Nil w).alloc (.cells (pcs p).toArray 49)
  go_enter Try.func29, Try.ntmps29
  go_upto_region 1 with (fail)
  refine wp_nameE (fun W => PB W w.heap.size 49 p ∧ Kept Nil w W) ⟨hP, hk⟩ ?_
  clear hP hk
  rintro W ⟨hP, hk⟩
  have HK := Lib.hid hk
  have HP := Lib.hid hP
  clear hP hk
  go_wp2_with (first | (refine wpList_ld rfl _ _ rfl w.heap.size 0 rfl (pcs p) HP.out.all _ Try.underlying49 rfl (infP p hp) ?_) | fail)
  refine (pmay_yes p hp _).mono ?_
  rintro e w2 ⟨rfl, hk2⟩
  have hP2 := HP.out.kept hk2 (fun hf => hf)
  have c1 := hP2.cx hp
  have c2 := hP2.cy hp
  have HK2 := Lib.hid (HK.out.then hk2)
  clear hk2 hP2 HP HK
  cases hm : mayP p
  · have HM := Lib.hid (show itselfP p = false by unfold mayP at hm; unfold itselfP; simp at hm ⊢; intro h; omega)
    clear hm
    go_wp2
    go_ret
    exact ⟨by rw [HM.out]; first | done | rfl, HK2.out⟩
  · by_cases hx : p.x = p.y
    · have b1 : ((p.x : Int) == (p.y : Int)) = true := by simp; omega
      have b2 : ((p.x : Int) != 0) = itselfP p := by unfold mayP at hm; unfold itselfP; rw [Bool.eq_iff_iff]; simp at hm ⊢; omega
      clear hm hx
      go_wp2
      go_ret
      exact ⟨rfl, HK2.out⟩
    · have b1 : ((p.x : Int) == (p.y : Int)) = false := by simp; omega
      have HM := Lib.hid (show itselfP p = false by unfold itselfP; simp; intro _ h; exact absurd h hx)
      clear hm hx
      go_wp2
      go_ret
      exact ⟨by rw [HM.out]; first | done | rfl, HK2.out⟩

theorem ritself_yes (p : Pk) (hp : p.ok) (w : World) : Calls Try.prog 30 #[qkv p] w fun e w' => e = .returned (.bool (itselfP p)) ∧ Kept Nil w w' := by
  have hP := QB.new w 53 p
  have hk := (Kept.refl Nil w).alloc (.cells (qcs p).toArray 53)
  go_enter Try.func30, Try.ntmps30
  go_upto_region 1 with (fail)
  refine wp_nameE (fun W => QB W w.heap.size 53 p ∧ Kept Nil w W) ⟨hP, hk⟩ ?_
  clear hP hk
  rintro W ⟨hP, hk⟩
  have c0 := hP.co
  have c1 := hP.cx hp
  have c2 := hP.cy hp
  have HK2 := Lib.hid hk
  clear hP hk
  by_cases hx : p.x = p.y
  · have b4 : ((p.x : Int) == (p.y : Int)) = true := by simp; omega
    by_cases h1 : p.o = 1
    · have b1 : ((p.o : Int) == 1) = true := by simp; omega
      have b3 : ((p.y : Int) != 0) = itselfP p := by unfold itselfP; rw [Bool.eq_iff_iff]; simp [h1]; omega
      clear hx h1
      go_wp2
      go_ret
      exact ⟨rfl, HK2.out⟩
    · have b1 : ((p.o : Int) == 1) = false := by simp; omega
      by_cases h2 : p.o = 2
      · have b2 : ((p.o : Int) == 2) = true := by simp; omega
        have b3 : ((p.y : Int) != 0) = itselfP p := by unfold itselfP; rw [Bool.eq_iff_iff]; simp [h2]; omega
        clear hx h1 h2
        go_wp2
        go_ret
        exact ⟨rfl, HK2.out⟩
      · have b2 : ((p.o : Int) == 2) = false := by simp; omega
        have HM := Lib.hid (show itselfP p = false by unfold itselfP; simp [h1, h2])
        clear hx h1 h2
        go_wp2
        go_ret
        exact ⟨by rw [HM.out]; first | done | rfl, HK2.out⟩
  · have b4 : ((p.x : Int) == (p.y : Int)) = false := by simp; omega
    have HM := Lib.hid (show itselfP p = false by unfold itselfP; simp; intro _ h; exact absurd h hx)
    clear hx
    by_cases h1 : p.o = 1
    · have b1 : ((p.o : Int) == 1) = true := by simp; omega
      clear h1
      go_wp2
      go_ret
      exact ⟨by rw [HM.out]; first | done | rfl, HK2.out⟩
    · have b1 : ((p.o : Int) == 1) = false := by simp; omega
      by_cases h2 : p.o = 2
      · have b2 : ((p.o : Int) == 2) = true := by simp; omega
        clear h1 h2
        go_wp2
        go_ret
        exact ⟨by rw [HM.out]; first | done | rfl, HK2.out⟩
      · have b2 : ((p.o : Int) == 2) = false := by simp; omega
        clear h1 h2
        go_wp2
        go_ret
        exact ⟨by rw [HM.out]; first | done | rfl, HK2.out⟩
end Go.Proofs.Ytddpdopccejmbaa
