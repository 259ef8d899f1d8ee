/- Texts that belong together, one behind the other: EthA, ArpA. Conditions: those of each. -/
import Derived.Test.YthjfeanmgaidcaaMg23
import Derived.Test.YthjfeanmgaidcaaMg24
import Derived.Test.YthjfeanmgaidcaaMg3
import Derived.Test.YthjfeanmgaidcaaMg13
import Derived.Test.YthjfeanmgaidcaaMg8
import Derived.Deep.DeepCutAuto
import Derived.IntWalk
/- Package ether: contracts of what reads: three, isSnap, isZero, readCounted, readCarried, read, Get, Behind. -/
namespace Go.Proofs.Ythjfeanmgaidcaa
open Go.RowKit Go.Sort
set_option linter.unusedVariables false

theorem eq_arr3 (l m : List UInt8) (hl : l.length = 3) (hm : m.length = 3) (w : World) : (Op.equalIn 10000 55 (.agg (bys l).toArray) (.agg (bys m).toArray)).run Try.prog w = .ok (l == m) w :=
  run_equalIn_bytes w 9998 55 5 3 Try.underlying55 Try.underlying5 siz5 l m hl hm
theorem inf3 : (Try.prog.info? 55).map (·.size) = some 3 := by kernel_rfl
theorem infm : (Try.prog.info? 26).map (·.size) = some 6 := by kernel_rfl
theorem infF : (Try.prog.info? 57).map (·.size) = some 23 := by kernel_rfl

theorem isSnap_yes (l : List UInt8) (h : l.length = 3) (w : World) : Calls Try.prog 73 #[.agg (bys l).toArray] w fun e w' => e = .returned (.bool (decide (l = snapL))) ∧ Kept Nil w w' := by
  obtain ⟨a, b, c, rfl⟩ := len3 h
  have he := eq_arr3 [a, b, c] snapL rfl rfl
  rw [show ([a, b, c] == snapL) = decide ([a, b, c] = snapL) by rw [Bool.eq_iff_iff]; simp] at he
  generalize decide ([a, b, c] = snapL) = r at *
  have heq : ∀ w, (Op.equalIn 10000 55 (.agg #[.int .u8 (a.toNat : Int), .int .u8 (b.toNat : Int), .int .u8 (c.toNat : Int)]) (.agg #[.int .u8 170, .int .u8 170, .int .u8 3])).run Try.prog w = .ok r w := he
  show Calls _ _ #[.agg #[.int .u8 (a.toNat : Int), .int .u8 (b.toNat : Int), .int .u8 (c.toNat : Int)]] _ _
  clear he
  go_enter Try.func73, Try.ntmps73
  go_wp2
  go_ret
  exact ⟨rfl, (Kept.refl Nil w).alloc _⟩
theorem isZero_yes (l : List UInt8) (h : l.length = 3) (w : World) : Calls Try.prog 72 #[.agg (bys l).toArray] w fun e w' => e = .returned (.bool (decide (l = z3))) ∧ Kept Nil w w' := by
  obtain ⟨a, b, c, rfl⟩ := len3 h
  have he := eq_arr3 [a, b, c] z3 rfl rfl
  rw [show ([a, b, c] == z3) = decide ([a, b, c] = z3) by rw [Bool.eq_iff_iff]; simp] at he
  generalize decide ([a, b, c] = z3) = r at *
  have heq : ∀ w, (Op.equalIn 10000 55 (.agg #[.int .u8 (a.toNat : Int), .int .u8 (b.toNat : Int), .int .u8 (c.toNat : Int)]) (.agg #[.int .u8 0, .int .u8 0, .int .u8 0])).run Try.prog w = .ok r w := he
  show Calls _ _ #[.agg #[.int .u8 (a.toNat : Int), .int .u8 (b.toNat : Int), .int .u8 (c.toNat : Int)]] _ _
  clear he
  go_enter Try.func72, Try.ntmps72
  go_wp2
  go_ret
  exact ⟨rfl, (Kept.refl Nil w).alloc _⟩

/-- Three bytes taken; 0 for what is not there. -/
def thrM (s : Cst) : List UInt8 × Cst := ([(takeM s 1).1.headD 0, (takeM (takeM s 1).2 1).1.headD 0, (takeM (takeM (takeM s 1).2 1).2 1).1.headD 0], (takeM (takeM (takeM s 1).2 1).2 1).2)
theorem head_num (s : Cst) : (numM (takeM s 1).1 : Int) = (((takeM s 1).1.headD 0).toNat : Int) := by
  have h : (takeM s 1).1.length ≤ 1 := takeM_len2 s 1
  match (takeM s 1).1, h with
  | [], _ => rfl
  | [x], _ => simp [numM]
theorem thr_ok (l : List UInt8) (k : Nat) (h : k + 3 ≤ l.length) : thrM ⟨l, k, 0⟩ = ((l.drop k).take 3, ⟨l, k + 3, 0⟩) := by
  have e1 := takeM_ok l k 1 (by omega)
  have e2 := takeM_ok l (k + 1) 1 (by omega)
  have e3 := takeM_ok l (k + 1 + 1) 1 (by omega)
  unfold thrM
  rw [show ((1 : Nat) : Int) = 1 from rfl] at e1 e2 e3
  rw [e1, e2, e3]
  simp only [Prod.mk.injEq, and_true]
  rw [show l.drop (k + 1) = (l.drop k).drop 1 by rw [List.drop_drop], show l.drop (k + 1 + 1) = (l.drop k).drop 2 by rw [List.drop_drop]]
  have h3 : 3 ≤ (l.drop k).length := by simp; omega
  match l.drop k, h3 with
  | a :: b :: c :: r, _ => rfl
theorem takeM_er (s : Cst) (h : s.er ≠ 0) (x : Int) : takeM s x = ([], s) := by
  obtain ⟨l, k, er⟩ := s
  exact takeM_err l k er h x
theorem thr_err (s : Cst) (h : s.er ≠ 0) : (thrM s).2 = s := by
  unfold thrM
  simp only [takeM_er s h]
theorem thr_short (l : List UInt8) (k : Nat) (hk : k ≤ l.length) (h : l.length < k + 3) : (thrM ⟨l, k, 0⟩).2.er ≠ 0 := by
  unfold thrM
  simp only
  by_cases h0 : l.length < k + 1
  · have e := takeM_short l k 1 hk h0
    rw [show ((1 : Nat) : Int) = 1 from rfl] at e
    rw [e]
    simp only
    rw [takeM_err l k 4 (by decide), takeM_err l k 4 (by decide)]
    exact (by decide : (4 : Int) ≠ 0)
  · have e := takeM_ok l k 1 (by omega)
    rw [show ((1 : Nat) : Int) = 1 from rfl] at e
    rw [e]
    simp only
    by_cases h1 : l.length < k + 1 + 1
    · have e := takeM_short l (k + 1) 1 (by omega) h1
      rw [show ((1 : Nat) : Int) = 1 from rfl] at e
      rw [e]
      simp only
      rw [takeM_err l (k + 1) 4 (by decide)]
      exact (by decide : (4 : Int) ≠ 0)
    · have e := takeM_ok l (k + 1) 1 (by omega)
      rw [show ((1 : Nat) : Int) = 1 from rfl] at e
      rw [e]
      simp only
      have e := takeM_short l (k + 1 + 1) 1 (by omega) (by omega)
      rw [show ((1 : Nat) : Int) = 1 from rfl] at e
      rw [e]
      exact (by decide : (4 : Int) ≠ 0)

theorem three_yes (g : Nat) (A : Option Addr) (n c : Nat) (s : Cst) (w : World) (h : Cutr w g A n c s) :
    Calls Try.prog 88 #[.pointer (some ⟨g, 0, none⟩)] w fun e w' => e = .returned (.agg (bys (thrM s).1).toArray) ∧ Cutr w' g A n c (thrM s).2 ∧ Kept (One g) w w' := by
  have hb := (Blo.new w 55 #[.int .u8 0, .int .u8 0, .int .u8 0])
  have hk0 : Kept (One g) w (w.alloc (.cells #[.int .u8 0, .int .u8 0, .int .u8 0] 55)) := (Kept.refl _ w).alloc _
  have hc := h.kept ((Kept.refl Nil w).alloc (.cells #[.int .u8 0, .int .u8 0, .int .u8 0] 55)) (fun hf => hf) (fun _ _ hf => hf)
  have hg : w.heap.size ≠ g := fun e => Nat.lt_irrefl _ (e ▸ h.blo.lt)
  have HB := Lib.hid hb
  have HK0 := Lib.hid hk0
  have HC := Lib.hid hc
  have HG := Lib.hid hg
  have HL := Lib.hid h.byt.lt
  have hn0 := head_num s
  have hn1 := head_num (takeM s 1).2
  have hn2 := head_num (takeM (takeM s 1).2 1).2
  unfold thrM
  generalize (takeM s 1).1.headD 0 = x0 at *
  generalize (takeM (takeM s 1).2 1).1.headD 0 = x1 at *
  generalize (takeM (takeM (takeM s 1).2 1).2 1).1.headD 0 = x2 at *
  have HN0 := Lib.hid hn0
  have HN1 := Lib.hid hn1
  have HN2 := Lib.hid hn2
  clear hn0 hn1 hn2
  clear hb hk0 hc hg h
  go_enter Try.func88, Try.ntmps88
  go_wp2_with fail
  refine (Byte_yes _ _ _ _ _ _ HC.out).mono ?_
  rintro e w1 ⟨rfl, hc, hk⟩
  rw [HN0.out]
  have HC1 := Lib.hid hc
  have HK1 := Lib.hid (HK0.out.same hk)
  have HB1 := Lib.hid (HB.out.kept hk (fun hf => HG.out hf))
  clear hc hk
  go_wp2_with fail
  refine (Byte_yes _ _ _ _ _ _ HC1.out).mono ?_
  rintro e w2 ⟨rfl, hc, hk⟩
  rw [HN1.out]
  have HC2 := Lib.hid hc
  have HK2 := Lib.hid (HK1.out.same hk)
  have HB2 := Lib.hid (HB1.out.kept hk (fun hf => HG.out hf))
  clear hc hk
  go_wp2_with fail
  refine (Byte_yes _ _ _ _ _ _ HC2.out).mono ?_
  rintro e w3 ⟨rfl, hc, hk⟩
  rw [HN2.out]
  have HC3 := Lib.hid hc
  have HK3 := Lib.hid (HK2.out.same hk)
  have HB3 := Lib.hid (HB2.out.kept hk (fun hf => HG.out hf))
  clear hc hk
  have f0 := HB3.out.frozen 0
  have f1 := HB3.out.frozen 1
  have f2 := HB3.out.frozen 2
  have c0 := HB3.out.cell 0
  have c1 := HB3.out.cell 1
  have c2 := HB3.out.cell 2
  simp at c0 c1 c2
  go_wp2
  refine bodyPost_ret (v := .agg #[.int .u8 x0.toNat, .int .u8 x1.toNat, .int .u8 x2.toNat]) (by simp [results, Try.results88, go_sem, c0, c1, c2]) rfl ⟨rfl, ?_, ?_⟩
  · exact HC3.out.kept ((((Kept.refl (One w.heap.size) w3).put rfl _).put rfl _).put rfl _) (fun hf => HG.out (by unfold One at hf; exact hf.symm)) (fun i hi hf => by cases hf; exact Nat.lt_irrefl _ (HL.out _ hi))
  · exact ((HK3.out.fresh (((((Kept.refl (One w.heap.size) w3).put rfl _).put rfl _).put rfl _)) (fun i hi => by cases hi; exact Nat.le_refl _)))
end Go.Proofs.Ythjfeanmgaidcaa
/- Package arp: messages as plain data; contracts of what only computes. -/
namespace Go.Proofs.Ythjfeanmgaidcaa
open Go.RowKit Go.Sort
set_option linter.unusedVariables false

/-- A message: kind, from, its address, to, its address. -/
structure Pk where
  o : Nat
  f : List UInt8
  x : Nat
  t : List UInt8
  y : Nat
  deriving DecidableEq
structure Pk.ok (p : Pk) : Prop where
  o : p.o < 65536
  f : p.f.length = 6
  x : p.x < 4294967296
  t : p.t.length = 6
  y : p.y < 4294967296
def o6 : List UInt8 := [0, 0, 0, 0, 0, 0]
def Pk.zero : Pk := ⟨0, o6, 0, o6, 0⟩
theorem Pk.zero_ok : Pk.zero.ok := ⟨by decide, rfl, by decide, rfl, by decide⟩
def mayP (p : Pk) : Bool := decide (p.o = 1 ∨ p.o = 2)
def probesP (p : Pk) : Bool := decide (p.o = 1 ∧ p.x = 0)
def itselfP (p : Pk) : Bool := decide ((p.o = 1 ∨ p.o = 2) ∧ p.x = p.y ∧ p.x ≠ 0)
def replyP (p : Pk) (m : List UInt8) : Pk × Bool := if p.o = 1 then (⟨2, m, p.y, p.f, p.x⟩, true) else (Pk.zero, false)
theorem replyP_ok (p : Pk) (m : List UInt8) (h : p.ok) (hm : m.length = 6) : (replyP p m).1.ok := by
  unfold replyP
  split
  · exact ⟨show (2 : Nat) < 65536 by decide, hm, h.y, h.f, h.x⟩
  · exact Pk.zero_ok
/-- Its cells, the program's and the document's. -/
def pcs (p : Pk) : List Value := [.int .u16 (p.o : Int)] ++ (bys p.f ++ ([.int .u32 (p.x : Int)] ++ (bys p.t ++ [.int .u32 (p.y : Int)])))
def qcs (p : Pk) : List Value := [.int .i64 (p.o : Int)] ++ (bys p.f ++ (bys p.t ++ [.int .u32 (p.x : Int), .int .u32 (p.y : Int)]))
def pkv (p : Pk) : Value := .agg (pcs p).toArray
def qkv (p : Pk) : Value := .agg (qcs p).toArray
theorem pcs_len {p : Pk} (h : p.ok) : (pcs p).length = 15 := by simp only [pcs, List.length_append, bys_len, h.f, h.t, List.length_cons, List.length_nil]
theorem qcs_len {p : Pk} (h : p.ok) : (qcs p).length = 15 := by simp only [qcs, List.length_append, bys_len, h.f, h.t, List.length_cons, List.length_nil]
theorem pcs_one (p : Pk) : ∀ u ∈ pcs p, u.oneCell' = true := by
  intro u hu
  simp only [pcs, List.mem_append, List.mem_cons, List.not_mem_nil, or_false] at hu
  rcases hu with rfl | h | rfl | h | rfl
  · rfl
  · exact bys_one _ u h
  · rfl
  · exact bys_one _ u h
  · rfl
theorem qcs_one (p : Pk) : ∀ u ∈ qcs p, u.oneCell' = true := by
  intro u hu
  simp only [qcs, List.mem_append, List.mem_cons, List.not_mem_nil, or_false] at hu
  rcases hu with rfl | h | h | rfl | rfl
  · rfl
  · exact bys_one _ u h
  · exact bys_one _ u h
  · rfl
  · rfl
def PB (w : World) (g : Nat) (T : TypeId) (p : Pk) : Prop := Blo w g T (pcs p).toArray
def QB (w : World) (g : Nat) (T : TypeId) (p : Pk) : Prop := Blo w g T (qcs p).toArray
section
variable {w w' : World} {g : Nat} {T : TypeId} {p : Pk}
theorem PB.all (h : PB w g T p) : Row w g 0 (pcs p) := Blo.row [] _ [] (by rw [List.nil_append, List.append_nil]; exact h)
theorem QB.all (h : QB w g T p) : Row w g 0 (qcs p) := Blo.row [] _ [] (by rw [List.nil_append, List.append_nil]; exact h)
theorem PB.co (h : PB w g T p) : w.cell? ⟨g, 0, none⟩ = some (.int .u16 (p.o : Int)) := h.all 0 _ rfl
theorem QB.co (h : QB w g T p) : w.cell? ⟨g, 0, none⟩ = some (.int .i64 (p.o : Int)) := h.all 0 _ rfl
theorem PB.rf (h : PB w g T p) : Row w g 1 (bys p.f) :=
  Blo.row [.int .u16 (p.o : Int)] (bys p.f) ([.int .u32 (p.x : Int)] ++ (bys p.t ++ [.int .u32 (p.y : Int)])) (w := w) (g := g) (t := T) (by simpa [PB, pcs] using h)
theorem QB.rf (h : QB w g T p) : Row w g 1 (bys p.f) :=
  Blo.row [.int .i64 (p.o : Int)] (bys p.f) (bys p.t ++ [.int .u32 (p.x : Int), .int .u32 (p.y : Int)]) (w := w) (g := g) (t := T) (by simpa [QB, qcs] using h)
theorem PB.cx (h : PB w g T p) (hp : p.ok) : w.cell? ⟨g, 7, none⟩ = some (.int .u32 (p.x : Int)) := by
  have := Blo.row ([.int .u16 (p.o : Int)] ++ bys p.f) [.int .u32 (p.x : Int)] (bys p.t ++ [.int .u32 (p.y : Int)]) (w := w) (g := g) (t := T) (by simpa [PB, pcs] using h)
  rw [List.length_append, bys_len, hp.f] at this
  exact this 0 _ rfl
theorem PB.rt (h : PB w g T p) (hp : p.ok) : Row w g 8 (bys p.t) := by
  have := Blo.row ([.int .u16 (p.o : Int)] ++ bys p.f ++ [.int .u32 (p.x : Int)]) (bys p.t) [.int .u32 (p.y : Int)] (w := w) (g := g) (t := T) (by simpa [PB, pcs] using h)
  rwa [List.length_append, List.length_append, bys_len, hp.f] at this
theorem PB.cy (h : PB w g T p) (hp : p.ok) : w.cell? ⟨g, 14, none⟩ = some (.int .u32 (p.y : Int)) := by
  have := Blo.row ([.int .u16 (p.o : Int)] ++ bys p.f ++ [.int .u32 (p.x : Int)] ++ bys p.t) [.int .u32 (p.y : Int)] [] (w := w) (g := g) (t := T) (by simpa [PB, pcs] using h)
  rw [List.length_append, List.length_append, List.length_append, bys_len, bys_len, hp.f, hp.t] at this
  exact this 0 _ rfl
theorem QB.rt (h : QB w g T p) (hp : p.ok) : Row w g 7 (bys p.t) := by
  have := Blo.row ([.int .i64 (p.o : Int)] ++ bys p.f) (bys p.t) [.int .u32 (p.x : Int), .int .u32 (p.y : Int)] (w := w) (g := g) (t := T) (by simpa [QB, qcs] using h)
  rwa [List.length_append, bys_len, hp.f] at this
theorem QB.re (h : QB w g T p) (hp : p.ok) : Row w g 13 [.int .u32 (p.x : Int), .int .u32 (p.y : Int)] := by
  have := Blo.row ([.int .i64 (p.o : Int)] ++ bys p.f ++ bys p.t) [.int .u32 (p.x : Int), .int .u32 (p.y : Int)] [] (w := w) (g := g) (t := T) (by simpa [QB, qcs] using h)
  rwa [List.length_append, List.length_append, bys_len, bys_len, hp.f, hp.t] at this
theorem QB.cx (h : QB w g T p) (hp : p.ok) : w.cell? ⟨g, 13, none⟩ = some (.int .u32 (p.x : Int)) := h.re hp 0 _ rfl
theorem QB.cy (h : QB w g T p) (hp : p.ok) : w.cell? ⟨g, 14, none⟩ = some (.int .u32 (p.y : Int)) := h.re hp 1 _ rfl
theorem PB.kept {F : Nat → Prop} (h : PB w g T p) (k : Kept F w w') (hg : ¬ F g) : PB w' g T p := Blo.kept h k hg
theorem QB.kept {F : Nat → Prop} (h : QB w g T p) (k : Kept F w w') (hg : ¬ F g) : QB w' g T p := Blo.kept h k hg
theorem PB.new (w : World) (T : TypeId) (p : Pk) : PB (w.alloc (.cells (pcs p).toArray T)) w.heap.size T p := Blo.new w T _
theorem QB.new (w : World) (T : TypeId) (p : Pk) : QB (w.alloc (.cells (qcs p).toArray T)) w.heap.size T p := Blo.new w T _
theorem PB.lt (h : PB w g T p) : g < w.heap.size := Blo.lt h
theorem QB.lt (h : QB w g T p) : g < w.heap.size := Blo.lt h
/-- Stored anew as a whole. -/
theorem PB.of_all {p' : Pk} (hp : p.ok) (hp' : p'.ok) (h : Blo w g T ((pcs p).take 0 ++ pcs p' ++ (pcs p).drop (0 + (pcs p').length)).toArray) : PB w g T p' := by
  rw [pcs_len hp', List.drop_of_length_le (by rw [pcs_len hp]; omega)] at h
  simpa [PB] using h
theorem QB.of_all {p' : Pk} (hp : p.ok) (hp' : p'.ok) (h : Blo w g T ((qcs p).take 0 ++ qcs p' ++ (qcs p).drop (0 + (qcs p').length)).toArray) : QB w g T p' := by
  rw [qcs_len hp', List.drop_of_length_le (by rw [qcs_len hp]; omega)] at h
  simpa [QB] using h
end
theorem infM (l : List UInt8) (h : l.length = 6) : (Try.prog.info? 26).map (·.size) = some (bys l).length := by rw [bys_len, h]; exact infA6
theorem infN (l : List UInt8) (h : l.length = 6) : (Try.prog.info? 25).map (·.size) = some (bys l).length := by rw [bys_len, h]; exact infB6

theorem int_eq (a b : Nat) : ((a : Int) == (b : Int)) = decide (a = b) := by rw [Bool.eq_iff_iff]; simp; omega
end Go.Proofs.Ythjfeanmgaidcaa
