/- Texts that belong together, one behind the other: NewB, TrA. Conditions: those of each. -/
import Derived.Test.YthjbabkmjmfmjaaDoorMg0
import Derived.Test.YthjbabkmjmfmjaaDoorProg
import Derived.Test.YthjbabkmjmfmjaaDoorMg2
import Derived.Test.YthjbabkmjmfmjaaDoorMg5
/- Bytes that stand in new memory; how many are looked at. -/
namespace Go.Proofs.YthjbabkmjmfmjaaDoor
open Go.RowKit
set_option linter.unusedVariables false

/-- Bytes that stand in new memory. -/
def NewB (w w' : World) (A : Option Addr) (n c : Nat) (l : List UInt8) : Prop := Byt w' A n c l ∧ ∀ i, Lies A n i → w.heap.size ≤ i
theorem newB_none (w w' : World) : NewB w w' none 0 0 [] := ⟨Byt.none _, fun i hi => absurd hi.1 (by omega)⟩
theorem NewB.kept {w w1 w2 : World} {A : Option Addr} {n c : Nat} {l : List UInt8} {F : Nat → Prop} (h : NewB w w1 A n c l) (k : Kept F w1 w2) (hF : ∀ i, w.heap.size ≤ i → ¬ F i) : NewB w w2 A n c l := ⟨h.1.kept k (fun i hi => hF i (h.2 i hi)), h.2⟩
theorem NewB.older {w0 w w' : World} {A : Option Addr} {n c : Nat} {l : List UInt8} (h : NewB w w' A n c l) (hs : w0.heap.size ≤ w.heap.size) : NewB w0 w' A n c l := ⟨h.1, fun i hi => Nat.le_trans hs (h.2 i hi)⟩
theorem NewB.of_own {w0 w : World} {B e n : Nat} {v : Value} {l : List UInt8} (h : w.ownsRow B e 1 v n (bys l)) (hB : w0.heap.size ≤ B) : ∃ A c, v = .slice A n c ∧ NewB w0 w A n c l := by
  obtain ⟨A, c, rfl, hb, hl⟩ := Byt.of_own h
  exact ⟨A, c, rfl, hb, fun i hi => Nat.le_trans hB (hl i hi)⟩
theorem min60 (n : Nat) : ∃ m : Nat, (if (60 : Int) < (n : Int) then (60 : Int) else (n : Int)) = (m : Int) ∧ min (n : Int) 60 = (m : Int) ∧ m ≤ n ∧ m ≤ 60 ∧ m = min 60 n := ⟨min 60 n, by split <;> omega, by omega, by omega, by omega, rfl⟩
theorem min40 (n : Nat) : ∃ m : Nat, (if (40 : Int) < (n : Int) then (40 : Int) else (n : Int)) = (m : Int) ∧ min (n : Int) 40 = (m : Int) ∧ m ≤ n ∧ m ≤ 40 ∧ m = min 40 n := ⟨min 40 n, by split <;> omega, by omega, by omega, by omega, rfl⟩
theorem min8 (n : Nat) : ∃ m : Nat, (if (8 : Int) < (n : Int) then (8 : Int) else (n : Int)) = (m : Int) ∧ min (n : Int) 8 = (m : Int) ∧ m ≤ n ∧ m ≤ 8 ∧ m = min 8 n := ⟨min 8 n, by split <;> omega, by omega, by omega, by omega, rfl⟩
theorem min200 (n : Nat) : ∃ m : Nat, (if (200 : Int) < (n : Int) then (200 : Int) else (n : Int)) = (m : Int) ∧ min (n : Int) 200 = (m : Int) ∧ m ≤ n ∧ m ≤ 200 ∧ m = min 200 n := ⟨min 200 n, by split <;> omega, by omega, by omega, by omega, rfl⟩
end Go.Proofs.YthjbabkmjmfmjaaDoor
/- Heads of TCP and UDP as cells: the program's, the reference's. -/
namespace Go.Proofs.YthjbabkmjmfmjaaDoor
open Go.RowKit Go.Sort
set_option linter.unusedVariables false

/-- A head of TCP as the program has it, its bytes where they stand. -/
def tcs (h : Tc) (A : Option Addr) (n c : Nat) (B : Option Addr) (m d : Nat) : List Value := [.int .u16 (h.f : Int), .int .u16 (h.t : Int), .int .u32 (h.s : Int), .int .u32 (h.a : Int), .int .u8 (h.o : Int), .int .u8 (h.g : Int), .int .u16 (h.w : Int), .int .u16 (h.c : Int), .int .u16 (h.u : Int), .slice A n c, .slice B m d]
/-- A head of TCP as the reference has it. -/
def tqs (h : Tc) (A : Option Addr) (n c : Nat) (B : Option Addr) (m d : Nat) : List Value := [.int .i64 (h.f : Int), .int .i64 (h.t : Int), .int .i64 (h.o : Int), .int .i64 (h.g : Int), .int .i64 (h.w : Int), .int .i64 (h.c : Int), .int .i64 (h.u : Int), .int .u32 (h.s : Int), .int .u32 (h.a : Int), .slice A n c, .slice B m d]
/-- A head of UDP as the program has it. -/
def ucs (h : Ud) (B : Option Addr) (m d : Nat) : List Value := [.int .u16 (h.f : Int), .int .u16 (h.t : Int), .int .u16 (h.n : Int), .int .u16 (h.c : Int), .slice B m d]
/-- A head of UDP as the reference has it. -/
def uqs (h : Ud) (B : Option Addr) (m d : Nat) : List Value := [.int .i64 (h.f : Int), .int .i64 (h.t : Int), .int .i64 (h.n : Int), .int .i64 (h.c : Int), .slice B m d]
theorem tcs_len (h : Tc) (A : Option Addr) (n c : Nat) (B : Option Addr) (m d : Nat) : (tcs h A n c B m d).length = 11 := rfl
theorem tcs_one (h : Tc) (A : Option Addr) (n c : Nat) (B : Option Addr) (m d : Nat) : ∀ v ∈ tcs h A n c B m d, v.oneCell' = true := by
  intro v hv
  simp only [tcs, List.mem_cons, List.not_mem_nil, or_false] at hv
  rcases hv with rfl | rfl | rfl | rfl | rfl | rfl | rfl | rfl | rfl | rfl | rfl <;> rfl
def TB (W : World) (g : Nat) (T : TypeId) (h : Tc) (A : Option Addr) (n c : Nat) (B : Option Addr) (m d : Nat) : Prop := Blo W g T (tcs h A n c B m d).toArray
section
variable {W W' : World} {g : Nat} {T : TypeId} {h : Tc} {A : Option Addr} {n c : Nat} {B : Option Addr} {m d : Nat}
theorem TB.all (b : TB W g T h A n c B m d) : Row W g 0 (tcs h A n c B m d) := Blo.row [] _ [] (by rw [List.nil_append, List.append_nil]; exact b)
theorem TB.kept {F : Nat → Prop} (b : TB W g T h A n c B m d) (k : Kept F W W') (hg : ¬ F g) : TB W' g T h A n c B m d := Blo.kept b k hg
theorem TB.new (W : World) (T : TypeId) (h : Tc) (A : Option Addr) (n c : Nat) (B : Option Addr) (m d : Nat) : TB (W.alloc (.cells (tcs h A n c B m d).toArray T)) W.heap.size T h A n c B m d := Blo.new W T _
theorem TB.lt (b : TB W g T h A n c B m d) : g < W.heap.size := Blo.lt b
theorem TB.cf (b : TB W g T h A n c B m d) : W.cell? ⟨g, 0, none⟩ = some (.int .u16 (h.f : Int)) := b.all 0 _ rfl
theorem TB.ct (b : TB W g T h A n c B m d) : W.cell? ⟨g, 1, none⟩ = some (.int .u16 (h.t : Int)) := b.all 1 _ rfl
theorem TB.cs (b : TB W g T h A n c B m d) : W.cell? ⟨g, 2, none⟩ = some (.int .u32 (h.s : Int)) := b.all 2 _ rfl
theorem TB.ca (b : TB W g T h A n c B m d) : W.cell? ⟨g, 3, none⟩ = some (.int .u32 (h.a : Int)) := b.all 3 _ rfl
theorem TB.co (b : TB W g T h A n c B m d) : W.cell? ⟨g, 4, none⟩ = some (.int .u8 (h.o : Int)) := b.all 4 _ rfl
theorem TB.cg (b : TB W g T h A n c B m d) : W.cell? ⟨g, 5, none⟩ = some (.int .u8 (h.g : Int)) := b.all 5 _ rfl
theorem TB.cw (b : TB W g T h A n c B m d) : W.cell? ⟨g, 6, none⟩ = some (.int .u16 (h.w : Int)) := b.all 6 _ rfl
theorem TB.cc (b : TB W g T h A n c B m d) : W.cell? ⟨g, 7, none⟩ = some (.int .u16 (h.c : Int)) := b.all 7 _ rfl
theorem TB.cu (b : TB W g T h A n c B m d) : W.cell? ⟨g, 8, none⟩ = some (.int .u16 (h.u : Int)) := b.all 8 _ rfl
theorem TB.cx (b : TB W g T h A n c B m d) : W.cell? ⟨g, 9, none⟩ = some (.slice A n c) := b.all 9 _ rfl
theorem TB.cb (b : TB W g T h A n c B m d) : W.cell? ⟨g, 10, none⟩ = some (.slice B m d) := b.all 10 _ rfl
end
theorem tqs_len (h : Tc) (A : Option Addr) (n c : Nat) (B : Option Addr) (m d : Nat) : (tqs h A n c B m d).length = 11 := rfl
theorem tqs_one (h : Tc) (A : Option Addr) (n c : Nat) (B : Option Addr) (m d : Nat) : ∀ v ∈ tqs h A n c B m d, v.oneCell' = true := by
  intro v hv
  simp only [tqs, List.mem_cons, List.not_mem_nil, or_false] at hv
  rcases hv with rfl | rfl | rfl | rfl | rfl | rfl | rfl | rfl | rfl | rfl | rfl <;> rfl
def TQ (W : World) (g : Nat) (T : TypeId) (h : Tc) (A : Option Addr) (n c : Nat) (B : Option Addr) (m d : Nat) : Prop := Blo W g T (tqs h A n c B m d).toArray
section
variable {W W' : World} {g : Nat} {T : TypeId} {h : Tc} {A : Option Addr} {n c : Nat} {B : Option Addr} {m d : Nat}
theorem TQ.all (b : TQ W g T h A n c B m d) : Row W g 0 (tqs h A n c B m d) := Blo.row [] _ [] (by rw [List.nil_append, List.append_nil]; exact b)
theorem TQ.kept {F : Nat → Prop} (b : TQ W g T h A n c B m d) (k : Kept F W W') (hg : ¬ F g) : TQ W' g T h A n c B m d := Blo.kept b k hg
theorem TQ.new (W : World) (T : TypeId) (h : Tc) (A : Option Addr) (n c : Nat) (B : Option Addr) (m d : Nat) : TQ (W.alloc (.cells (tqs h A n c B m d).toArray T)) W.heap.size T h A n c B m d := Blo.new W T _
theorem TQ.lt (b : TQ W g T h A n c B m d) : g < W.heap.size := Blo.lt b
theorem TQ.cf (b : TQ W g T h A n c B m d) : W.cell? ⟨g, 0, none⟩ = some (.int .i64 (h.f : Int)) := b.all 0 _ rfl
theorem TQ.ct (b : TQ W g T h A n c B m d) : W.cell? ⟨g, 1, none⟩ = some (.int .i64 (h.t : Int)) := b.all 1 _ rfl
theorem TQ.co (b : TQ W g T h A n c B m d) : W.cell? ⟨g, 2, none⟩ = some (.int .i64 (h.o : Int)) := b.all 2 _ rfl
theorem TQ.cg (b : TQ W g T h A n c B m d) : W.cell? ⟨g, 3, none⟩ = some (.int .i64 (h.g : Int)) := b.all 3 _ rfl
theorem TQ.cw (b : TQ W g T h A n c B m d) : W.cell? ⟨g, 4, none⟩ = some (.int .i64 (h.w : Int)) := b.all 4 _ rfl
theorem TQ.cc (b : TQ W g T h A n c B m d) : W.cell? ⟨g, 5, none⟩ = some (.int .i64 (h.c : Int)) := b.all 5 _ rfl
theorem TQ.cu (b : TQ W g T h A n c B m d) : W.cell? ⟨g, 6, none⟩ = some (.int .i64 (h.u : Int)) := b.all 6 _ rfl
theorem TQ.cs (b : TQ W g T h A n c B m d) : W.cell? ⟨g, 7, none⟩ = some (.int .u32 (h.s : Int)) := b.all 7 _ rfl
theorem TQ.ca (b : TQ W g T h A n c B m d) : W.cell? ⟨g, 8, none⟩ = some (.int .u32 (h.a : Int)) := b.all 8 _ rfl
theorem TQ.cx (b : TQ W g T h A n c B m d) : W.cell? ⟨g, 9, none⟩ = some (.slice A n c) := b.all 9 _ rfl
theorem TQ.cb (b : TQ W g T h A n c B m d) : W.cell? ⟨g, 10, none⟩ = some (.slice B m d) := b.all 10 _ rfl
end
theorem ucs_len (h : Ud) (B : Option Addr) (m d : Nat) : (ucs h B m d).length = 5 := rfl
theorem ucs_one (h : Ud) (B : Option Addr) (m d : Nat) : ∀ v ∈ ucs h B m d, v.oneCell' = true := by
  intro v hv
  simp only [ucs, List.mem_cons, List.not_mem_nil, or_false] at hv
  rcases hv with rfl | rfl | rfl | rfl | rfl <;> rfl
def UB (W : World) (g : Nat) (T : TypeId) (h : Ud) (B : Option Addr) (m d : Nat) : Prop := Blo W g T (ucs h B m d).toArray
section
variable {W W' : World} {g : Nat} {T : TypeId} {h : Ud} {B : Option Addr} {m d : Nat}
theorem UB.all (b : UB W g T h B m d) : Row W g 0 (ucs h B m d) := Blo.row [] _ [] (by rw [List.nil_append, List.append_nil]; exact b)
theorem UB.kept {F : Nat → Prop} (b : UB W g T h B m d) (k : Kept F W W') (hg : ¬ F g) : UB W' g T h B m d := Blo.kept b k hg
theorem UB.new (W : World) (T : TypeId) (h : Ud) (B : Option Addr) (m d : Nat) : UB (W.alloc (.cells (ucs h B m d).toArray T)) W.heap.size T h B m d := Blo.new W T _
theorem UB.lt (b : UB W g T h B m d) : g < W.heap.size := Blo.lt b
theorem UB.cf (b : UB W g T h B m d) : W.cell? ⟨g, 0, none⟩ = some (.int .u16 (h.f : Int)) := b.all 0 _ rfl
theorem UB.ct (b : UB W g T h B m d) : W.cell? ⟨g, 1, none⟩ = some (.int .u16 (h.t : Int)) := b.all 1 _ rfl
theorem UB.cn (b : UB W g T h B m d) : W.cell? ⟨g, 2, none⟩ = some (.int .u16 (h.n : Int)) := b.all 2 _ rfl
theorem UB.cc (b : UB W g T h B m d) : W.cell? ⟨g, 3, none⟩ = some (.int .u16 (h.c : Int)) := b.all 3 _ rfl
theorem UB.cb (b : UB W g T h B m d) : W.cell? ⟨g, 4, none⟩ = some (.slice B m d) := b.all 4 _ rfl
end
theorem uqs_len (h : Ud) (B : Option Addr) (m d : Nat) : (uqs h B m d).length = 5 := rfl
theorem uqs_one (h : Ud) (B : Option Addr) (m d : Nat) : ∀ v ∈ uqs h B m d, v.oneCell' = true := by
  intro v hv
  simp only [uqs, List.mem_cons, List.not_mem_nil, or_false] at hv
  rcases hv with rfl | rfl | rfl | rfl | rfl <;> rfl
def UQ (W : World) (g : Nat) (T : TypeId) (h : Ud) (B : Option Addr) (m d : Nat) : Prop := Blo W g T (uqs h B m d).toArray
section
variable {W W' : World} {g : Nat} {T : TypeId} {h : Ud} {B : Option Addr} {m d : Nat}
theorem UQ.all (b : UQ W g T h B m d) : Row W g 0 (uqs h B m d) := Blo.row [] _ [] (by rw [List.nil_append, List.append_nil]; exact b)
theorem UQ.kept {F : Nat → Prop} (b : UQ W g T h B m d) (k : Kept F W W') (hg : ¬ F g) : UQ W' g T h B m d := Blo.kept b k hg
theorem UQ.new (W : World) (T : TypeId) (h : Ud) (B : Option Addr) (m d : Nat) : UQ (W.alloc (.cells (uqs h B m d).toArray T)) W.heap.size T h B m d := Blo.new W T _
theorem UQ.lt (b : UQ W g T h B m d) : g < W.heap.size := Blo.lt b
theorem UQ.cf (b : UQ W g T h B m d) : W.cell? ⟨g, 0, none⟩ = some (.int .i64 (h.f : Int)) := b.all 0 _ rfl
theorem UQ.ct (b : UQ W g T h B m d) : W.cell? ⟨g, 1, none⟩ = some (.int .i64 (h.t : Int)) := b.all 1 _ rfl
theorem UQ.cn (b : UQ W g T h B m d) : W.cell? ⟨g, 2, none⟩ = some (.int .i64 (h.n : Int)) := b.all 2 _ rfl
theorem UQ.cc (b : UQ W g T h B m d) : W.cell? ⟨g, 3, none⟩ = some (.int .i64 (h.c : Int)) := b.all 3 _ rfl
theorem UQ.cb (b : UQ W g T h B m d) : W.cell? ⟨g, 4, none⟩ = some (.slice B m d) := b.all 4 _ rfl
end
theorem infTc (h : Tc) (A : Option Addr) (n c : Nat) (B : Option Addr) (m d : Nat) : (Tryd.prog.info? 29).map (·.size) = some (tcs h A n c B m d).length := by rw [tcs_len]; kernel_rfl
theorem infTq (h : Tc) (A : Option Addr) (n c : Nat) (B : Option Addr) (m d : Nat) : (Tryd.prog.info? 34).map (·.size) = some (tqs h A n c B m d).length := by rw [tqs_len]; kernel_rfl
theorem infUc (h : Ud) (B : Option Addr) (m d : Nat) : (Tryd.prog.info? 38).map (·.size) = some (ucs h B m d).length := by rw [ucs_len]; kernel_rfl
theorem infUq (h : Ud) (B : Option Addr) (m d : Nat) : (Tryd.prog.info? 42).map (·.size) = some (uqs h B m d).length := by rw [uqs_len]; kernel_rfl
/-- What a reader of TCP answers. -/
def TGot (w : World) (e : Ending) (w' : World) (r : Tc × Int) : Prop := ∃ A n c B m d, e = .returned (.tuple #[.agg (tcs r.1 A n c B m d).toArray, .int .i64 r.2]) ∧ NewB w w' A n c r.1.x ∧ NewB w w' B m d r.1.b ∧ Kept Nil w w'
/-- What a reader of UDP answers. -/
def UGot (w : World) (e : Ending) (w' : World) (r : Ud × Int) : Prop := ∃ B m d, e = .returned (.tuple #[.agg (ucs r.1 B m d).toArray, .int .i64 r.2]) ∧ NewB w w' B m d r.1.b ∧ Kept Nil w w'
end Go.Proofs.YthjbabkmjmfmjaaDoor
