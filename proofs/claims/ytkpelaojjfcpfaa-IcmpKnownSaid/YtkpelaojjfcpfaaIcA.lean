/- Package icmp: messages as plain data, and as cells. -/
import Derived.Test.YtkpelaojjfcpfaaProg
import Derived.Test.YtkpelaojjfcpfaaAgg
import Derived.Test.YtkpelaojjfcpfaaNewB
namespace Go.Proofs.Ytkpelaojjfcpfaa
open Go.RowKit Go.Sort
set_option linter.unusedVariables false

/-- A message: its type, its code, the rest, the body. -/
structure Ms where
  t : UInt8
  c : UInt8
  p : UInt8
  q : UInt8
  r : UInt8
  s : UInt8
  b : List UInt8
  deriving DecidableEq
def Ms.zero : Ms := ⟨0, 0, 0, 0, 0, 0, []⟩
def Ms.rest (m : Ms) : List UInt8 := [m.p, m.q, m.r, m.s]
def kindN (t : Nat) : Nat := if t ∈ [3, 4, 5, 11, 12] then 1 else if t ∈ [8, 13, 15, 17] then 2 else if t ∈ [0, 14, 16, 18] then 3 else 0
def backN (t : Nat) : Nat := match t with | 8 => 0 | 13 => 14 | 15 => 16 | 17 => 18 | 0 => 8 | 14 => 13 | 16 => 15 | 18 => 17 | _ => 0
def pairB (t : Nat) : Bool := decide (kindN t = 2 ∨ kindN t = 3)
theorem kind_le (t : Nat) : kindN t ≤ 3 := by unfold kindN; split <;> (try split) <;> (try split) <;> omega
theorem back_le (t : Nat) : backN t ≤ 18 := by unfold backN; split <;> omega
/-- A message as the program has it, and the reference: its body where it stands. -/
def ics (m : Ms) (A : Option Addr) (n c : Nat) : List Value := [.int .u8 (m.t.toNat : Int), .int .u8 (m.c.toNat : Int), .int .u8 (m.p.toNat : Int), .int .u8 (m.q.toNat : Int), .int .u8 (m.r.toNat : Int), .int .u8 (m.s.toNat : Int), .slice A n c]
theorem ics_len (m : Ms) (A : Option Addr) (n c : Nat) : (ics m A n c).length = 7 := rfl
theorem ics_one (m : Ms) (A : Option Addr) (n c : Nat) : ∀ v ∈ ics m A n c, v.oneCell' = true := by
  intro v hv
  simp only [ics, List.mem_cons, List.not_mem_nil, or_false] at hv
  rcases hv with rfl | rfl | rfl | rfl | rfl | rfl | rfl <;> rfl
def MB (W : World) (g : Nat) (T : TypeId) (m : Ms) (A : Option Addr) (n c : Nat) : Prop := Blo W g T (ics m A n c).toArray
section
variable {W W' : World} {g : Nat} {T : TypeId} {m : Ms} {A : Option Addr} {n c : Nat}
theorem MB.all (b : MB W g T m A n c) : Row W g 0 (ics m A n c) := Blo.row [] _ [] (by rw [List.nil_append, List.append_nil]; exact b)
theorem MB.kept {F : Nat → Prop} (b : MB W g T m A n c) (k : Kept F W W') (hg : ¬ F g) : MB W' g T m A n c := Blo.kept b k hg
theorem MB.new (W : World) (T : TypeId) (m : Ms) (A : Option Addr) (n c : Nat) : MB (W.alloc (.cells (ics m A n c).toArray T)) W.heap.size T m A n c := Blo.new W T _
theorem MB.lt (b : MB W g T m A n c) : g < W.heap.size := Blo.lt b
theorem MB.c0 (b : MB W g T m A n c) : W.cell? ⟨g, 0, none⟩ = some (.int .u8 (m.t.toNat : Int)) := b.all 0 _ rfl
theorem MB.c1 (b : MB W g T m A n c) : W.cell? ⟨g, 1, none⟩ = some (.int .u8 (m.c.toNat : Int)) := b.all 1 _ rfl
theorem MB.c2 (b : MB W g T m A n c) : W.cell? ⟨g, 2, none⟩ = some (.int .u8 (m.p.toNat : Int)) := b.all 2 _ rfl
theorem MB.c3 (b : MB W g T m A n c) : W.cell? ⟨g, 3, none⟩ = some (.int .u8 (m.q.toNat : Int)) := b.all 3 _ rfl
theorem MB.c4 (b : MB W g T m A n c) : W.cell? ⟨g, 4, none⟩ = some (.int .u8 (m.r.toNat : Int)) := b.all 4 _ rfl
theorem MB.c5 (b : MB W g T m A n c) : W.cell? ⟨g, 5, none⟩ = some (.int .u8 (m.s.toNat : Int)) := b.all 5 _ rfl
theorem MB.c6 (b : MB W g T m A n c) : W.cell? ⟨g, 6, none⟩ = some (.slice A n c) := b.all 6 _ rfl
/-- The rest, as a row. -/
theorem MB.rr (b : MB W g T m A n c) : Row W g 2 (bys m.rest) :=
  Blo.row [.int .u8 (m.t.toNat : Int), .int .u8 (m.c.toNat : Int)] (bys m.rest) [.slice A n c] (w := W) (g := g) (t := T) b
/-- Stored anew as a whole. -/
theorem MB.of_all {m' : Ms} {A' : Option Addr} {n' c' : Nat} (h : Blo W g T ((ics m A n c).take 0 ++ ics m' A' n' c' ++ (ics m A n c).drop (0 + (ics m' A' n' c').length)).toArray) : MB W g T m' A' n' c' := h
end
theorem infMs (m : Ms) (A : Option Addr) (n c : Nat) : (Try.prog.info? 25).map (·.size) = some (ics m A n c).length := by rw [ics_len]; kernel_rfl
theorem infMr (m : Ms) (A : Option Addr) (n c : Nat) : (Try.prog.info? 29).map (·.size) = some (ics m A n c).length := by rw [ics_len]; kernel_rfl
theorem infR4 (m : Ms) : (Try.prog.info? 23).map (·.size) = some (bys m.rest).length := by rw [bys_len]; kernel_rfl
def msv (m : Ms) (A : Option Addr) (n c : Nat) : Value := .agg (ics m A n c).toArray
end Go.Proofs.Ytkpelaojjfcpfaa
