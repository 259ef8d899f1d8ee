/- tollref06: a head's cells; contract of fits. -/
import Derived.Test.YtkpelaojjfcpfaaInD
import Derived.Test.YtkpelaojjfcpfaaAgg
import Derived.Test.YtkpelaojjfcpfaaRgD
import Derived.Deep.DeepCutAuto
namespace Go.Proofs.Ytkpelaojjfcpfaa
open Go.RowKit Go.Sort
set_option linter.unusedVariables false

/-- A head's eleven cells, its options where they stand. -/
def hcs (h : Hd) (A : Option Addr) (n c : Nat) : List Value := [.int .u8 (h.t.toNat : Int), .int .u8 (h.l.toNat : Int), .int .u8 (h.p.toNat : Int), .int .u16 (h.i : Int), .bool h.e, .bool h.d, .bool h.m, .int .i64 h.o, .int .u32 (h.s : Int), .int .u32 (h.g : Int), .slice A n c]
def hdv (h : Hd) (A : Option Addr) (n c : Nat) : Value := .agg (hcs h A n c).toArray
theorem hcs_len (h : Hd) (A : Option Addr) (n c : Nat) : (hcs h A n c).length = 11 := rfl
theorem hcs_one (h : Hd) (A : Option Addr) (n c : Nat) : ∀ u ∈ hcs h A n c, u.oneCell' = true := by
  intro u hu
  simp only [hcs, List.mem_cons, List.not_mem_nil, or_false] at hu
  rcases hu with rfl | rfl | rfl | rfl | rfl | rfl | rfl | rfl | rfl | rfl | rfl <;> rfl
def HB (w : World) (g : Nat) (T : TypeId) (h : Hd) (A : Option Addr) (n c : Nat) : Prop := Blo w g T (hcs h A n c).toArray
section
variable {w w' : World} {g : Nat} {T : TypeId} {h : Hd} {A : Option Addr} {n c : Nat}
theorem HB.all (b : HB w g T h A n c) : Row w g 0 (hcs h A n c) := Blo.row [] _ [] (by rw [List.nil_append, List.append_nil]; exact b)
theorem HB.ct (b : HB w g T h A n c) : w.cell? ⟨g, 0, none⟩ = some (.int .u8 (h.t.toNat : Int)) := b.all 0 _ rfl
theorem HB.cl (b : HB w g T h A n c) : w.cell? ⟨g, 1, none⟩ = some (.int .u8 (h.l.toNat : Int)) := b.all 1 _ rfl
theorem HB.cp (b : HB w g T h A n c) : w.cell? ⟨g, 2, none⟩ = some (.int .u8 (h.p.toNat : Int)) := b.all 2 _ rfl
theorem HB.ci (b : HB w g T h A n c) : w.cell? ⟨g, 3, none⟩ = some (.int .u16 (h.i : Int)) := b.all 3 _ rfl
theorem HB.ce (b : HB w g T h A n c) : w.cell? ⟨g, 4, none⟩ = some (.bool h.e) := b.all 4 _ rfl
theorem HB.cd (b : HB w g T h A n c) : w.cell? ⟨g, 5, none⟩ = some (.bool h.d) := b.all 5 _ rfl
theorem HB.cm (b : HB w g T h A n c) : w.cell? ⟨g, 6, none⟩ = some (.bool h.m) := b.all 6 _ rfl
theorem HB.co (b : HB w g T h A n c) : w.cell? ⟨g, 7, none⟩ = some (.int .i64 h.o) := b.all 7 _ rfl
theorem HB.cs (b : HB w g T h A n c) : w.cell? ⟨g, 8, none⟩ = some (.int .u32 (h.s : Int)) := b.all 8 _ rfl
theorem HB.cg (b : HB w g T h A n c) : w.cell? ⟨g, 9, none⟩ = some (.int .u32 (h.g : Int)) := b.all 9 _ rfl
theorem HB.cx (b : HB w g T h A n c) : w.cell? ⟨g, 10, none⟩ = some (.slice A n c) := b.all 10 _ rfl
theorem HB.kept {F : Nat → Prop} (b : HB w g T h A n c) (k : Kept F w w') (hg : ¬ F g) : HB w' g T h A n c := Blo.kept b k hg
theorem HB.new (w : World) (T : TypeId) (h : Hd) (A : Option Addr) (n c : Nat) : HB (w.alloc (.cells (hcs h A n c).toArray T)) w.heap.size T h A n c := Blo.new w T _
theorem HB.lt (b : HB w g T h A n c) : g < w.heap.size := Blo.lt b
theorem HB.of_all {h' : Hd} {A' : Option Addr} {n' c' : Nat} (b : Blo w g T ((hcs h A n c).take 0 ++ hcs h' A' n' c' ++ (hcs h A n c).drop (0 + (hcs h' A' n' c').length)).toArray) : HB w g T h' A' n' c' := b
end
theorem infH (h : Hd) (A : Option Addr) (n c : Nat) : (Try.prog.info? 54).map (·.size) = some (hcs h A n c).length := by rw [hcs_len]; kernel_rfl

end Go.Proofs.Ytkpelaojjfcpfaa
