/- Texts that belong together, one behind the other: Lib, Qb. Conditions: those of each. -/
import Derived.Test.YtiehmpiaddjhiaaDoorProg
import Derived.WalkSpells
import Derived.WalkLawsBesides
import Derived.Deep.QuietTactic
import Derived.BigQuiet
import Derived.Lib.Hide
import Derived.Outline
import Derived.Test.YtiehmpiaddjhiaaDoorMg3
import Derived.Stop.BytesEq
import Derived.Test.YtiehmpiaddjhiaaDoorMg0
import Derived.Lib.QuietBelow
/- Contracts of the library's functions that the program calls: slices.Clone and bytes.Clone of bytes, bytes.Equal. -/
namespace Go.Proofs.YtiehmpiaddjhiaaDoor
open Go.RowKit
set_option linter.unusedVariables false

theorem inf5 : Tryd.prog.info? 5 = some ((Tryd.prog.info? 5).getD default) ∧ ((Tryd.prog.info? 5).getD default).size = 1 := ⟨by kernel_rfl, by kernel_rfl⟩
theorem Tryd.infb : (Tryd.prog.info? 5).map (fun i => (i.zero, i.size, i.bytes)) = some (some (.int .u8 0), 1, 1) := by kernel_rfl

theorem siz5 (w : World) : (sizeOf 5).run Tryd.prog w = .ok 1 w := by kernel_rfl
/-- Bytes in new memory. -/
def Made (w w' : World) (v : Value) (l : List UInt8) : Prop := w'.ownsRow w.heap.size 5 1 v l.length (bys l) ∧ Kept Nil w w'


theorem byt_lit (w : World) (l : List UInt8) (t : TypeId) (cs : Array Value) (hcs : cs = (bys l).toArray) (n : Nat) (hn : l.length = n) (b : Nat) (hb : b = w.heap.size) (h : l.length ≤ 9223372036854775807) : Byt (w.alloc (.cells cs t)) (some ⟨b, 0, Option.none⟩) n n l := by
  subst hcs hn hb
  exact Byt.lit w l t h
theorem byt_own {w w' : World} {v : Value} {l : List UInt8} (h : Made w w' v l) : ∃ A c, v = .slice A l.length c ∧ Byt w' A l.length c l ∧ ∀ i, Lies A l.length i → w.heap.size ≤ i := Byt.of_own h.1
end Go.Proofs.YtiehmpiaddjhiaaDoor
/- A region that draws its order, whose operations only read and whose callees make memory alone: walked once, in the order of the text (the library's QuietBelow), with the words of Mem. Nothing of the program is named here. -/
namespace Go.Proofs.YtiehmpiaddjhiaaDoor
open Go.RowKit Go.Sort
set_option linter.unusedVariables false

theorem kept_grown (w : World) (p : Regrown) : Kept Nil w (grow (redrawn w p.d) p.os) := Kept.of_below (below_regrown w p.d p.os)
theorem kept_grown' (w : World) (d : Nat) (os : Array Obj) : Kept Nil w (grow (redrawn w d) os) := Kept.of_below (below_regrown w d os)
/-- A callee's contract that ends in 'Kept Nil', met in a world of the class. -/
theorem quietK {P : Program} {f : FuncId} {args : Array Value} {w : World} {d : Nat} {os : Array Obj} {v : Value}
    (h : Calls P f args (grow (redrawn w d) os) fun e w' => e = .returned v ∧ Kept Nil (grow (redrawn w d) os) w') : Calls P f args (grow (redrawn w d) os) fun e w'' => e = .returned v ∧ ∃ p : Regrown, w'' = grow (redrawn w p.d) p.os :=
  Calls.regrown_of (h.mono fun _ _ ⟨he, hk⟩ => ⟨he, hk.os, hk.tape, hk.output, hk.size, fun k hk' => hk.block k hk' (fun hf => hf)⟩)
/-- .. of a callee that leaves the world alone. -/
theorem quietS {P : Program} {f : FuncId} {args : Array Value} {w : World} {d : Nat} {os : Array Obj} {v : Value}
    (h : Calls P f args (grow (redrawn w d) os) fun e w' => e = .returned v ∧ grow (redrawn w d) os = w') : Calls P f args (grow (redrawn w d) os) fun e w'' => e = .returned v ∧ ∃ p : Regrown, w'' = grow (redrawn w p.d) p.os :=
  h.mono fun _ _ ⟨he, hk⟩ => ⟨he, ⟨d, os⟩, hk.symm⟩
/-- What a block holds, in every world of the class. -/
theorem Blo.grown {w : World} {g : Nat} {t : TypeId} {cs : Array Value} (h : Blo w g t cs) (d : Nat) (os : Array Obj) : Blo (grow (redrawn w d) os) g t cs := h.kept (kept_grown' w d os) (fun hf => hf)
theorem Blo.gcell {w : World} {g : Nat} {t : TypeId} {cs : Array Value} (h : Blo w g t cs) (i : Nat) (d : Nat) (os : Array Obj) : (grow (redrawn w d) os).cell? ⟨g, i, none⟩ = cs[i]? := (h.grown d os).cell i
theorem Blo.at_new {w : World} {g : Nat} {t : TypeId} {cs : Array Value} (h : g = w.heap.size) : Blo (w.alloc (.cells cs t)) g t cs := by rw [h]; exact Blo.new w t cs
theorem Blo.drew {w : World} {g : Nat} {t : TypeId} {cs : Array Value} (h : Blo w g t cs) : Blo w.drew g t cs := h
/-- A cell of an old block, where only newer blocks have been written. -/
theorem kpc {W w' : World} {g i : Nat} {v : Value} (hc : W.cell? ⟨g, i, none⟩ = some v) (hk : Kept (fun i => W.heap.size ≤ i) W w') (hl : g < W.heap.size) : w'.cell? ⟨g, i, none⟩ = some v := hk.cell hc (by simp; omega)
end Go.Proofs.YtiehmpiaddjhiaaDoor
