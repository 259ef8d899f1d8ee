/- A byte appended: a literal slice and the append behind it, in the order of the text. -/
import Derived.Test.YtiehmpiaddjhiaaDoorMg21
import Derived.Test.YtiehmpiaddjhiaaDoorMg11
namespace Go.Proofs.YtiehmpiaddjhiaaDoor
open Go.RowKit Go.Sort
set_option linter.unusedVariables false

theorem byt_one {w : World} {q : Nat} {b : UInt8} (h : Blo w q 5 #[.int .u8 (b.toNat : Int)]) : Byt w (some ⟨q, 0, none⟩) 1 1 [b] :=
  ⟨rfl, Nat.le_refl _, by decide, fun _ => ⟨q, 0, rfl, fun i hi => by
    have : i = 0 := by simpa using hi
    subst this
    rw [h.cell]
    rfl⟩⟩
theorem bs_one (b : UInt8) (w : World) : (Instr.buildSlice 68 1 #[(0, .int .u8 (b.toNat : Int))]).run Tryd.prog w = .ok (.slice (some ⟨w.heap.size, 0, none⟩) 1 1) (w.alloc (.cells #[.int .u8 (b.toNat : Int)] 5)) := by kernel_rfl
theorem wpList_push {w : World} {ops : Array Oper} {rest : List Oper} {o1 o2 : Oper} {a : Act} {Q : Exit → Act → World → Prop} (hg1 : o1.guard = none) (hg2 : o2.guard = none) (x sl : Operand) (d : Nat)
    (ho1 : o1.op = .buildSlice 68 1 #[(0, x)]) (hd1 : o1.dst = some d) (ho2 : o2.op = .call { callee := .builtin .append, args := #[sl, .tmp d], argTypes := #[68, 68] }) (hsz : d < a.tmps.size) (b : UInt8) (hx : a.eval x = .int .u8 (b.toNat : Int))
    (B : Nat) (v : Value) (l0 : List UInt8) (hs : ∀ z, (a.put (some d) z).eval sl = v) (hown : w.ownsRow B 5 1 v l0.length (bys l0)) (hb : l0.length ≤ 1000) (hB : B ≤ w.heap.size)
    (h : ∀ q v' w', w'.ownsRow B 5 1 v' (l0 ++ [b]).length (bys (l0 ++ [b])) → Kept (fun k => v.ownBlock = some k) w w' → (v'.ownBlock = v.ownBlock ∨ ∃ i, w.heap.size ≤ i ∧ v'.ownBlock = some i) → wpList Tryd.prog ops Q rest ((a.put (some d) (.slice (some ⟨q, 0, none⟩) 1 1)).put o2.dst v') w') : wpList Tryd.prog ops Q (o1 :: o2 :: rest) a w := by
  have hr1 : (execOp a.eval o1).run Tryd.prog w = .ok (.value (.slice (some ⟨w.heap.size, 0, none⟩) 1 1)) (w.alloc (.cells #[.int .u8 (b.toNat : Int)] 5)) := by
    have hb0 := bs_one b w
    unfold execOp
    simp only [ho1, List.map_toArray, List.map_cons, List.map_nil, hx, Sem.run_bind, Sem.run_pure, hb0, Result.andThen_ok]
  obtain ⟨i0, hi, hz0, hz1, hz2⟩ := info_parts Tryd.infb
  have hk1 := (Kept.refl Nil w).alloc (.cells #[.int .u8 (b.toNat : Int)] 5)
  have hq := byt_one (Blo.new w 5 #[.int .u8 (b.toNat : Int)])
  refine wpList_plain hg1 fun K hK => ?_
  unfold Oper.wp
  rw [hr1]
  refine hK _ _ ?_
  rw [hd1]
  refine wpList_any hg2 sl (.tmp d) 68 ho2 B 5 i0 (.int .u8 0) Tryd.underlying68 hi hz0 hz1 hz2 rfl v l0.length (bys l0) (hs _) (own_kept hown hk1 (fun _ _ hf => hf)) (some ⟨w.heap.size, 0, none⟩) 1 1 [b] ?_ hq (by omega) (by simp; omega) ?_
  · simp only [Act.put, Act.eval, Array.getD_eq_getD_getElem?, Array.getElem?_setIfInBounds_self]
    rw [if_pos hsz]
    rfl
  · intro v' w' hn hgr hor
    refine h w.heap.size v' w' ?_ (hk1.nil.grown hgr (fun k hk _ => hk)) (hor.imp id fun e => ⟨_, by simp, e⟩)
    rw [bys_app, List.length_append]
    exact hn
theorem own_geq {w : World} {B e size n : Nat} {v : Value} {xs : List Value} (h : w.ownsRow B e size v n xs) : ∀ i, v.ownBlock = some i → B ≤ i := by
  intro i hi
  rcases h.2 with ⟨rfl, _⟩ | ⟨g, cap, cur, rfl, hb, _⟩
  · cases hi
  · injection hi with e
    exact e ▸ hb
/-- A row that grows beside a block whose first cell is read. -/
structure PsI (w0 : World) (B g : Nat) (v : Value) (l : List UInt8) (w : World) : Prop where
  own : w.ownsRow B 5 1 v l.length (bys l)
  kept : Kept (fun k => B ≤ k) w0 w
  far : ∀ i, v.ownBlock = some i → i ≠ g
  cell : w.cell? ⟨g, 0, none⟩ = some (.int .u8 49)
  base : B ≤ w.heap.size
theorem wpList_pushS {w0 w : World} {ops : Array Oper} {rest : List Oper} {o1 o2 : Oper} {a : Act} {Q : Exit → Act → World → Prop} (hg1 : o1.guard = none) (hg2 : o2.guard = none) (x sl : Operand) (d : Nat)
    (ho1 : o1.op = .buildSlice 68 1 #[(0, x)]) (hd1 : o1.dst = some d) (ho2 : o2.op = .call { callee := .builtin .append, args := #[sl, .tmp d], argTypes := #[68, 68] }) (hsz : d < a.tmps.size) (b : UInt8) (hx : a.eval x = .int .u8 (b.toNat : Int))
    {B g : Nat} {v : Value} {l0 : List UInt8} (hS : PsI w0 B g v l0 w) (hs : ∀ z, (a.put (some d) z).eval sl = v) (hb : l0.length ≤ 1000)
    (h : ∀ q v' w', PsI w0 B g v' (l0 ++ [b]) w' → wpList Tryd.prog ops Q rest ((a.put (some d) (.slice (some ⟨q, 0, none⟩) 1 1)).put o2.dst v') w') : wpList Tryd.prog ops Q (o1 :: o2 :: rest) a w := by
  refine wpList_push hg1 hg2 x sl d ho1 hd1 ho2 hsz b hx B v l0 hs hS.own hb hS.base ?_
  intro q v' w' hn hk hor
  have hlt : g < w.heap.size := World.block_lt_of_cell? w _ hS.cell
  refine h q v' w' ⟨hn, hS.kept.trans hk (fun i _ hf => own_geq hS.own i hf), fun i hi => ?_, hk.cell hS.cell (fun hf => hS.far g hf rfl), Nat.le_trans hS.base hk.size⟩
  rcases hor with e | ⟨j, hj, e⟩
  · exact hS.far i (by rw [← e]; exact hi)
  · rw [e] at hi
    injection hi with hi
    omega
end Go.Proofs.YtiehmpiaddjhiaaDoor
