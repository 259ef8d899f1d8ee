/- Bytes made by make([]byte, n): the block known whole. -/
import Derived.Test.YtbkjobmjapbmpaaLib
import Derived.Test.YtbkjobmjapbmpaaMem3
import Derived.Test.YtbkjobmjapbmpaaAgg
import Derived.Laws.MakeOwn
import Derived.OwnWalk
import Derived.Deep.DeepCutAuto
namespace Go.Proofs.Ytbkjobmjapbmpaa
open Go.RowKit Go.Sort
set_option linter.unusedVariables false

theorem made_bysC (n : Nat) : (madeCells (Value.int .u8 0).cells (n * 1)).toList = bys (List.replicate n 0) := by
  rw [Nat.mul_one]
  apply List.ext_getElem?
  intro i
  by_cases h : i < n
  · simp [madeCells, bys, Value.cells, h, Nat.mod_one]
  · simp [madeCells, bys, Value.cells, h]
theorem wpList_mkC {w : World} {ops : Array Oper} {rest : List Oper} {o : Oper} {a : Act} {Q : Exit → Act → World → Prop} (hg : o.guard = none) (l c : Operand) (hop : o.op = Op.makeSlice 31 l c) (n : Nat) (hn : n ≤ 1000000) (hl : a.eval l = .int .i64 (n : Int)) (hc : a.eval c = .int .i64 (n : Int))
    (hK : ∀ w', Blo w' w.heap.size 5 (bys (List.replicate n 0)).toArray → Kept Nil w w' → wpList Try.prog ops Q rest (a.put o.dst (.slice (some ⟨w.heap.size, 0, none⟩) n n)) w') : wpList Try.prog ops Q (o :: rest) a w := by
  obtain ⟨i0, hi, hz0, hz1, hz2⟩ := info_parts Try.infb
  refine wpList_make_full w hg l c 31 hop w.heap.size 5 i0 (.int .u8 0) 1 Try.underlying31 hi hz0 hz1 .i64 .i64 (n : Int) (n : Int) n hl hc rfl rfl (by rw [hz2]; omega) (by unfold maxLen; omega) (Nat.le_refl _) ?_
  intro w' ho hgr
  rw [made_bysC] at ho
  rcases ho.2 with ⟨e, h0⟩ | ⟨g, cap, cur, e, hb, hg, hnc, hcap, hsz, htk⟩
  · cases e
  · cases e
    refine hK w' ?_ ((Kept.refl Nil w).grown hgr (fun k hk => by cases hk))
    rw [Nat.mul_one] at htk
    rw [List.take_of_length_le (by rw [Array.length_toList, hsz]; omega)] at htk
    have hcu : cur = (bys (List.replicate n 0)).toArray := by rw [← htk]
    rw [← hcu]
    exact hg
theorem wpList_mkO {w : World} {ops : Array Oper} {rest : List Oper} {o : Oper} {a : Act} {Q : Exit → Act → World → Prop} (hgd : Region.wanted o (yielded ops a.tmps) = true) (l c : Operand) (hop : o.op = Op.makeSlice 31 l c) (n : Nat) (hn : n ≤ 1000000) (hl : a.eval l = .int .i64 (n : Int)) (hc : a.eval c = .int .i64 (n : Int))
    (hK : ∀ w', Blo w' w.heap.size 5 (bys (List.replicate n 0)).toArray → Kept Nil w w' → wpList Try.prog ops Q rest (a.put o.dst (.slice (some ⟨w.heap.size, 0, none⟩) n n)) w') : wpList Try.prog ops Q (o :: rest) a w := by
  obtain ⟨i0, hi, hz0, hz1, hz2⟩ := info_parts Try.infb
  refine BigFrame.wpList_want hgd fun K hK' => ?_
  obtain ⟨w', hrun, ho, hgr⟩ := run_make_full (P := Try.prog) w w.heap.size 31 5 i0 (.int .u8 0) 1 Try.underlying31 hi hz0 hz1 .i64 .i64 n (by rw [hz2]; omega) (by unfold maxLen; omega) (Nat.le_refl _)
  have hfin : Blo w' w.heap.size 5 (bys (List.replicate n 0)).toArray := by
    rw [made_bysC] at ho
    rcases ho.2 with ⟨e, h0⟩ | ⟨g, cap, cur, e, hb, hg, hnc, hcap, hsz, htk⟩
    · cases e
    · cases e
      rw [Nat.mul_one] at htk
      rw [List.take_of_length_le (by rw [Array.length_toList, hsz]; omega)] at htk
      have hcu : cur = (bys (List.replicate n 0)).toArray := by rw [← htk]
      rw [← hcu]
      exact hg
  unfold Oper.wp
  simp [execOp, hop, hl, hc, hrun, Result.andThen]
  exact hK' _ _ (hK w' hfin ((Kept.refl Nil w).grown hgr (fun k hk => by cases hk)))
/-- A row known whole: its bytes. -/
theorem bloB {w : World} {g : Nat} {T : TypeId} {l : List UInt8} (h : Blo w g T (bys l).toArray) (n : Nat) (hn : l.length = n) (hc : n ≤ 9223372036854775807) : Byt w (some ⟨g, 0, none⟩) n n l := by
  subst hn
  refine ⟨rfl, Nat.le_refl _, hc, fun _ => ⟨g, 0, rfl, fun i hi => ?_⟩⟩
  rw [h.cell]
  simp [bys, hi]
theorem bloPut {w : World} {g : Nat} {T : TypeId} {l : List UInt8} {i : Nat} {b : UInt8} (hi : i < l.length) (h : Blo w g T ((bys l).take i ++ [Value.int .u8 (b.toNat : Int)] ++ (bys l).drop (i + [Value.int .u8 (b.toNat : Int)].length)).toArray) : Blo w g T (bys (l.set i b)).toArray := by
  rw [show (bys l).take i ++ [Value.int .u8 (b.toNat : Int)] ++ (bys l).drop (i + [Value.int .u8 (b.toNat : Int)].length) = bys (l.set i b) by
    unfold bys
    rw [List.map_set, List.set_eq_take_append_cons_drop, if_pos (by rw [List.length_map]; exact hi)]
    simp] at h
  exact h
theorem szC : (Try.prog.info? 5).map (·.size) = some 1 := by kernel_rfl
end Go.Proofs.Ytbkjobmjapbmpaa
