/- make([]byte, n) inside a region in free order, and its text. -/
import Derived.Test.YtkpelaojjfcpfaaIcD
import Derived.Test.YtkpelaojjfcpfaaIcR
import Derived.Test.YtkpelaojjfcpfaaMkC
namespace Go.Proofs.Ytkpelaojjfcpfaa
open Go.RowKit Go.Sort
set_option linter.unusedVariables false

theorem mk_exec {w : World} {o : Oper} {a : Act} (l c : Operand) (hop : o.op = Op.makeSlice 22 l c) (n : Nat) (hn : n ≤ 1000000) (hl : a.eval l = .int .i64 (n : Int)) (hc : a.eval c = .int .i64 (n : Int)) :
    ∃ w', (execOp a.eval o).run Try.prog w = .ok (.value (.slice (some ⟨w.heap.size, 0, none⟩) n n)) w' ∧ Blo w' w.heap.size 5 (bys (List.replicate n 0)).toArray ∧ Kept Nil w w' := by
  obtain ⟨i0, hi, hz0, hz1, hz2⟩ := info_parts Try.infb
  obtain ⟨w', hrun, ho, hgr⟩ := run_make_full (P := Try.prog) w w.heap.size 22 5 i0 (.int .u8 0) 1 Try.underlying22 hi hz0 hz1 .i64 .i64 n (by rw [hz2]; omega) (by unfold maxLen; omega) (Nat.le_refl _)
  refine ⟨w', ?_, ?_, (Kept.refl Nil w).grown hgr (fun k hk => by cases hk)⟩
  · simp [execOp, hop, hl, hc, hrun, Result.andThen]
  · rw [made_bysC] at ho
    rcases ho.2 with ⟨e, h0⟩ | ⟨g, cap, cur, e, hb, hg, hnc, hcap, hsz, htk⟩
    · cases e
    · cases e
      rw [Nat.mul_one] at htk
      rw [List.take_of_length_le (by rw [Array.length_toList, hsz]; omega)] at htk
      have hcu : cur = (bys (List.replicate n 0)).toArray := by rw [← htk]
      rw [← hcu]
      exact hg
theorem tLex_mks {ops : Array Oper} {F : Nat → Prop} {W : World} {acts : List Nat} {Z : Nat → List Value → Array Value × TypeId} {vs : Nat → Value} {I : (Nat → Prop) → List Value → World → Prop} {Pv : Nat → Value → Prop} {T : Act → Mad → List Value → Prop}
    {o : Oper} {rest : List Oper} {k : Nat} {a : Act} {L : Mad} {s : List Value} (hg : Region.wanted o (yielded ops a.tmps) = true) (hk : acts.contains k = true) (l c : Operand) (hop : o.op = Op.makeSlice 22 l c) (n : Nat) (hn : n ≤ 1000000) (hl : a.eval l = .int .i64 (n : Int)) (hc : a.eval c = .int .i64 (n : Int)) (v0 : Value) (hv : Pv k v0)
    (hI : ∀ D u u' g, Kept F W u → I D s u → g = u.heap.size → Blo u' g 5 (bys (List.replicate n 0)).toArray → Kept Nil u u' → Pv k (.slice (some ⟨g, 0, none⟩) n n) ∧ I D (s ++ [.slice (some ⟨g, 0, none⟩) n n]) u')
    (h : ∀ v, Pv k v → tLex Try.prog ops F W acts Z vs I Pv T rest (k + 1) (a.put o.dst v) L (s ++ [v])) : tLex Try.prog ops F W acts Z vs I Pv T (o :: rest) k a L s := by
  have hkd : kdOf ops acts k o a = .act := by
    unfold kdOf
    rw [if_pos hg, if_pos hk]
  show tO Try.prog ops F W acts Z vs I Pv k o _ a L s
  unfold tO
  simp only [hkd]
  refine ⟨fun D u hu hIu hd => ?_, ⟨v0, hv⟩, h⟩
  obtain ⟨u', h1, h2, h3⟩ := mk_exec (w := u) l c hop n hn hl hc
  rw [h1]
  obtain ⟨h4, h5⟩ := hI D u u' _ hu hIu rfl h2 h3
  exact ⟨h4, hu.then h3, h5, h3.size, fun k _ hk' => h3.block k hk' (fun hf => hf)⟩
/-- What the two acts answer: the slice, its text. -/
def mzP (n : Nat) (i : Nat) (v : Value) : Prop := match i with
  | 20 => ∃ g, v = .slice (some ⟨g, 0, none⟩) n n
  | _ => v = .string ⟨(List.replicate n (0 : UInt8)).toArray⟩
def mzI (n : Nat) (D : Nat → Prop) (s : List Value) (u : World) : Prop := match s with
  | [] => True
  | v :: _ => ∃ g, v = .slice (some ⟨g, 0, none⟩) n n ∧ Blo u g 5 (bys (List.replicate n 0)).toArray
theorem mzI_keeps (n : Nat) : Keeps (mzI n) where
  quiet := fun D s u u' h hk => by
    cases s with
    | nil => trivial
    | cons v s => obtain ⟨g, hv, hb⟩ := h; exact ⟨g, hv, hb.kept hk (fun hf => hf)⟩
  make := fun D s u o h => by
    cases s with
    | nil => trivial
    | cons v s => obtain ⟨g, hv, hb⟩ := h; exact ⟨g, hv, hb.kept ((Kept.refl Nil u).alloc o) (fun hf => hf)⟩
end Go.Proofs.Ytkpelaojjfcpfaa
