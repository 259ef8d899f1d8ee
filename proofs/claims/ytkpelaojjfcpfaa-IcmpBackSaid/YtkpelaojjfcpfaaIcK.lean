/- tolllaw08: messages are alike. -/
import Derived.Test.YtkpelaojjfcpfaaIcA
import Derived.Test.YtkpelaojjfcpfaaUpto
import Derived.Test.YtkpelaojjfcpfaaLib
import Derived.Stop.BytesEq
import Derived.BigCall
import Derived.WalkSpells
import Derived.WalkLawsBesides
import Derived.Deep.DeepCutAuto
namespace Go.Proofs.Ytkpelaojjfcpfaa
open Go.RowKit Go.Sort
set_option linter.unusedVariables false

theorem siz4 (w : World) : (sizeOf 5).run Try.prog w = .ok 1 w := by kernel_rfl
set_option maxRecDepth 100000 in
theorem eq_rest (l : List UInt8) (h : l.length = 4) (w : World) : (Op.equalIn 10000 23 (.agg (bys l).toArray) (.agg (bys l).toArray)).run Try.prog w = .ok true w := by
  have := run_equalIn_bytes w 9998 23 5 4 Try.underlying23 Try.underlying5 siz4 l l h h
  rw [beq_self_eq_true] at this
  exact this
set_option maxRecDepth 100000 in
set_option maxHeartbeats 8000000 in
theorem alike_yes (m : Ms) (A : Option Addr) (n c : Nat) (B : Option Addr) (k d : Nat) (w : World) (h : Byt w A n c m.b) (h' : Byt w B k d m.b) :
    Calls Try.prog 10 #[.agg (ics m A n c).toArray, .agg (ics m B k d).toArray] w fun e w' => e = .returned (.bool true) ∧ Kept Nil w w' := by
  have hP := (MB.new w 25 m A n c).kept ((Kept.refl Nil _).alloc (.cells (ics m B k d).toArray 29)) (fun hf => hf)
  have hQ := MB.new (w.alloc (.cells (ics m A n c).toArray 25)) 29 m B k d
  have hk := ((Kept.refl Nil w).alloc (.cells (ics m A n c).toArray 25)).alloc (.cells (ics m B k d).toArray 29)
  have hE := eq_rest m.rest rfl
  rw [World.size_alloc] at hQ
  go_enter Try.func10, Try.ntmps10
  go_upto_region 1 with (fail)
  refine wp_nameE (fun W => MB W w.heap.size 25 m A n c ∧ MB W (w.heap.size + 1) 29 m B k d ∧ Kept Nil w W) ⟨hP, hQ, hk⟩ ?_
  clear hP hQ hk
  rintro W ⟨hP, hQ, hk⟩
  have HP := Lib.hid hP
  have HQ := Lib.hid hQ
  have HK := Lib.hid hk
  have p0 := hP.c0
  have p1 := hP.c1
  have p6 := hP.c6
  have q0 := hQ.c0
  have q1 := hQ.c1
  have q6 := hQ.c6
  have tx1 := (h.kept hk (fun _ _ hf => hf)).text (P := Try.prog) Try.underlying22 Try.underlying5 Try.underlying9
  have tx2 := (h'.kept hk (fun _ _ hf => hf)).text (P := Try.prog) Try.underlying22 Try.underlying5 Try.underlying9
  clear hP hQ hk h h'
  go_wp2_with (first
    | (refine wpList_ld rfl 23 _ rfl w.heap.size 2 rfl (bys m.rest) HP.out.rr _ Try.underlying23 rfl (infR4 m) ?_; simp only [Act.put, List.setIfInBounds_toArray, List.set_cons_succ, List.set_cons_zero])
    | (refine wpList_ld rfl 23 _ rfl (w.heap.size + 1) 2 rfl (bys m.rest) HQ.out.rr _ Try.underlying23 rfl (infR4 m) ?_; simp only [Act.put, List.setIfInBounds_toArray, List.set_cons_succ, List.set_cons_zero])
    | fail)
  go_ret
  exact ⟨rfl, HK.out⟩
end Go.Proofs.Ytkpelaojjfcpfaa
