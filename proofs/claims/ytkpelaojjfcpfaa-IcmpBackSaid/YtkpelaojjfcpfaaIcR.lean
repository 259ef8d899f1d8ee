/- Steps of a region that turns a word of bytes: element by element, in free order. -/
import Derived.Test.YtkpelaojjfcpfaaCst
import Derived.Test.YtkpelaojjfcpfaaOwnB
namespace Go.Proofs.Ytkpelaojjfcpfaa
open Go.RowKit Go.Sort
set_option linter.unusedVariables false

theorem xor_8 (a b : UInt8) : bits .xor .u8 (a.toNat : Int) (b.toNat : Int) = ((a ^^^ b).toNat : Int) := by
  rw [u8_xor_nat a.toNat b.toNat a.toNat_lt b.toNat_lt, UInt8.toNat_xor]
section
variable {P : Program} {o : Oper} {a : Act} {u : World}
theorem exec_iaB (t : TypeId) (p x : Operand) (ho : o.op = .indexAddr t p x) {v y r : Value} (hp : a.eval p = v) (hx : a.eval x = y) (hr : (Instr.indexAt t v y).run P u = .ok r u) : (execOp a.eval o).run P u = .ok (.value r) u := by
  unfold execOp
  simp only [ho, hp, hx, Sem.run_bind, hr, Result.andThen_ok, Sem.run_pure]
theorem exec_ldI (ty : TypeId) (p : Operand) (ho : o.op = .load ty p) {g f : Nat} {v : Value} {q : IntKind} (hp : a.eval p = .pointer (some ⟨g, f, none⟩)) (hc : u.cell? ⟨g, f, none⟩ = some v) (hu : P.underlying ty = some (.int q)) :
    (execOp a.eval o).run P u = .ok (.value v) u := by
  have hl : (loadVar ty ⟨g, f, none⟩).run P u = .ok v u := by simp [loadVar, isAgg, run_underlying hu, hc, go_sem]
  unfold execOp
  simp only [ho, hp, Instr.loadAt, Instr.sureAddr, Sem.run_bind, Sem.run_pure, Result.andThen_ok, hl]
theorem exec_cvI (src dst : TypeId) (x : Operand) (ho : o.op = .convert src dst x) {v r : Value} (hx : a.eval x = v) (hr : (convert src dst v).run P u = .ok r u) : (execOp a.eval o).run P u = .ok (.value r) u := by
  unfold execOp
  simp only [ho, hx, Sem.run_bind, hr, Result.andThen_ok, Sem.run_pure]
end
theorem ia_b (g n c k : Nat) (h : k < n) (u : World) : (Instr.indexAt 22 (.slice (some ⟨g, 0, none⟩) n c) (.int .i64 (k : Int))).run Try.prog u = .ok (pAt g k) u := by
  have hs : (sizeOf 5).run Try.prog u = .ok 1 u := by kernel_rfl
  have h1 : (0 : Int) ≤ (k : Int) ∧ (k : Int) < (n : Int) := by omega
  simp [Instr.indexAt, asIntOf, run_underlying Try.underlying22, h1, hs, pAt, Addr.add]
  rw [if_pos h]
  by_cases h0 : k = 0
  · subst h0; rfl
  · rw [if_neg h0]
theorem add_c (k k1 : Nat) (h : k + 1 = k1) (hk : k < 100000) (p q : Operand) (u : World) : ((do eqGuard .add 3 p q (.int .i64 (k : Int)) (.int .i64 1); binOp .add 3 (.int .i64 (k : Int)) (.int .i64 1)) : Sem Value).run Try.prog u = .ok (.int .i64 (k1 : Int)) u := by
  subst h
  have e : IntKind.i64.wrap ((k : Int) + 1) = (k : Int) + 1 := IntWalk.i64_in _ (by omega)
  simp [eqGuard, binOp, Op.intArith, e]
theorem shr_c (b : Nat) (H : UInt8) (h : b / 256 = H.toNat) (p q : Operand) (u : World) : ((do eqGuard .shr 35 p q (.int .u16 (b : Int)) (.int .u64 8); binOp .shr 35 (.int .u16 (b : Int)) (.int .u64 8)) : Sem Value).run Try.prog u = .ok (.int .u16 (H.toNat : Int)) u := by
  have e : (b : Int).fdiv 256 = (H.toNat : Int) := by rw [Int.fdiv_eq_ediv_of_nonneg _ (by decide)]; omega
  simp [eqGuard, binOp, Op.shift, go_sem, e]
theorem cvH_c (H : UInt8) (u : World) : (convert 35 5 (.int .u16 (H.toNat : Int))).run Try.prog u = .ok (.int .u8 (H.toNat : Int)) u := by
  have e : IntKind.u8.wrap (H.toNat : Int) = (H.toNat : Int) := IntWalk.u8_in _ (by have := H.toNat_lt; omega)
  simp [convert, run_underlying Try.underlying5, run_underlying Try.underlying35, Conv.intToInt, e]
theorem cvL_c (b : Nat) (L : UInt8) (h : b % 256 = L.toNat) (u : World) : (convert 35 5 (.int .u16 (b : Int))).run Try.prog u = .ok (.int .u8 (L.toNat : Int)) u := by
  have e : IntKind.u8.wrap (b : Int) = (L.toNat : Int) := by show (b : Int) % 256 = _; omega
  simp [convert, run_underlying Try.underlying5, run_underlying Try.underlying35, Conv.intToInt, e]
theorem xor_c (x h : UInt8) (p q : Operand) (u : World) : ((do eqGuard .xor 5 p q (.int .u8 (x.toNat : Int)) (.int .u8 (h.toNat : Int)); binOp .xor 5 (.int .u8 (x.toNat : Int)) (.int .u8 (h.toNat : Int))) : Sem Value).run Try.prog u = .ok (.int .u8 ((x ^^^ h).toNat : Int)) u := by
  have e : IntKind.u8.wrap ((BitVec.ofInt IntKind.u8.bits (x.toNat : Int) ^^^ BitVec.ofInt IntKind.u8.bits (h.toNat : Int)).toNat : Int) = ((x ^^^ h).toNat : Int) := xor_8 x h
  simp only [eqGuard, binOp, Op.intBits, e]
  rfl
end Go.Proofs.Ytkpelaojjfcpfaa
