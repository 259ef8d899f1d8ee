/- tolllaw07: small steps of the regions that cut fields. -/
import Derived.Test.YthjbabkmjmfmjaaDoorMg6
import Derived.Test.YthjbabkmjmfmjaaDoorMg20
namespace Go.Proofs.YthjbabkmjmfmjaaDoor
open Go.RowKit Go.Sort
set_option linter.unusedVariables false

theorem fa_t9 (g : Nat) (u : World) : (Instr.fieldAt 29 (pAt g 0) 9).run Tryd.prog u = .ok (pAt g 9) u := by kernel_rfl
theorem fa_t10 (g : Nat) (u : World) : (Instr.fieldAt 29 (pAt g 0) 10).run Tryd.prog u = .ok (pAt g 10) u := by kernel_rfl
theorem fa_u4 (g : Nat) (u : World) : (Instr.fieldAt 38 (pAt g 0) 4).run Tryd.prog u = .ok (pAt g 4) u := by kernel_rfl
theorem ln_c (A : Option Addr) (n c : Nat) (ty : TypeId) (u : World) : (Builtin.len_ #[22] ty #[.slice A n c]).run Tryd.prog u = .ok (.int .i64 (n : Int)) u := by
  simp [Builtin.len_, Builtin.lenOf, run_underlying Tryd.underlying22, goInt]
theorem ln_t (s : ByteArray) (ty : TypeId) (u : World) : (Builtin.len_ #[9] ty #[.string s]).run Tryd.prog u = .ok (.int .i64 (s.size : Int)) u := by
  simp [Builtin.len_, Builtin.lenOf, run_underlying Tryd.underlying9, goInt]
theorem mn_c (n b m : Nat) (ty : TypeId) (u : World) (h : (if (b : Int) < (n : Int) then (b : Int) else (n : Int)) = (m : Int)) : (Builtin.min_ #[3, 3] ty #[.int .i64 (n : Int), .int .i64 (b : Int)]).run Tryd.prog u = .ok (.int .i64 (m : Int)) u := by
  rw [← h]
  simp [Builtin.min_, Builtin.min2]
theorem sliceH (s : ByteArray) (j : Nat) (hj : j ≤ s.size) (w : World) : (Instr.slice 9 (.string s) none (some (.int .i64 (j : Int))) none).run Tryd.prog w = .ok (.string (s.extract 0 j)) w := by
  have g1 : (Instr.sliceBound (.int .i64 (j : Int)) s.size .sliceAlen).run Tryd.prog w = .ok j w := by simp [Instr.sliceBound, asIntOf, hj]
  simp [Instr.slice, run_underlying Tryd.underlying9, Instr.sliceBounds, g1]
theorem cut_again (s : ByteArray) (m : Nat) (h : m ≤ s.size) : (s.extract 0 m).extract 0 m = s.extract 0 m := by
  apply ByteArray.ext
  simp
  try omega
theorem cut_size (s : ByteArray) (m : Nat) (h : m ≤ s.size) : (s.extract 0 m).size = m := by
  simp
  try omega
theorem infBs : (Tryd.prog.info? 22).map (·.size) = some 1 := by kernel_rfl
end Go.Proofs.YthjbabkmjmfmjaaDoor
