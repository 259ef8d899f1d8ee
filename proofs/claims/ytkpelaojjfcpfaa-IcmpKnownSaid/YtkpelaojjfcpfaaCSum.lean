/- The two ways to make a sum are one. -/
import Derived.Test.YtkpelaojjfcpfaaSum
import Derived.Test.YtkpelaojjfcpfaaInD
namespace Go.Proofs.Ytkpelaojjfcpfaa
open Go.RowKit
set_option linter.unusedVariables false

theorem runS_add (l : List UInt8) (x : Nat) : (runS (x, true) l).1 = x + totM l := by
  match l with
  | [] => simp [runS, totM_nil]
  | [a] => simp [runS, stepS, totM, wordsM]; omega
  | a :: b :: r =>
    have := runS_add r (x + a.toNat * 256 + b.toNat)
    rw [totM_cons2]
    have e : runS (x, true) (a :: b :: r) = runS (x + a.toNat * 256 + b.toNat, true) r := by simp [runS, stepS]
    rw [e, this]
    omega
theorem csum_eq (l : List UInt8) : csumM l = sumM l := by
  unfold csumM sumM
  rw [accM_eq, runS_add, Nat.zero_add]
  rfl
end Go.Proofs.Ytkpelaojjfcpfaa
