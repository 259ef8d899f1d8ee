/- Package bpdu: Compare, what lays, Put. -/
import Derived.Test.YthjfeanmgaidcaaMg6
import Derived.Test.YthjfeanmgaidcaaRegP
import Derived.Test.YthjfeanmgaidcaaMg13
namespace Go.Proofs.Ythjfeanmgaidcaa
open Go.RowKit Go.Sort
set_option linter.unusedVariables false

theorem beM8 (n : Nat) : beM 8 n = beAll 4 [n / 4294967296, n % 4294967296] := by
  have e : ∀ k, k ≤ 3 → UInt8.ofNat (n % 4294967296 / 2 ^ (8 * k)) = UInt8.ofNat (n / 2 ^ (8 * k)) := by
    intro k hk
    apply UInt8.toNat_inj.1
    simp only [UInt8.toNat_ofNat']
    match k, hk with
    | 0, _ => simp <;> omega
    | 1, _ => simp <;> omega
    | 2, _ => simp <;> omega
    | 3, _ => simp <;> omega
  have d : ∀ k, n / 4294967296 / 2 ^ (8 * k) = n / 2 ^ (8 * (k + 4)) := by
    intro k
    rw [Nat.div_div_eq_div_mul, show (4294967296 : Nat) = 2 ^ 32 from rfl, ← Nat.pow_add]
    congr 2
    omega
  have e0 := e 0 (by omega)
  have e1 := e 1 (by omega)
  have e2 := e 2 (by omega)
  have e3 := e 3 (by omega)
  have d0 := d 0
  have d1 := d 1
  have d2 := d 2
  have d3 := d 3
  simp only [beAll, beM, List.map_cons, List.map_nil, List.flatten_cons, List.flatten_nil, List.append_nil, List.range_succ, List.range_zero, List.nil_append, List.map_append, List.cons_append]
  simp only [Nat.mul_zero, Nat.mul_one, Nat.zero_add] at e0 e1 e2 e3 d0 d1 d2 d3
  simp only [Nat.reduceSub, Nat.reduceMul, Nat.reduceAdd, Nat.mul_zero, Nat.sub_zero, Nat.sub_self] at *
  rw [e0, e1, e2, e3, d0, d1, d2, d3]

end Go.Proofs.Ythjfeanmgaidcaa
