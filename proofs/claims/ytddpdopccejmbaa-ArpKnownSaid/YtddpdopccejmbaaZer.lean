/- append of zeros (gc's append-of-make) behind a row whose capacity is full. Nothing of the program is named here. -/
import Derived.Test.YtddpdopccejmbaaAgg
import Derived.Lib.AppendZeros
namespace Go.Proofs.Ytddpdopccejmbaa
open Go.RowKit Go.Sort
set_option linter.unusedVariables false

theorem run_append_zeros {P : Program} (w : World) (t tn ty e : TypeId) (i : TypeInfo) (z : Value) (k kn : IntKind) (ht : P.underlying t = some (.slice e)) (htn : P.underlying tn = some (.int kn)) (hi : P.info? e = some i) (hz : i.zero = some z) (hs : i.size = 1) (hby : i.bytes = 1)
    (n m : Nat) (h0 : 0 < n) (a : Addr) (xs : List Value) (hx : xs.length = m) (hl : ∀ j u, xs[j]? = some u → w.cell? (a.add j) = some u) (hb : n + m ≤ 1099511627776) :
    (Builtin.append_ #[t, tn] ty #[.slice (some a) m m, .int k (n : Int)]).run P w =
      .ok (.slice (some ⟨w.heap.size, 0, none⟩) (m + n) (grownCap w (m + n) m e)) (w.drew.alloc (.cells (xs.toArray ++ Builtin.zeroCells z.cells n ++ Builtin.zeroCells z.cells (grownCap w (m + n) m e - (m + n))) e)) := by
  have hw : IntKind.i64.wrap (n : Int) = n := by rw [IntKind.wrap_i64]; omega
  have hneg : ¬ ((n : Int) < 0) := by omega
  have hn : n ≠ 0 := by omega
  have h48i : ¬ (281474976710656 < (n : Int)) := by omega
  have h63 : ¬ (9223372036854775807 < (m : Int) + (n : Int)) := by omega
  have hnc := nextslicecap_le (need := m + n) (old := m) (by omega)
  have h48 : ¬ (281474976710656 < Builtin.nextslicecap (m + n) m) := by omega
  have hle : ¬ (m + n ≤ m) := by omega
  have hf := run_firstCells_some (P := P) w.drew 1 m a m m xs (by rw [hx, Nat.mul_one]) (by simpa using hl)
  have hle2 : ¬ (n ≤ 0) := by omega
  simp [Builtin.append_, run_underlying ht, run_underlying htn, sizeOf, typeInfo, zeroValue, hi, hz, hs, hby, asInt, asIntOf, hw, hn, hneg, h48i, h63, h48, Question.forced, hf, newRow, grownCap]
  intro hh
  exact absurd hh hle
/-- The same, as bytes. -/
theorem zeros_bytes (n : Nat) : Builtin.zeroCells (Value.int .u8 0).cells n = (bys (List.replicate n 0)).toArray := by
  apply Array.ext'
  simp [Builtin.zeroCells, Value.cells, bys]
  induction n with
  | zero => rfl
  | succ n ih => rw [List.range_succ, List.map_append, ih, List.replicate_succ']; simp [Nat.mod_one]
end Go.Proofs.Ytddpdopccejmbaa
