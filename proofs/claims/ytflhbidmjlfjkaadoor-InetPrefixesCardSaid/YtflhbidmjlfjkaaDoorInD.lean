/- Options that may be. Nothing of the program is named here. -/
import Derived.Test.YtflhbidmjlfjkaaDoorInC
namespace Go.Proofs.YtflhbidmjlfjkaaDoor
set_option linter.unusedVariables false

theorem go_ones (f n : Nat) : optsGo f (List.replicate n 1) = true := by
  induction f generalizing n with
  | zero => rfl
  | succ f ih =>
    cases n with
    | zero => rfl
    | succ n =>
      rw [List.replicate_succ]
      unfold optsGo
      rw [if_neg (by decide), if_pos rfl]
      exact ih n
/-- Options of ones, the first of them another one, of four bytes. -/
def madeO (n : Nat) (a : UInt8) : List UInt8 := if n < 4 then List.replicate n 1 else a :: 4 :: List.replicate (n - 2) 1
theorem made_len (n : Nat) (a : UInt8) : (madeO n a).length = n := by
  unfold madeO
  split
  · simp
  · simp; omega
theorem made_opts (n : Nat) (a : UInt8) (h40 : n ≤ 40) (h4 : n % 4 = 0) (ha : 2 ≤ a.toNat) : optsM (madeO n a) = true := by
  unfold optsM
  rw [made_len, decide_eq_true ⟨h40, h4⟩, Bool.true_and]
  unfold madeO
  split
  · exact go_ones _ _
  · rename_i hn
    obtain ⟨f, rfl⟩ : ∃ f, n = f + 1 := ⟨n - 1, by omega⟩
    have a0 : a ≠ 0 := fun h => by rw [h] at ha; revert ha; decide
    have a1 : a ≠ 1 := fun h => by rw [h] at ha; revert ha; decide
    unfold optsGo
    rw [if_neg a0, if_neg a1]
    simp only
    rw [if_neg (by rw [show (4 : UInt8).toNat = 4 from rfl]; simp; omega)]
    have e : (a :: 4 :: List.replicate (f + 1 - 2) (1 : UInt8)).drop (4 : UInt8).toNat = List.replicate (f + 1 - 4) 1 := by
      rw [show (4 : UInt8).toNat = 2 + 2 from rfl, ← List.drop_drop]
      show (List.replicate (f + 1 - 2) (1 : UInt8)).drop 2 = _
      rw [List.drop_replicate]
      rfl
    rw [e]
    exact go_ones _ _
theorem or_two (x : UInt8) : 2 ≤ (x ||| 2).toNat := by
  rw [UInt8.toNat_or]
  exact Nat.right_le_or
end Go.Proofs.YtflhbidmjlfjkaaDoor
