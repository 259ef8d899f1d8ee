/- Bytes that stand in new memory; how many are looked at. -/
import Derived.Test.YtbkjobmjapbmpaaMem
namespace Go.Proofs.Ytbkjobmjapbmpaa
open Go.RowKit
set_option linter.unusedVariables false

/-- Bytes that stand in new memory. -/
def NewB (w w' : World) (A : Option Addr) (n c : Nat) (l : List UInt8) : Prop := Byt w' A n c l ∧ ∀ i, Lies A n i → w.heap.size ≤ i
theorem newB_none (w w' : World) : NewB w w' none 0 0 [] := ⟨Byt.none _, fun i hi => absurd hi.1 (by omega)⟩
theorem NewB.kept {w w1 w2 : World} {A : Option Addr} {n c : Nat} {l : List UInt8} {F : Nat → Prop} (h : NewB w w1 A n c l) (k : Kept F w1 w2) (hF : ∀ i, w.heap.size ≤ i → ¬ F i) : NewB w w2 A n c l := ⟨h.1.kept k (fun i hi => hF i (h.2 i hi)), h.2⟩
theorem NewB.older {w0 w w' : World} {A : Option Addr} {n c : Nat} {l : List UInt8} (h : NewB w w' A n c l) (hs : w0.heap.size ≤ w.heap.size) : NewB w0 w' A n c l := ⟨h.1, fun i hi => Nat.le_trans hs (h.2 i hi)⟩
theorem NewB.of_own {w0 w : World} {B e n : Nat} {v : Value} {l : List UInt8} (h : w.ownsRow B e 1 v n (bys l)) (hB : w0.heap.size ≤ B) : ∃ A c, v = .slice A n c ∧ NewB w0 w A n c l := by
  obtain ⟨A, c, rfl, hb, hl⟩ := Byt.of_own h
  exact ⟨A, c, rfl, hb, fun i hi => Nat.le_trans hB (hl i hi)⟩
theorem min60 (n : Nat) : ∃ m : Nat, (if (60 : Int) < (n : Int) then (60 : Int) else (n : Int)) = (m : Int) ∧ min (n : Int) 60 = (m : Int) ∧ m ≤ n ∧ m ≤ 60 ∧ m = min 60 n := ⟨min 60 n, by split <;> omega, by omega, by omega, by omega, rfl⟩
theorem min40 (n : Nat) : ∃ m : Nat, (if (40 : Int) < (n : Int) then (40 : Int) else (n : Int)) = (m : Int) ∧ min (n : Int) 40 = (m : Int) ∧ m ≤ n ∧ m ≤ 40 ∧ m = min 40 n := ⟨min 40 n, by split <;> omega, by omega, by omega, by omega, rfl⟩
theorem min8 (n : Nat) : ∃ m : Nat, (if (8 : Int) < (n : Int) then (8 : Int) else (n : Int)) = (m : Int) ∧ min (n : Int) 8 = (m : Int) ∧ m ≤ n ∧ m ≤ 8 ∧ m = min 8 n := ⟨min 8 n, by split <;> omega, by omega, by omega, by omega, rfl⟩
theorem min200 (n : Nat) : ∃ m : Nat, (if (200 : Int) < (n : Int) then (200 : Int) else (n : Int)) = (m : Int) ∧ min (n : Int) 200 = (m : Int) ∧ m ≤ n ∧ m ≤ 200 ∧ m = min 200 n := ⟨min 200 n, by split <;> omega, by omega, by omega, by omega, rfl⟩
end Go.Proofs.Ytbkjobmjapbmpaa
