/- Contracts of mac.Parse, where it succeeds. -/
import Derived.Test.YtflhbidmjlfjkaaDoorMacD
import Derived.Test.YtflhbidmjlfjkaaDoorMacE
namespace Go.Proofs.YtflhbidmjlfjkaaDoor
open Go.RowKit
set_option linter.unusedVariables false

set_option maxHeartbeats 2000000 in
set_option maxRecDepth 100000 in
theorem pub16 (t : ByteArray) (hne : t.size ≠ 0) (h2 : t.size ≤ 2) (n : Nat) (h : numB 16 0 t.data.toList = some n) (w : World) :
    Calls Tryd.prog 71 #[.string t, .int .i64 16, .int .i64 8] w fun e w' => e = .returned (.tuple #[.int .u64 (n : Int), .nilIface]) ∧ Kept Nil w w' := by
  have hp := fun w => pu16 t hne h2 w
  rw [h] at hp
  have hp2 : ∀ w, Calls Tryd.prog 81 #[.string t, .int .i64 16, .int .i64 8] w fun e w' => e = .returned (.tuple #[.int .u64 (n : Int), .nilIface]) ∧ Kept Nil w w' := hp
  have HP := Lib.hid hp2
  clear hp hp2 h
  go_enter Tryd.func71, Tryd.ntmps71
  go_wp2_with fail
  refine (HP.out _).mono ?_
  rintro e w1 ⟨rfl, hk1⟩
  have HK1 := Lib.hid hk1
  clear hk1
  go_wp2
  go_ret2
  exact ⟨rfl, HK1.out⟩
set_option maxHeartbeats 2000000 in
set_option maxRecDepth 100000 in
theorem pub10 (t : ByteArray) (hne : t.size ≠ 0) (h2 : t.size ≤ 2) (n : Nat) (h : numB 10 0 t.data.toList = some n) (w : World) :
    Calls Tryd.prog 71 #[.string t, .int .i64 10, .int .i64 8] w fun e w' => e = .returned (.tuple #[.int .u64 (n : Int), .nilIface]) ∧ Kept Nil w w' := by
  have hp := fun w => pu10 t hne h2 w
  rw [h] at hp
  have hp2 : ∀ w, Calls Tryd.prog 81 #[.string t, .int .i64 10, .int .i64 8] w fun e w' => e = .returned (.tuple #[.int .u64 (n : Int), .nilIface]) ∧ Kept Nil w w' := hp
  have HP := Lib.hid hp2
  clear hp hp2 h
  go_enter Tryd.func71, Tryd.ntmps71
  go_wp2_with fail
  refine (HP.out _).mono ?_
  rintro e w1 ⟨rfl, hk1⟩
  have HK1 := Lib.hid hk1
  clear hk1
  go_wp2
  go_ret2
  exact ⟨rfl, HK1.out⟩

/-- What an index into a text reads. -/
theorem idxS (s : ByteArray) (k : Nat) (c : UInt8) (h : s.data.toList[k]? = some c) (w : World) : (Instr.index 9 (.string s) (.int .i64 (k : Int))).run Tryd.prog w = .ok (.int .u8 (c.toNat : Int)) w := by
  have hk : k < s.size := by
    have := (List.getElem?_eq_some_iff.1 h).1
    rw [Lib.size_eq]
    exact this
  have hc : s[k]'hk = c := by
    have h2 := (List.getElem?_eq_some_iff.1 h).2
    rw [← h2]
    rfl
  simp [Instr.index, asIntOf, run_underlying Tryd.underlying9, hk, hc]
theorem ext_ok (s : ByteArray) (k : Nat) (hs : s.size = 17) (hk : k + 2 ≤ 17) : (s.extract k (k + 2)).size ≠ 0 ∧ (s.extract k (k + 2)).size ≤ 2 := by
  rw [ByteArray.size_extract]
  omega
end Go.Proofs.YtflhbidmjlfjkaaDoor
