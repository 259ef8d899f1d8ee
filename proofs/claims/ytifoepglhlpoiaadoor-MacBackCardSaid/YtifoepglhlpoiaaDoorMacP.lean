/- Contracts of strconv.ParseUint where it fails. -/
import Derived.Test.YtifoepglhlpoiaaDoorMacF
import Derived.Test.YtifoepglhlpoiaaDoorShelf
namespace Go.Proofs.YtifoepglhlpoiaaDoor
open Go.RowKit
set_option linter.unusedVariables false

/-- What the package strconv's variable ErrSyntax is: some error. -/
def Syn (w : World) : Prop := ∃ te pe, w.cell? ⟨1, 0, none⟩ = some (.iface te pe)
theorem Syn.kept {w w' : World} (h : Syn w) (k : Kept Nil w w') : Syn w' := by
  obtain ⟨te, pe, hc⟩ := h
  exact ⟨te, pe, k.cell hc (fun hf => hf)⟩
set_option maxRecDepth 100000 in
theorem toErr (fn s : ByteArray) (base bits : Int) (hl : s.size ≤ 1000) (w : World) (hS : Syn w) :
    Calls Tryd.prog 51 #[.string fn, .string s, .int .i64 base, .int .i64 bits, .iface 94 (.int .i64 2)] w fun e w' => ∃ N, e = .returned (.iface 96 (.pointer (some ⟨N, 0, none⟩))) ∧ Kept Nil w w' := by
  obtain ⟨te, pe, hc⟩ := hS
  exact (Tryd.strconv_toError_syntax fn s base bits (.iface te pe) w (by omega) hc (.inr ⟨te, pe, rfl⟩)).mono fun e w' ⟨N, h1, _, _, h2⟩ => ⟨N, h1, Kept.of_below h2⟩

set_option maxHeartbeats 2000000 in
set_option maxRecDepth 100000 in
theorem puf16 (t : ByteArray) (hne : t.size ≠ 0) (h2 : t.size ≤ 2) (h : numB 16 0 t.data.toList = none) (w : World) (hS : Syn w) :
    Calls Tryd.prog 37 #[.string t, .int .i64 16, .int .i64 8] w fun e w' => ∃ N, e = .returned (.tuple #[.int .u64 0, .iface 96 (.pointer (some ⟨N, 0, none⟩))]) ∧ Kept Nil w w' := by
  have hp := fun w => pu16 t hne h2 w
  rw [h] at hp
  have hp2 : ∀ w, Calls Tryd.prog 50 #[.string t, .int .i64 16, .int .i64 8] w fun e w' => e = .returned (.tuple #[.int .u64 0, .iface 94 (.int .i64 2)]) ∧ Kept Nil w w' := hp
  have HP := Lib.hid hp2
  have HS := Lib.hid hS
  have HT := Lib.hid (fun w hS => toErr ⟨#[80, 97, 114, 115, 101, 85, 105, 110, 116]⟩ t 16 8 (by omega) w hS)
  clear hp hp2 h hS
  go_enter Tryd.func37, Tryd.ntmps37
  go_wp2_with fail
  refine (HP.out _).mono ?_
  rintro e w1 ⟨rfl, hk1⟩
  have HK1 := Lib.hid hk1
  clear hk1
  go_wp2_with fail
  refine (HT.out _ (HS.out.kept HK1.out)).mono ?_
  rintro e w2 ⟨N, rfl, hk2⟩
  have HK2 := Lib.hid (HK1.out.then hk2)
  clear hk2
  go_wp2
  go_ret2
  exact ⟨N, rfl, HK2.out⟩
set_option maxHeartbeats 2000000 in
set_option maxRecDepth 100000 in
theorem puf10 (t : ByteArray) (hne : t.size ≠ 0) (h2 : t.size ≤ 2) (h : numB 10 0 t.data.toList = none) (w : World) (hS : Syn w) :
    Calls Tryd.prog 37 #[.string t, .int .i64 10, .int .i64 8] w fun e w' => ∃ N, e = .returned (.tuple #[.int .u64 0, .iface 96 (.pointer (some ⟨N, 0, none⟩))]) ∧ Kept Nil w w' := by
  have hp := fun w => pu10 t hne h2 w
  rw [h] at hp
  have hp2 : ∀ w, Calls Tryd.prog 50 #[.string t, .int .i64 10, .int .i64 8] w fun e w' => e = .returned (.tuple #[.int .u64 0, .iface 94 (.int .i64 2)]) ∧ Kept Nil w w' := hp
  have HP := Lib.hid hp2
  have HS := Lib.hid hS
  have HT := Lib.hid (fun w hS => toErr ⟨#[80, 97, 114, 115, 101, 85, 105, 110, 116]⟩ t 10 8 (by omega) w hS)
  clear hp hp2 h hS
  go_enter Tryd.func37, Tryd.ntmps37
  go_wp2_with fail
  refine (HP.out _).mono ?_
  rintro e w1 ⟨rfl, hk1⟩
  have HK1 := Lib.hid hk1
  clear hk1
  go_wp2_with fail
  refine (HT.out _ (HS.out.kept HK1.out)).mono ?_
  rintro e w2 ⟨N, rfl, hk2⟩
  have HK2 := Lib.hid (HK1.out.then hk2)
  clear hk2
  go_wp2
  go_ret2
  exact ⟨N, rfl, HK2.out⟩
end Go.Proofs.YtifoepglhlpoiaaDoor
