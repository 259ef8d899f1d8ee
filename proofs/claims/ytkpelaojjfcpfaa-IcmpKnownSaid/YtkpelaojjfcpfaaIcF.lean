/- tolllaw08: the chapter's rows (tells). -/
import Derived.Test.YtkpelaojjfcpfaaIcD
import Derived.Test.YtkpelaojjfcpfaaIcE
namespace Go.Proofs.Ytkpelaojjfcpfaa
open Go.RowKit Go.Sort
set_option linter.unusedVariables false

def m8 : Ms := ⟨8, 0, 0, 0, 0, 0, []⟩
def mT (t : UInt8) : Ms := ⟨t, 0, 0, 0, 0, 0, []⟩
theorem put8 : putI m8 = ([8, 0, 247, 255, 0, 0, 0, 0], 0) := by decide +kernel
set_option maxRecDepth 100000 in
set_option maxHeartbeats 4000000 in
theorem itells_yes (w : World) : Calls Try.prog 11 #[] w fun e w' => e = .returned (.bool true) ∧ Kept Nil w w' := by
  have hput : ∀ u, Calls Try.prog 12 #[.agg #[.int .u8 8, .int .u8 0, .int .u8 0, .int .u8 0, .int .u8 0, .int .u8 0, .slice none 0 0]] u fun e w' => ∃ v, e = .returned (.tuple #[v, .int .i64 0]) ∧ Made u w' v [8, 0, 247, 255, 0, 0, 0, 0] := fun u => by
    have := icput_yes m8 none 0 0 u (Byt.none u) (by omega)
    rw [put8] at this
    exact this
  have hback : ∀ u, Calls Try.prog 13 #[.agg #[.int .u8 13, .int .u8 0, .int .u8 0, .int .u8 0, .int .u8 0, .int .u8 0, .slice none 0 0]] u fun e w' => e = .returned (.tuple #[.int .u8 14, .bool true]) ∧ Kept Nil u w' := fun u => back_yes (mT 13) none 0 0 u
  have HB := Lib.hid hback
  go_enter Try.func11, Try.ntmps11
  go_wp2_with (fail)
  refine (hput _).mono ?_
  clear hput hback
  rintro e w1 ⟨v, rfl, hm⟩
  obtain ⟨A, c, rfl, hy, -⟩ := byt_own hm
  have hy : Byt w1 A 8 c [8, 0, 247, 255, 0, 0, 0, 0] := hy
  have HY := Lib.hid hy
  have HK := Lib.hid hm.2
  clear hm hy
  go_wp2_with (fail)
  refine (HB.out _).mono ?_
  rintro e w2 ⟨rfl, hk⟩
  have HK2 := Lib.hid (HK.out.then hk)
  have htx := (HY.out.kept hk (fun _ _ hf => hf)).text (P := Try.prog) Try.underlying22 Try.underlying5 Try.underlying9
  clear hk HB HY HK
  go_wp2
  go_ret
  exact ⟨rfl, HK2.out⟩
end Go.Proofs.Ytkpelaojjfcpfaa
