/- tolllaw10: the rows (tells), sign. -/
import Derived.Test.YtbkjobmjapbmpaaBpE
import Derived.Test.YtbkjobmjapbmpaaOwnB
import Derived.Test.YtbkjobmjapbmpaaTagF
namespace Go.Proofs.Ytbkjobmjapbmpaa
open Go.RowKit Go.Sort
set_option linter.unusedVariables false

def exC : Bp := ⟨1, 0, 0, 0, 0, 0, 0, 1, 0, 0⟩
def exR : Bp := ⟨3, 0, 0, 0, 0, 0, 0, 1, 0, 0⟩
theorem exC_ok : exC.ok := ⟨by decide, by decide, by decide, by decide, by decide, by decide, by decide, by decide, by decide, by decide, by decide⟩
theorem exR_ok : exR.ok := ⟨by decide, by decide, by decide, by decide, by decide, by decide, by decide, by decide, by decide, by decide, by decide⟩
theorem ex_chg : putB Bp.chg = ([0, 0, 0, 128], 0) := by decide +kernel
theorem ex_c : (putB exC).1.length = 35 ∧ (putB exC).2 = 0 := by decide +kernel
theorem ex_r : (putB exR).1.length = 36 ∧ (putB exR).2 = 0 := by decide +kernel
set_option maxRecDepth 100000 in
set_option maxHeartbeats 2000000 in
theorem rows_yes (w : World) : Calls Try.prog 19 #[] w fun e w' => e = .returned (.bool true) ∧ Kept Nil w w' := by
  go_enter Try.func19, Try.ntmps19
  go_wp2_with (fail)
  refine (put_yes Bp.chg Bp.chg_ok _).mono ?_
  rintro e w1 ⟨v1, rfl, hm⟩
  rw [ex_chg] at hm ⊢
  obtain ⟨A1, c1, rfl, hy1, -⟩ := byt_own hm
  have HY := Lib.hid hy1
  have HK := Lib.hid hm.2
  clear hm hy1
  go_wp2_with (fail)
  refine (put_yes exC exC_ok _).mono ?_
  rintro e w2 ⟨v2, rfl, hm⟩
  rw [ex_c.2]
  obtain ⟨A2, c2, rfl, hy2, -⟩ := byt_own hm
  rw [ex_c.1]
  have HY := Lib.hid (HY.out.kept hm.2 (fun _ _ hf => hf))
  have HK := Lib.hid (HK.out.then hm.2)
  clear hm hy2
  go_wp2_with (fail)
  refine (put_yes exR exR_ok _).mono ?_
  rintro e w3 ⟨v3, rfl, hm⟩
  rw [ex_r.2]
  obtain ⟨A3, c3, rfl, hy3, -⟩ := byt_own hm
  rw [ex_r.1]
  have HY := Lib.hid (HY.out.kept hm.2 (fun _ _ hf => hf))
  have HK := Lib.hid (HK.out.then hm.2)
  clear hm hy3
  have ht : (convert 31 9 (.slice A1 4 c1)).run Try.prog w3 = .ok (.string ⟨#[0, 0, 0, 128]⟩) w3 := HY.out.text (P := Try.prog) Try.underlying31 Try.underlying5 Try.underlying9
  go_wp2_with (fail)
  go_ret
  exact ⟨rfl, HK.out⟩
/-- sign: -1, 0, 1. -/
def sgn (x : Int) : Int := if x < 0 then -1 else if 0 < x then 1 else 0
theorem sgn_is (x : Int) : max (-1) (min x 1) = sgn x := by unfold sgn; omega
theorem sign_yes (x : Int) (w : World) : Calls Try.prog 13 #[.int .i64 x] w fun e w' => e = .returned (.int .i64 (sgn x)) ∧ Kept Nil w w' := by
  have hs := sgn_is x
  have HS := Lib.hid hs
  clear hs
  go_enter Try.func13, Try.ntmps13
  go_wp2_with (fail)
  all_goals (go_ret; refine ⟨?_, Kept.refl Nil w⟩; show Ending.returned (.int .i64 _) = _; congr 2; unfold sgn; (repeat' split) <;> omega)
end Go.Proofs.Ytbkjobmjapbmpaa
