/- tolllaw02.tells: it answers true. -/
import Derived.Test.YtifoepglhlpoiaaDoorMacH
namespace Go.Proofs.YtifoepglhlpoiaaDoor
open Go.RowKit
set_option linter.unusedVariables false

theorem parse17 (w : World) : Calls Tryd.prog 27 #[.string ⟨#[48, 49, 58, 56, 48, 58, 67, 50, 58, 48, 48, 58, 48, 48, 58, 48, 55]⟩] w fun e' w' => e' = .returned (.tuple #[mv [1, 128, 194, 0, 0, 7], .int .i64 0]) ∧ Kept Nil w w' :=
  Parse_ok ⟨#[48, 49, 58, 56, 48, 58, 67, 50, 58, 48, 48, 58, 48, 48, 58, 48, 55]⟩ 1 128 194 0 0 7 rfl (by decide) (by decide) (by decide) (by decide) (by decide) (by decide) rfl rfl rfl rfl rfl w
theorem mask2 (w : World) : Calls Tryd.prog 40 #[.string ⟨#[52, 52]⟩] w fun e' w' => e' = .returned (.tuple #[mv (maskL 44), .int .i64 0]) ∧ Kept Nil w w' :=
  parseMask_ok ⟨#[52, 52]⟩ (by decide) (by decide) 44 (by decide) (by omega) w
theorem pat44 (w : World) : Calls Tryd.prog 29 #[.string ⟨#[48, 49, 58, 56, 48, 58, 67, 50, 58, 48, 48, 58, 48, 48, 58, 48, 55, 47, 52, 52]⟩] w fun e' w' => e' = .returned (.tuple #[.agg #[.int .u8 1, .int .u8 128, .int .u8 194, .int .u8 0, .int .u8 0, .int .u8 0, .int .u8 255, .int .u8 255, .int .u8 255, .int .u8 255, .int .u8 255, .int .u8 240], .int .i64 0]) ∧ Kept Nil w w' := by
  have h := PPat_bits ⟨#[48, 49, 58, 56, 48, 58, 67, 50, 58, 48, 48, 58, 48, 48, 58, 48, 55, 47, 52, 52]⟩ 17 (by decide) (by decide) 1 128 194 0 0 7 44 (by omega) (fun w => by have := parse17 w; exact this) (fun w => by have := mask2 w; exact this) w
  rw [mask44] at h
  exact h
set_option maxRecDepth 100000 in
set_option maxHeartbeats 4000000 in
theorem tells_yes (w : World) : Calls Tryd.prog 26 #[] w fun e w' => e = .returned (.bool true) ∧ Kept Nil w w' := by
  have htx : ∀ W : World, Calls Tryd.prog 9 #[.agg #[.int .u8 0, .int .u8 26, .int .u8 43, .int .u8 60, .int .u8 77, .int .u8 94]] W fun r w' => r = .returned (.string ⟨#[48, 48, 58, 49, 97, 58, 50, 98, 58, 51, 99, 58, 52, 100, 58, 53, 101]⟩) ∧ Kept Nil W w' := fun W => Text_yes 0 26 43 60 77 94 W
  have HTX := Lib.hid htx
  have HPA := Lib.hid pat44
  have HPT := Lib.hid ptext44
  clear htx
  go_enter Tryd.func26, Tryd.ntmps26
  go_wp2_with fail
  refine (HPA.out _).mono ?_
  rintro e w1 ⟨rfl, hk1⟩
  have HK1 := Lib.hid (hk1.alloc (.cells #[.int .u8 1, .int .u8 128, .int .u8 194, .int .u8 0, .int .u8 0, .int .u8 0, .int .u8 255, .int .u8 255, .int .u8 255, .int .u8 255, .int .u8 255, .int .u8 240] 26))
  have HB1 := Lib.hid (Blo.new w1 26 #[.int .u8 1, .int .u8 128, .int .u8 194, .int .u8 0, .int .u8 0, .int .u8 0, .int .u8 255, .int .u8 255, .int .u8 255, .int .u8 255, .int .u8 255, .int .u8 240])
  clear hk1
  go_wp2_with fail
  refine (HTX.out _).mono ?_
  rintro e w2 ⟨rfl, hk2⟩
  have hb2 := HB1.out.kept hk2 (fun hf => hf)
  have c0 := hb2.cell 0
  have c1 := hb2.cell 1
  have c2 := hb2.cell 2
  have c3 := hb2.cell 3
  have c4 := hb2.cell 4
  have c5 := hb2.cell 5
  have c6 := hb2.cell 6
  have c7 := hb2.cell 7
  have c8 := hb2.cell 8
  have c9 := hb2.cell 9
  have c10 := hb2.cell 10
  have c11 := hb2.cell 11
  simp at c0 c1 c2 c3 c4 c5 c6 c7 c8 c9 c10 c11
  have HK2 := Lib.hid (HK1.out.then hk2)
  clear hb2 hk2
  go_wp2_with fail
  refine (HPT.out _).mono ?_
  rintro e w3 ⟨rfl, hk3⟩
  have HK3 := Lib.hid (HK2.out.then hk3)
  clear hk3
  go_wp2
  go_ret
  exact ⟨rfl, HK3.out⟩
end Go.Proofs.YtifoepglhlpoiaaDoor
