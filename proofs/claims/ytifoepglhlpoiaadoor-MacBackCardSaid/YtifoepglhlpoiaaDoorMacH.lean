/- What tolllaw02.tells comes to. -/
import Derived.Test.YtifoepglhlpoiaaDoorMacG
import Derived.Test.YtifoepglhlpoiaaDoorMacC
namespace Go.Proofs.YtifoepglhlpoiaaDoor
open Go.RowKit
set_option linter.unusedVariables false

theorem mask44 : maskL 44 = [255, 255, 255, 255, 255, 240] := by decide
set_option maxRecDepth 100000 in
set_option maxHeartbeats 4000000 in
theorem len20 (w : World) : Calls Tryd.prog 74 #[.int .u64 1048575] w fun e w' => e = .returned (.int .i64 20) ∧ w = w' := by
  go_enter Tryd.func74, Tryd.ntmps74
  go_wp2
  go_ret
  exact ⟨by kernel_rfl, rfl⟩
set_option maxRecDepth 100000 in
theorem lz44 (w : World) : Calls Tryd.prog 60 #[.int .u64 1048575] w fun e w' => e = .returned (.int .i64 44) ∧ w = w' := by
  go_enter Tryd.func60, Tryd.ntmps60
  go_wp2_with (go_at_call 74; refine (len20 _).mono ?_; rintro e w' ⟨rfl, rfl⟩)
  go_ret
  exact ⟨rfl, rfl⟩
set_option maxRecDepth 100000 in
set_option maxHeartbeats 4000000 in
theorem itoa44 (w : World) : Calls Tryd.prog 49 #[.int .i64 44] w fun e w' => e = .returned (.string ⟨#[52, 52]⟩) ∧ w = w' := by
  go_enter Tryd.func49, Tryd.ntmps49
  go_wp2
  go_ret
  exact ⟨rfl, rfl⟩
theorem lo44 (w : World) : Calls Tryd.prog 48 #[.agg #[.int .u8 255, .int .u8 255, .int .u8 255, .int .u8 255, .int .u8 255, .int .u8 240]] w fun e w' => e = .returned (.int .i64 44) ∧ Kept Nil w w' := by
  have hnum := Number_yes 255 255 255 255 255 240
  have hnum2 : ∀ w, Calls Tryd.prog 11 #[.agg #[.int .u8 255, .int .u8 255, .int .u8 255, .int .u8 255, .int .u8 255, .int .u8 240]] w fun e w' => e = .returned (.int .u64 281474976710640) ∧ Kept Nil w w' := fun w => (hnum w).mono fun e w' ⟨h1, h2⟩ => ⟨h1, by rw [h2]; exact (Kept.refl Nil w).alloc _⟩
  have HN := Lib.hid hnum2
  clear hnum hnum2
  go_enter Tryd.func48, Tryd.ntmps48
  go_wp2_with fail
  refine (HN.out _).mono ?_
  rintro e w1 ⟨rfl, hk1⟩
  have HK1 := Lib.hid (((Kept.refl Nil w).alloc _).then hk1)
  clear hk1
  go_wp2_with (go_at_call 60; refine (lz44 _).mono ?_; rintro e w' ⟨rfl, rfl⟩)
  go_ret
  exact ⟨rfl, HK1.out⟩
set_option maxRecDepth 100000 in
set_option maxHeartbeats 4000000 in
theorem mtext44 (w : World) : Calls Tryd.prog 36 #[.agg #[.int .u8 255, .int .u8 255, .int .u8 255, .int .u8 255, .int .u8 255, .int .u8 240]] w fun e w' => e = .returned (.string ⟨#[52, 52]⟩) ∧ Kept Nil w w' := by
  have hbits : ∀ W : World, Calls Tryd.prog 18 #[.int .i64 44] W fun r w' => r = .returned (.agg #[.int .u8 255, .int .u8 255, .int .u8 255, .int .u8 255, .int .u8 255, .int .u8 240]) ∧ Kept Nil W w' := fun W => by
    have := Bits_at 44 44 (by omega) (.inr (.inr rfl)) W
    rw [mask44] at this
    exact this
  have HBI := Lib.hid hbits
  have he : ∀ w, (Op.equalIn 10000 24 (.agg #[.int .u8 255, .int .u8 255, .int .u8 255, .int .u8 255, .int .u8 255, .int .u8 240]) (.agg #[.int .u8 255, .int .u8 255, .int .u8 255, .int .u8 255, .int .u8 255, .int .u8 240])).run Tryd.prog w = .ok true w := meq [255, 255, 255, 255, 255, 240] [255, 255, 255, 255, 255, 240] rfl rfl
  have HBW := Lib.hid (Blo.new w 24 #[.int .u8 255, .int .u8 255, .int .u8 255, .int .u8 255, .int .u8 255, .int .u8 240])
  clear hbits
  go_enter Tryd.func36, Tryd.ntmps36
  go_wp2_with fail
  refine (lo44 _).mono ?_
  rintro e w1 ⟨rfl, hk1⟩
  have hb1 := HBW.out.kept hk1 (fun hf => hf)
  have c0 := hb1.cell 0
  have c1 := hb1.cell 1
  have c2 := hb1.cell 2
  have c3 := hb1.cell 3
  have c4 := hb1.cell 4
  have c5 := hb1.cell 5
  simp at c0 c1 c2 c3 c4 c5
  have HB1 := Lib.hid hb1
  have HK1 := Lib.hid (((Kept.refl Nil w).alloc _).then hk1)
  clear hb1 hk1
  go_wp2_with fail
  go_region_law (go_simp; go_at_call 18; refine (HBI.out _).mono ?_; rintro e' w2 ⟨rfl, hk2⟩; have hb2 := HB1.out.kept ((Kept.refl Nil _).drew.then hk2) (fun hf => hf); have d0 := hb2.cell 0; have d1 := hb2.cell 1; have d2 := hb2.cell 2; have d3 := hb2.cell 3; have d4 := hb2.cell 4; have d5 := hb2.cell 5; simp at d0 d1 d2 d3 d4 d5; have HK2 := Lib.hid (HK1.out.then ((Kept.refl Nil _).drew.then hk2)); clear hb2 hk2)
  all_goals
    go_wp2_with (go_at_call 49; refine (itoa44 _).mono ?_; rintro e w' ⟨rfl, rfl⟩)
    go_ret
    exact ⟨rfl, HK2.out⟩
set_option maxRecDepth 100000 in
set_option maxHeartbeats 4000000 in
theorem ptext44 (w : World) : Calls Tryd.prog 22 #[.agg #[.int .u8 1, .int .u8 128, .int .u8 194, .int .u8 0, .int .u8 0, .int .u8 0, .int .u8 255, .int .u8 255, .int .u8 255, .int .u8 255, .int .u8 255, .int .u8 240]] w fun e w' => e = .returned (.string ⟨#[48, 49, 58, 56, 48, 58, 99, 50, 58, 48, 48, 58, 48, 48, 58, 48, 48, 47, 52, 52]⟩) ∧ Kept Nil w w' := by
  have hbits : ∀ W : World, Calls Tryd.prog 18 #[.int .i64 48] W fun r w' => r = .returned (.agg #[.int .u8 255, .int .u8 255, .int .u8 255, .int .u8 255, .int .u8 255, .int .u8 255]) ∧ Kept Nil W w' := fun W => by
    have := Bits_at 48 48 (by omega) (.inr (.inr rfl)) W
    rw [mask48] at this
    exact this
  have hmsk : ∀ W : World, Calls Tryd.prog 20 #[.agg #[.int .u8 1, .int .u8 128, .int .u8 194, .int .u8 0, .int .u8 0, .int .u8 0], .agg #[.int .u8 255, .int .u8 255, .int .u8 255, .int .u8 255, .int .u8 255, .int .u8 240]] W fun r w' => r = .returned (.agg #[.int .u8 1, .int .u8 128, .int .u8 194, .int .u8 0, .int .u8 0, .int .u8 0]) ∧ Kept Nil W w' := fun W => Masked_yes 1 128 194 0 0 0 255 255 255 255 255 240 W
  have htx : ∀ W : World, Calls Tryd.prog 9 #[.agg #[.int .u8 1, .int .u8 128, .int .u8 194, .int .u8 0, .int .u8 0, .int .u8 0]] W fun r w' => r = .returned (.string ⟨#[48, 49, 58, 56, 48, 58, 99, 50, 58, 48, 48, 58, 48, 48, 58, 48, 48]⟩) ∧ Kept Nil W w' := fun W => Text_yes 1 128 194 0 0 0 W
  have HBI := Lib.hid hbits
  have HMS := Lib.hid hmsk
  have HTX := Lib.hid htx
  have HMT := Lib.hid mtext44
  have he : ∀ w, (Op.equalIn 10000 24 (.agg #[.int .u8 255, .int .u8 255, .int .u8 255, .int .u8 255, .int .u8 255, .int .u8 240]) (.agg #[.int .u8 255, .int .u8 255, .int .u8 255, .int .u8 255, .int .u8 255, .int .u8 255])).run Tryd.prog w = .ok false w := meq [255, 255, 255, 255, 255, 240] [255, 255, 255, 255, 255, 255] rfl rfl
  have HBW := Lib.hid (Blo.new w 26 #[.int .u8 1, .int .u8 128, .int .u8 194, .int .u8 0, .int .u8 0, .int .u8 0, .int .u8 255, .int .u8 255, .int .u8 255, .int .u8 255, .int .u8 255, .int .u8 240])
  clear hbits hmsk htx
  go_enter Tryd.func22, Tryd.ntmps22
  go_wp2_with fail
  refine (HMS.out _).mono ?_
  rintro e w1 ⟨rfl, hk1⟩
  have HB1 := Lib.hid (HBW.out.kept hk1 (fun hf => hf))
  have HK1 := Lib.hid (((Kept.refl Nil w).alloc _).then hk1)
  clear hk1
  go_wp2_with fail
  refine (HTX.out _).mono ?_
  rintro e w2 ⟨rfl, hk2⟩
  have hb1 := HB1.out.kept hk2 (fun hf => hf)
  have c0 := hb1.cell 0
  have c1 := hb1.cell 1
  have c2 := hb1.cell 2
  have c3 := hb1.cell 3
  have c4 := hb1.cell 4
  have c5 := hb1.cell 5
  have c6 := hb1.cell 6
  have c7 := hb1.cell 7
  have c8 := hb1.cell 8
  have c9 := hb1.cell 9
  have c10 := hb1.cell 10
  have c11 := hb1.cell 11
  simp at c0 c1 c2 c3 c4 c5 c6 c7 c8 c9 c10 c11
  have HB2 := Lib.hid hb1
  have HK2 := Lib.hid (HK1.out.then hk2)
  clear hb1 hk2
  go_wp2_with fail
  go_region_law (go_simp; go_at_call 18; refine (HBI.out _).mono ?_; rintro e' w3 ⟨rfl, hk3⟩; have hb2 := HB2.out.kept ((Kept.refl Nil _).drew.then hk3) (fun hf => hf); have d0 := hb2.cell 0; have d1 := hb2.cell 1; have d2 := hb2.cell 2; have d3 := hb2.cell 3; have d4 := hb2.cell 4; have d5 := hb2.cell 5; have d6 := hb2.cell 6; have d7 := hb2.cell 7; have d8 := hb2.cell 8; have d9 := hb2.cell 9; have d10 := hb2.cell 10; have d11 := hb2.cell 11; simp at d0 d1 d2 d3 d4 d5 d6 d7 d8 d9 d10 d11; have HK3 := Lib.hid (HK2.out.then ((Kept.refl Nil _).drew.then hk3)); clear hb2 hk3)
  all_goals
    go_wp2_with fail
    refine (HMT.out _).mono ?_
    rintro e w4 ⟨rfl, hk4⟩
    have HK4 := Lib.hid (HK3.out.then hk4)
    clear hk4
    go_wp2
    go_ret
    exact ⟨by kernel_rfl, HK4.out⟩
end Go.Proofs.YtifoepglhlpoiaaDoor
