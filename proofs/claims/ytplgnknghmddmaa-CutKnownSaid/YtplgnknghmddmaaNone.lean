/- Contracts of package cut's calls on what New, or Lay, did not make, and on none. -/
import Derived.Test.YtplgnknghmddmaaPadC
namespace Go.Proofs.Ytplgnknghmddmaa
open Go.RowKit

/-- No cutter, no pad: none, or a zero struct. -/
def NoC (w : World) (p : Value) : Prop := p = .pointer none ∨ ∃ g, p = .pointer (some ⟨g, 0, none⟩) ∧ w.cell? ⟨g, 0, none⟩ = some (.bool false)
theorem NoC.kept {F : Nat → Prop} {w w' : World} {p : Value} (h : NoC w p) (k : Kept F w w') (hF : ∀ ad, p = .pointer (some ad) → ¬ F ad.block) : NoC w' p := by
  rcases h with rfl | ⟨g, rfl, hc⟩
  · exact .inl rfl
  · exact .inr ⟨g, rfl, k.cell hc (hF _ rfl)⟩

theorem none_no (p : Value) (w : World) (h : NoC w p) : Calls Try.prog 45 #[p] w fun e w' => e = .returned (.bool true) ∧ w = w' := by
  rcases h with rfl | ⟨g, rfl, hc⟩
  · go_enter Try.func45, Try.ntmps45
    go_wp2
    go_ret
    exact ⟨rfl, rfl⟩
  · go_enter Try.func45, Try.ntmps45
    go_wp2
    go_ret
    exact ⟨rfl, rfl⟩
theorem pnone_no (p : Value) (w : World) (h : NoC w p) : Calls Try.prog 49 #[p] w fun e w' => e = .returned (.bool true) ∧ w = w' := by
  rcases h with rfl | ⟨g, rfl, hc⟩
  · go_enter Try.func49, Try.ntmps49
    go_wp2
    go_ret
    exact ⟨rfl, rfl⟩
  · go_enter Try.func49, Try.ntmps49
    go_wp2
    go_ret
    exact ⟨rfl, rfl⟩

theorem err_no (p : Value) (w : World) (h : NoC w p) : Calls Try.prog 27 #[p] w fun e w' => e = .returned (.int .i64 2) ∧ w = w' := by
  have H := Lib.hid h
  clear h
  go_enter Try.func27, Try.ntmps27
  go_wp2_with (go_at_call 45; refine (none_no p _ H.out).mono ?_; rintro e w' ⟨rfl, rfl⟩)
  go_ret
  exact ⟨rfl, rfl⟩
theorem at_no (p : Value) (w : World) (h : NoC w p) : Calls Try.prog 26 #[p] w fun e w' => e = .returned (.int .i64 0) ∧ w = w' := by
  have H := Lib.hid h
  clear h
  go_enter Try.func26, Try.ntmps26
  go_wp2_with (go_at_call 45; refine (none_no p _ H.out).mono ?_; rintro e w' ⟨rfl, rfl⟩)
  go_ret
  exact ⟨rfl, rfl⟩
theorem Len_no (p : Value) (w : World) (h : NoC w p) : Calls Try.prog 37 #[p] w fun e w' => e = .returned (.int .i64 0) ∧ w = w' := by
  have H := Lib.hid h
  clear h
  go_enter Try.func37, Try.ntmps37
  go_wp2_with (go_at_call 49; refine (pnone_no p _ H.out).mono ?_; rintro e w' ⟨rfl, rfl⟩)
  go_ret
  exact ⟨rfl, rfl⟩
theorem Done_no (p : Value) (w : World) (h : NoC w p) : Calls Try.prog 36 #[p] w fun e w' => e = .returned (.slice none 0 0) ∧ w = w' := by
  have H := Lib.hid h
  clear h
  go_enter Try.func36, Try.ntmps36
  go_wp2_with (go_at_call 49; refine (pnone_no p _ H.out).mono ?_; rintro e w' ⟨rfl, rfl⟩)
  go_ret
  exact ⟨rfl, rfl⟩

theorem Fill_no (p : Value) (z x : Int) (w : World) (h : NoC w p) : Calls Try.prog 35 #[p, .int .i64 z, .int .u16 x] w fun e w' => e = .returned (.int .i64 2) ∧ w = w' := by
  have H := Lib.hid h
  clear h
  go_enter Try.func35, Try.ntmps35
  go_wp2_with (go_at_call 49; refine (pnone_no p _ H.out).mono ?_; rintro e w' ⟨rfl, rfl⟩)
  go_ret
  exact ⟨rfl, rfl⟩

theorem left_no (p : Value) (w : World) (h : NoC w p) : Calls Try.prog 25 #[p] w fun e w' => e = .returned (.int .i64 0) ∧ w = w' := by
  have H := Lib.hid h
  clear h
  go_enter Try.func25, Try.ntmps25
  go_wp2_with (go_at_call 27; refine (err_no p _ H.out).mono ?_; rintro e w' ⟨rfl, rfl⟩)
  go_ret
  exact ⟨rfl, rfl⟩

theorem fail_no (p : Value) (x : Int) (w : World) (h : NoC w p) : Calls Try.prog 23 #[p, .int .i64 x] w fun e w' => e = .returned (.tuple #[]) ∧ w = w' := by
  have H := Lib.hid h
  clear h
  go_enter Try.func23, Try.ntmps23
  go_wp2_with (go_at_call 27; refine (err_no p _ H.out).mono ?_; rintro e w' ⟨rfl, rfl⟩)
  go_end0
  exact ⟨rfl, rfl⟩

theorem take_no (p : Value) (x : Int) (w : World) (h : NoC w p) : Calls Try.prog 44 #[p, .int .i64 x] w fun e w' => e = .returned (.slice none 0 0) ∧ w = w' := by
  have H := Lib.hid h
  clear h
  by_cases h1 : x < 0
  · go_enter Try.func44, Try.ntmps44
    go_wp2_with fail
    refine (fail_no p 1 _ H.out).mono ?_
    rintro e w' ⟨rfl, rfl⟩
    go_wp2_with (go_at_call 27; refine (err_no p _ H.out).mono ?_; rintro e w' ⟨rfl, rfl⟩)
    go_ret
    exact ⟨rfl, rfl⟩
  · by_cases h2 : 0 < x
    · go_enter Try.func44, Try.ntmps44
      go_wp2_with fail
      refine (left_no p _ H.out).mono ?_
      rintro e w' ⟨rfl, rfl⟩
      go_wp2_with fail
      refine (fail_no p 4 _ H.out).mono ?_
      rintro e w' ⟨rfl, rfl⟩
      go_wp2_with (go_at_call 27; refine (err_no p _ H.out).mono ?_; rintro e w' ⟨rfl, rfl⟩)
      go_ret
      exact ⟨rfl, rfl⟩
    · go_enter Try.func44, Try.ntmps44
      go_wp2_with fail
      refine (left_no p _ H.out).mono ?_
      rintro e w' ⟨rfl, rfl⟩
      go_wp2_with (go_at_call 27; refine (err_no p _ H.out).mono ?_; rintro e w' ⟨rfl, rfl⟩)
      go_ret
      exact ⟨rfl, rfl⟩

theorem Skip_no (p : Value) (x : Int) (w : World) (h : NoC w p) : Calls Try.prog 20 #[p, .int .i64 x] w fun e w' => e = .returned (.tuple #[]) ∧ w = w' := by
  have H := Lib.hid h
  clear h
  go_enter Try.func20, Try.ntmps20
  go_wp2_with (go_at_call 44; refine (take_no p _ _ H.out).mono ?_; rintro e w' ⟨rfl, rfl⟩)
  go_end0
  exact ⟨rfl, rfl⟩

theorem Take_no (p : Value) (x : Int) (w : World) (h : NoC w p) : Calls Try.prog 18 #[p, .int .i64 x] w fun e w' => ∃ A c, e = .returned (.slice A 0 c) ∧ Kept Nil w w' := by
  have H := Lib.hid h
  clear h
  go_enter Try.func18, Try.ntmps18
  go_wp2_with fail
  refine (take_no p _ _ H.out).mono ?_
  rintro e w' ⟨rfl, rfl⟩
  go_wp2_with fail
  refine (sclone none 0 0 [] _ (Byt.none _) (by omega)).mono ?_
  rintro e w2 ⟨v, rfl, hm⟩
  obtain ⟨A, c, rfl⟩ := own_form hm.1
  have HM := Lib.hid hm
  clear hm
  go_wp2
  go_ret
  exact ⟨_, _, rfl, HM.out.2⟩

theorem Rest_no (p : Value) (w : World) (h : NoC w p) : Calls Try.prog 21 #[p] w fun e w' => ∃ A c, e = .returned (.slice A 0 c) ∧ Kept Nil w w' := by
  have H := Lib.hid h
  clear h
  go_enter Try.func21, Try.ntmps21
  go_wp2_with fail
  refine (left_no p _ H.out).mono ?_
  rintro e w' ⟨rfl, rfl⟩
  go_wp2_with fail
  refine (Take_no p _ _ H.out).mono ?_
  rintro e w' ⟨A, c, rfl, hk⟩
  have HK := Lib.hid hk
  clear hk
  go_wp2
  go_ret
  exact ⟨_, _, rfl, HK.out⟩

theorem num8_no (p : Value) (w : World) (h : NoC w p) : Calls Try.prog 41 #[p, .int .i64 1] w fun e w' => e = .returned (.int .u8 0) ∧ w = w' := by
  have H := Lib.hid h
  clear h
  go_enter Try.func41, Try.ntmps41
  go_wp2_with fail
  refine (take_no p _ _ H.out).mono ?_
  rintro e w' ⟨rfl, rfl⟩
  go_wp2
  refine wp_loop_rounds 1 ?_
  rw [rounds_succ]
  go_wp2
  go_ret
  exact ⟨rfl, rfl⟩
theorem Byte_no (p : Value) (w : World) (h : NoC w p) : Calls Try.prog 11 #[p] w fun e w' => e = .returned (.int .u8 0) ∧ w = w' := by
  have H := Lib.hid h
  clear h
  go_enter Try.func11, Try.ntmps11
  go_wp2_with (go_at_call 41; refine (num8_no p _ H.out).mono ?_; rintro e w' ⟨rfl, rfl⟩)
  go_ret
  exact ⟨rfl, rfl⟩
theorem num16_no (p : Value) (w : World) (h : NoC w p) : Calls Try.prog 42 #[p, .int .i64 2] w fun e w' => e = .returned (.int .u16 0) ∧ w = w' := by
  have H := Lib.hid h
  clear h
  go_enter Try.func42, Try.ntmps42
  go_wp2_with fail
  refine (take_no p _ _ H.out).mono ?_
  rintro e w' ⟨rfl, rfl⟩
  go_wp2
  refine wp_loop_rounds 1 ?_
  rw [rounds_succ]
  go_wp2
  go_ret
  exact ⟨rfl, rfl⟩
theorem Two_no (p : Value) (w : World) (h : NoC w p) : Calls Try.prog 13 #[p] w fun e w' => e = .returned (.int .u16 0) ∧ w = w' := by
  have H := Lib.hid h
  clear h
  go_enter Try.func13, Try.ntmps13
  go_wp2_with (go_at_call 42; refine (num16_no p _ H.out).mono ?_; rintro e w' ⟨rfl, rfl⟩)
  go_ret
  exact ⟨rfl, rfl⟩

theorem lay8_no (p x : Value) (w : World) (h : NoC w p) : Calls Try.prog 46 #[p, .int .i64 1, x] w fun e w' => e = .returned p ∧ w = w' := by
  have H := Lib.hid h
  clear h
  go_enter Try.func46, Try.ntmps46
  go_wp2_with (go_at_call 49; refine (pnone_no p _ H.out).mono ?_; rintro e w' ⟨rfl, rfl⟩)
  go_ret
  exact ⟨rfl, rfl⟩
theorem PByte_no (p x : Value) (w : World) (h : NoC w p) : Calls Try.prog 30 #[p, x] w fun e w' => e = .returned p ∧ w = w' := by
  have H := Lib.hid h
  clear h
  go_enter Try.func30, Try.ntmps30
  go_wp2_with (go_at_call 46; refine (lay8_no p x _ H.out).mono ?_; rintro e w' ⟨rfl, rfl⟩)
  go_ret
  exact ⟨rfl, rfl⟩
theorem lay16_no (p x : Value) (w : World) (h : NoC w p) : Calls Try.prog 47 #[p, .int .i64 2, x] w fun e w' => e = .returned p ∧ w = w' := by
  have H := Lib.hid h
  clear h
  go_enter Try.func47, Try.ntmps47
  go_wp2_with (go_at_call 49; refine (pnone_no p _ H.out).mono ?_; rintro e w' ⟨rfl, rfl⟩)
  go_ret
  exact ⟨rfl, rfl⟩
theorem PTwo_no (p x : Value) (w : World) (h : NoC w p) : Calls Try.prog 31 #[p, x] w fun e w' => e = .returned p ∧ w = w' := by
  have H := Lib.hid h
  clear h
  go_enter Try.func31, Try.ntmps31
  go_wp2_with (go_at_call 47; refine (lay16_no p x _ H.out).mono ?_; rintro e w' ⟨rfl, rfl⟩)
  go_ret
  exact ⟨rfl, rfl⟩
end Go.Proofs.Ytplgnknghmddmaa
