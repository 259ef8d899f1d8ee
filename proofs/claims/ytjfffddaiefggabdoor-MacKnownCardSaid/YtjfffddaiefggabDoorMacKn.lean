/- tolllaw02.MacKnown: the walk. -/
import Derived.Test.YtjfffddaiefggabDoorMacS
import Derived.Test.YtjfffddaiefggabDoorMacT
import Derived.Test.YtjfffddaiefggabDoorMacU
import Derived.Test.YtjfffddaiefggabDoorLaid
namespace Go.Proofs.YtjfffddaiefggabDoor
open Go.RowKit Go.Sort Go.BigFrame
set_option linter.unusedVariables false

theorem kp0 (w : World) (hS : Syn w) : Calls Tryd.prog 27 #[.string ⟨#[]⟩] w fun e w' => e = .returned (.tuple #[.agg #[.int .u8 0, .int .u8 0, .int .u8 0, .int .u8 0, .int .u8 0, .int .u8 0], .int .i64 5]) ∧ Kept Nil w w' := by
  have h := Parse_any ⟨#[]⟩ (by decide) w hS
  rw [show prs (ByteArray.mk #[]).data.toList = none by decide +kernel] at h
  exact h
theorem kp1 (w : World) (hS : Syn w) : Calls Tryd.prog 27 #[.string ⟨#[48, 48, 58, 48, 48, 58, 48, 48, 58, 48, 48, 58, 48, 48]⟩] w fun e w' => e = .returned (.tuple #[.agg #[.int .u8 0, .int .u8 0, .int .u8 0, .int .u8 0, .int .u8 0, .int .u8 0], .int .i64 5]) ∧ Kept Nil w w' := by
  have h := Parse_any ⟨#[48, 48, 58, 48, 48, 58, 48, 48, 58, 48, 48, 58, 48, 48]⟩ (by decide) w hS
  rw [show prs (ByteArray.mk #[48, 48, 58, 48, 48, 58, 48, 48, 58, 48, 48, 58, 48, 48]).data.toList = none by decide +kernel] at h
  exact h
theorem kp2 (w : World) (hS : Syn w) : Calls Tryd.prog 27 #[.string ⟨#[48, 48, 58, 48, 48, 58, 48, 48, 58, 48, 48, 58, 48, 48, 58, 48, 48, 58, 48, 48]⟩] w fun e w' => e = .returned (.tuple #[.agg #[.int .u8 0, .int .u8 0, .int .u8 0, .int .u8 0, .int .u8 0, .int .u8 0], .int .i64 5]) ∧ Kept Nil w w' := by
  have h := Parse_any ⟨#[48, 48, 58, 48, 48, 58, 48, 48, 58, 48, 48, 58, 48, 48, 58, 48, 48, 58, 48, 48]⟩ (by decide) w hS
  rw [show prs (ByteArray.mk #[48, 48, 58, 48, 48, 58, 48, 48, 58, 48, 48, 58, 48, 48, 58, 48, 48, 58, 48, 48]).data.toList = none by decide +kernel] at h
  exact h
theorem kp3 (w : World) (hS : Syn w) : Calls Tryd.prog 27 #[.string ⟨#[48, 58, 48, 48, 58, 48, 48, 58, 48, 48, 58, 48, 48, 58, 48, 48, 48]⟩] w fun e w' => e = .returned (.tuple #[.agg #[.int .u8 0, .int .u8 0, .int .u8 0, .int .u8 0, .int .u8 0, .int .u8 0], .int .i64 5]) ∧ Kept Nil w w' := by
  have h := Parse_any ⟨#[48, 58, 48, 48, 58, 48, 48, 58, 48, 48, 58, 48, 48, 58, 48, 48, 48]⟩ (by decide) w hS
  rw [show prs (ByteArray.mk #[48, 58, 48, 48, 58, 48, 48, 58, 48, 48, 58, 48, 48, 58, 48, 48, 48]).data.toList = none by decide +kernel] at h
  exact h
theorem kp4 (w : World) (hS : Syn w) : Calls Tryd.prog 27 #[.string ⟨#[48, 48, 45, 48, 48, 45, 48, 48, 45, 48, 48, 45, 48, 48, 45, 48, 48]⟩] w fun e w' => e = .returned (.tuple #[.agg #[.int .u8 0, .int .u8 0, .int .u8 0, .int .u8 0, .int .u8 0, .int .u8 0], .int .i64 5]) ∧ Kept Nil w w' := by
  have h := Parse_any ⟨#[48, 48, 45, 48, 48, 45, 48, 48, 45, 48, 48, 45, 48, 48, 45, 48, 48]⟩ (by decide) w hS
  rw [show prs (ByteArray.mk #[48, 48, 45, 48, 48, 45, 48, 48, 45, 48, 48, 45, 48, 48, 45, 48, 48]).data.toList = none by decide +kernel] at h
  exact h
theorem kp5 (w : World) (hS : Syn w) : Calls Tryd.prog 27 #[.string ⟨#[48, 48, 58, 48, 48, 58, 48, 48, 58, 48, 48, 58, 48, 48, 58, 48, 103]⟩] w fun e w' => e = .returned (.tuple #[.agg #[.int .u8 0, .int .u8 0, .int .u8 0, .int .u8 0, .int .u8 0, .int .u8 0], .int .i64 5]) ∧ Kept Nil w w' := by
  have h := Parse_any ⟨#[48, 48, 58, 48, 48, 58, 48, 48, 58, 48, 48, 58, 48, 48, 58, 48, 103]⟩ (by decide) w hS
  rw [show prs (ByteArray.mk #[48, 48, 58, 48, 48, 58, 48, 48, 58, 48, 48, 58, 48, 48, 58, 48, 103]).data.toList = none by decide +kernel] at h
  exact h
theorem kp6 (w : World) (hS : Syn w) : Calls Tryd.prog 27 #[.string ⟨#[48, 48, 58, 48, 48, 58, 48, 48, 58, 48, 48, 58, 48, 48, 58, 48, 32]⟩] w fun e w' => e = .returned (.tuple #[.agg #[.int .u8 0, .int .u8 0, .int .u8 0, .int .u8 0, .int .u8 0, .int .u8 0], .int .i64 5]) ∧ Kept Nil w w' := by
  have h := Parse_any ⟨#[48, 48, 58, 48, 48, 58, 48, 48, 58, 48, 48, 58, 48, 48, 58, 48, 32]⟩ (by decide) w hS
  rw [show prs (ByteArray.mk #[48, 48, 58, 48, 48, 58, 48, 48, 58, 48, 48, 58, 48, 48, 58, 48, 32]).data.toList = none by decide +kernel] at h
  exact h
theorem kp7 (w : World) (hS : Syn w) : Calls Tryd.prog 27 #[.string ⟨#[32, 48, 58, 48, 48, 58, 48, 48, 58, 48, 48, 58, 48, 48, 58, 48, 48]⟩] w fun e w' => e = .returned (.tuple #[.agg #[.int .u8 0, .int .u8 0, .int .u8 0, .int .u8 0, .int .u8 0, .int .u8 0], .int .i64 5]) ∧ Kept Nil w w' := by
  have h := Parse_any ⟨#[32, 48, 58, 48, 48, 58, 48, 48, 58, 48, 48, 58, 48, 48, 58, 48, 48]⟩ (by decide) w hS
  rw [show prs (ByteArray.mk #[32, 48, 58, 48, 48, 58, 48, 48, 58, 48, 48, 58, 48, 48, 58, 48, 48]).data.toList = none by decide +kernel] at h
  exact h
theorem kp8 (w : World) (hS : Syn w) : Calls Tryd.prog 27 #[.string ⟨#[48, 120, 58, 48, 48, 58, 48, 48, 58, 48, 48, 58, 48, 48, 58, 48, 48]⟩] w fun e w' => e = .returned (.tuple #[.agg #[.int .u8 0, .int .u8 0, .int .u8 0, .int .u8 0, .int .u8 0, .int .u8 0], .int .i64 5]) ∧ Kept Nil w w' := by
  have h := Parse_any ⟨#[48, 120, 58, 48, 48, 58, 48, 48, 58, 48, 48, 58, 48, 48, 58, 48, 48]⟩ (by decide) w hS
  rw [show prs (ByteArray.mk #[48, 120, 58, 48, 48, 58, 48, 48, 58, 48, 48, 58, 48, 48, 58, 48, 48]).data.toList = none by decide +kernel] at h
  exact h
theorem kp9 (w : World) (hS : Syn w) : Calls Tryd.prog 27 #[.string ⟨#[48, 48, 58, 48, 48, 58, 48, 48, 58, 48, 48, 58, 48, 48, 58, 49, 48, 0]⟩] w fun e w' => e = .returned (.tuple #[.agg #[.int .u8 0, .int .u8 0, .int .u8 0, .int .u8 0, .int .u8 0, .int .u8 0], .int .i64 5]) ∧ Kept Nil w w' := by
  have h := Parse_any ⟨#[48, 48, 58, 48, 48, 58, 48, 48, 58, 48, 48, 58, 48, 48, 58, 49, 48, 0]⟩ (by decide) w hS
  rw [show prs (ByteArray.mk #[48, 48, 58, 48, 48, 58, 48, 48, 58, 48, 48, 58, 48, 48, 58, 49, 48, 0]).data.toList = none by decide +kernel] at h
  exact h
theorem kp10 (w : World) (hS : Syn w) : Calls Tryd.prog 27 #[.string ⟨#[16, 16, 58, 48, 48, 58, 48, 48, 58, 48, 48, 58, 48, 48, 58, 48, 48]⟩] w fun e w' => e = .returned (.tuple #[.agg #[.int .u8 0, .int .u8 0, .int .u8 0, .int .u8 0, .int .u8 0, .int .u8 0], .int .i64 5]) ∧ Kept Nil w w' := by
  have h := Parse_any ⟨#[16, 16, 58, 48, 48, 58, 48, 48, 58, 48, 48, 58, 48, 48, 58, 48, 48]⟩ (by decide) w hS
  rw [show prs (ByteArray.mk #[16, 16, 58, 48, 48, 58, 48, 48, 58, 48, 48, 58, 48, 48, 58, 48, 48]).data.toList = none by decide +kernel] at h
  exact h
theorem kq0 (w : World) (hS : Syn w) : Calls Tryd.prog 29 #[.string ⟨#[48, 48, 58, 48, 48, 58, 48, 48, 58, 48, 48, 58, 48, 48, 58, 48, 48, 47]⟩] w fun e w' => e = .returned (.tuple #[.agg #[.int .u8 0, .int .u8 0, .int .u8 0, .int .u8 0, .int .u8 0, .int .u8 0, .int .u8 0, .int .u8 0, .int .u8 0, .int .u8 0, .int .u8 0, .int .u8 0], .int .i64 5]) ∧ Kept Nil w w' := by
  have h := PPat_any ⟨#[48, 48, 58, 48, 48, 58, 48, 48, 58, 48, 48, 58, 48, 48, 58, 48, 48, 47]⟩ (by decide) w hS
  rw [show ppt (ByteArray.mk #[48, 48, 58, 48, 48, 58, 48, 48, 58, 48, 48, 58, 48, 48, 58, 48, 48, 47]).data.toList = Except.error 5 by kernel_rfl] at h
  exact h
theorem kq1 (w : World) (hS : Syn w) : Calls Tryd.prog 29 #[.string ⟨#[48, 48, 58, 48, 48, 58, 48, 48, 58, 48, 48, 58, 48, 48, 58, 48, 48, 47, 52, 57]⟩] w fun e w' => e = .returned (.tuple #[.agg #[.int .u8 0, .int .u8 0, .int .u8 0, .int .u8 0, .int .u8 0, .int .u8 0, .int .u8 0, .int .u8 0, .int .u8 0, .int .u8 0, .int .u8 0, .int .u8 0], .int .i64 24]) ∧ Kept Nil w w' := by
  have h := PPat_any ⟨#[48, 48, 58, 48, 48, 58, 48, 48, 58, 48, 48, 58, 48, 48, 58, 48, 48, 47, 52, 57]⟩ (by decide) w hS
  rw [show ppt (ByteArray.mk #[48, 48, 58, 48, 48, 58, 48, 48, 58, 48, 48, 58, 48, 48, 58, 48, 48, 47, 52, 57]).data.toList = Except.error 24 by kernel_rfl] at h
  exact h
theorem kq2 (w : World) (hS : Syn w) : Calls Tryd.prog 29 #[.string ⟨#[48, 48, 58, 48, 48, 58, 48, 48, 58, 48, 48, 58, 48, 48, 58, 48, 48, 47, 49, 48, 48]⟩] w fun e w' => e = .returned (.tuple #[.agg #[.int .u8 0, .int .u8 0, .int .u8 0, .int .u8 0, .int .u8 0, .int .u8 0, .int .u8 0, .int .u8 0, .int .u8 0, .int .u8 0, .int .u8 0, .int .u8 0], .int .i64 5]) ∧ Kept Nil w w' := by
  have h := PPat_any ⟨#[48, 48, 58, 48, 48, 58, 48, 48, 58, 48, 48, 58, 48, 48, 58, 48, 48, 47, 49, 48, 48]⟩ (by decide) w hS
  rw [show ppt (ByteArray.mk #[48, 48, 58, 48, 48, 58, 48, 48, 58, 48, 48, 58, 48, 48, 58, 48, 48, 47, 49, 48, 48]).data.toList = Except.error 5 by kernel_rfl] at h
  exact h
theorem kq3 (w : World) (hS : Syn w) : Calls Tryd.prog 29 #[.string ⟨#[48, 48, 58, 48, 48, 58, 48, 48, 58, 48, 48, 58, 48, 48, 58, 48, 48, 47, 45, 49]⟩] w fun e w' => e = .returned (.tuple #[.agg #[.int .u8 0, .int .u8 0, .int .u8 0, .int .u8 0, .int .u8 0, .int .u8 0, .int .u8 0, .int .u8 0, .int .u8 0, .int .u8 0, .int .u8 0, .int .u8 0], .int .i64 5]) ∧ Kept Nil w w' := by
  have h := PPat_any ⟨#[48, 48, 58, 48, 48, 58, 48, 48, 58, 48, 48, 58, 48, 48, 58, 48, 48, 47, 45, 49]⟩ (by decide) w hS
  rw [show ppt (ByteArray.mk #[48, 48, 58, 48, 48, 58, 48, 48, 58, 48, 48, 58, 48, 48, 58, 48, 48, 47, 45, 49]).data.toList = Except.error 5 by kernel_rfl] at h
  exact h
theorem kq4 (w : World) (hS : Syn w) : Calls Tryd.prog 29 #[.string ⟨#[48, 48, 58, 48, 48, 58, 48, 48, 58, 48, 48, 58, 48, 48, 58, 48, 48, 47, 52, 56]⟩] w fun e w' => e = .returned (.tuple #[.agg #[.int .u8 0, .int .u8 0, .int .u8 0, .int .u8 0, .int .u8 0, .int .u8 0, .int .u8 255, .int .u8 255, .int .u8 255, .int .u8 255, .int .u8 255, .int .u8 255], .int .i64 0]) ∧ Kept Nil w w' := by
  have h := PPat_any ⟨#[48, 48, 58, 48, 48, 58, 48, 48, 58, 48, 48, 58, 48, 48, 58, 48, 48, 47, 52, 56]⟩ (by decide) w hS
  rw [show ppt (ByteArray.mk #[48, 48, 58, 48, 48, 58, 48, 48, 58, 48, 48, 58, 48, 48, 58, 48, 48, 47, 52, 56]).data.toList = Except.ok ([0, 0, 0, 0, 0, 0], [255, 255, 255, 255, 255, 255]) by kernel_rfl] at h
  exact h
theorem kq5 (w : World) (hS : Syn w) : Calls Tryd.prog 29 #[.string ⟨#[48, 48, 58, 48, 48, 58, 48, 48, 58, 48, 48, 58, 48, 48, 58, 48, 48, 47, 48]⟩] w fun e w' => e = .returned (.tuple #[.agg #[.int .u8 0, .int .u8 0, .int .u8 0, .int .u8 0, .int .u8 0, .int .u8 0, .int .u8 0, .int .u8 0, .int .u8 0, .int .u8 0, .int .u8 0, .int .u8 0], .int .i64 0]) ∧ Kept Nil w w' := by
  have h := PPat_any ⟨#[48, 48, 58, 48, 48, 58, 48, 48, 58, 48, 48, 58, 48, 48, 58, 48, 48, 47, 48]⟩ (by decide) w hS
  rw [show ppt (ByteArray.mk #[48, 48, 58, 48, 48, 58, 48, 48, 58, 48, 48, 58, 48, 48, 58, 48, 48, 47, 48]).data.toList = Except.ok ([0, 0, 0, 0, 0, 0], [0, 0, 0, 0, 0, 0]) by kernel_rfl] at h
  exact h
theorem kq6 (w : World) (hS : Syn w) : Calls Tryd.prog 29 #[.string ⟨#[48, 48, 58, 48, 48, 58, 48, 48, 58, 48, 48, 58, 48, 48, 58, 48, 48, 47, 48, 48]⟩] w fun e w' => e = .returned (.tuple #[.agg #[.int .u8 0, .int .u8 0, .int .u8 0, .int .u8 0, .int .u8 0, .int .u8 0, .int .u8 0, .int .u8 0, .int .u8 0, .int .u8 0, .int .u8 0, .int .u8 0], .int .i64 0]) ∧ Kept Nil w w' := by
  have h := PPat_any ⟨#[48, 48, 58, 48, 48, 58, 48, 48, 58, 48, 48, 58, 48, 48, 58, 48, 48, 47, 48, 48]⟩ (by decide) w hS
  rw [show ppt (ByteArray.mk #[48, 48, 58, 48, 48, 58, 48, 48, 58, 48, 48, 58, 48, 48, 58, 48, 48, 47, 48, 48]).data.toList = Except.ok ([0, 0, 0, 0, 0, 0], [0, 0, 0, 0, 0, 0]) by kernel_rfl] at h
  exact h
theorem kq7 (w : World) (hS : Syn w) : Calls Tryd.prog 29 #[.string ⟨#[48, 48, 58, 48, 48, 58, 48, 48, 58, 48, 48, 58, 48, 48, 58, 48, 48, 47, 48, 48, 58, 48, 48, 58, 48, 48, 58, 48, 48, 58, 48, 48, 58, 48, 48]⟩] w fun e w' => e = .returned (.tuple #[.agg #[.int .u8 0, .int .u8 0, .int .u8 0, .int .u8 0, .int .u8 0, .int .u8 0, .int .u8 0, .int .u8 0, .int .u8 0, .int .u8 0, .int .u8 0, .int .u8 0], .int .i64 0]) ∧ Kept Nil w w' := by
  have h := PPat_any ⟨#[48, 48, 58, 48, 48, 58, 48, 48, 58, 48, 48, 58, 48, 48, 58, 48, 48, 47, 48, 48, 58, 48, 48, 58, 48, 48, 58, 48, 48, 58, 48, 48, 58, 48, 48]⟩ (by decide) w hS
  rw [show ppt (ByteArray.mk #[48, 48, 58, 48, 48, 58, 48, 48, 58, 48, 48, 58, 48, 48, 58, 48, 48, 47, 48, 48, 58, 48, 48, 58, 48, 48, 58, 48, 48, 58, 48, 48, 58, 48, 48]).data.toList = Except.ok ([0, 0, 0, 0, 0, 0], [0, 0, 0, 0, 0, 0]) by kernel_rfl] at h
  exact h
theorem kq8 (w : World) (hS : Syn w) : Calls Tryd.prog 29 #[.string ⟨#[48, 48, 58, 48, 48, 58, 48, 48, 58, 48, 48, 58, 48, 48, 58, 48, 48, 47, 49, 47, 50]⟩] w fun e w' => e = .returned (.tuple #[.agg #[.int .u8 0, .int .u8 0, .int .u8 0, .int .u8 0, .int .u8 0, .int .u8 0, .int .u8 0, .int .u8 0, .int .u8 0, .int .u8 0, .int .u8 0, .int .u8 0], .int .i64 5]) ∧ Kept Nil w w' := by
  have h := PPat_any ⟨#[48, 48, 58, 48, 48, 58, 48, 48, 58, 48, 48, 58, 48, 48, 58, 48, 48, 47, 49, 47, 50]⟩ (by decide) w hS
  rw [show ppt (ByteArray.mk #[48, 48, 58, 48, 48, 58, 48, 48, 58, 48, 48, 58, 48, 48, 58, 48, 48, 47, 49, 47, 50]).data.toList = Except.error 5 by kernel_rfl] at h
  exact h
theorem kq9 (w : World) (hS : Syn w) : Calls Tryd.prog 29 #[.string ⟨#[47, 56]⟩] w fun e w' => e = .returned (.tuple #[.agg #[.int .u8 0, .int .u8 0, .int .u8 0, .int .u8 0, .int .u8 0, .int .u8 0, .int .u8 0, .int .u8 0, .int .u8 0, .int .u8 0, .int .u8 0, .int .u8 0], .int .i64 5]) ∧ Kept Nil w w' := by
  have h := PPat_any ⟨#[47, 56]⟩ (by decide) w hS
  rw [show ppt (ByteArray.mk #[47, 56]).data.toList = Except.error 5 by kernel_rfl] at h
  exact h
theorem kq10 (w : World) (hS : Syn w) : Calls Tryd.prog 29 #[.string ⟨#[48, 48, 58, 48, 48, 58, 48, 48, 58, 48, 48, 58, 48, 48, 58, 48, 48, 120]⟩] w fun e w' => e = .returned (.tuple #[.agg #[.int .u8 0, .int .u8 0, .int .u8 0, .int .u8 0, .int .u8 0, .int .u8 0, .int .u8 0, .int .u8 0, .int .u8 0, .int .u8 0, .int .u8 0, .int .u8 0], .int .i64 5]) ∧ Kept Nil w w' := by
  have h := PPat_any ⟨#[48, 48, 58, 48, 48, 58, 48, 48, 58, 48, 48, 58, 48, 48, 58, 48, 48, 120]⟩ (by decide) w hS
  rw [show ppt (ByteArray.mk #[48, 48, 58, 48, 48, 58, 48, 48, 58, 48, 48, 58, 48, 48, 58, 48, 48, 120]).data.toList = Except.error 5 by kernel_rfl] at h
  exact h
theorem kq11 (w : World) (hS : Syn w) : Calls Tryd.prog 29 #[.string ⟨#[102, 102, 58, 102, 102, 58, 102, 102, 58, 102, 102, 58, 102, 102, 58, 102, 102, 47, 48, 102, 58, 48, 48, 58, 48, 48, 58, 48, 48, 58, 48, 48, 58, 48, 49]⟩] w fun e w' => e = .returned (.tuple #[.agg #[.int .u8 15, .int .u8 0, .int .u8 0, .int .u8 0, .int .u8 0, .int .u8 1, .int .u8 15, .int .u8 0, .int .u8 0, .int .u8 0, .int .u8 0, .int .u8 1], .int .i64 0]) ∧ Kept Nil w w' := by
  have h := PPat_any ⟨#[102, 102, 58, 102, 102, 58, 102, 102, 58, 102, 102, 58, 102, 102, 58, 102, 102, 47, 48, 102, 58, 48, 48, 58, 48, 48, 58, 48, 48, 58, 48, 48, 58, 48, 49]⟩ (by decide) w hS
  rw [show ppt (ByteArray.mk #[102, 102, 58, 102, 102, 58, 102, 102, 58, 102, 102, 58, 102, 102, 58, 102, 102, 47, 48, 102, 58, 48, 48, 58, 48, 48, 58, 48, 48, 58, 48, 48, 58, 48, 49]).data.toList = Except.ok ([15, 0, 0, 0, 0, 1], [15, 0, 0, 0, 0, 1]) by kernel_rfl] at h
  exact h
theorem kt (w : World) : Calls Tryd.prog 22 #[.agg #[.int .u8 15, .int .u8 0, .int .u8 0, .int .u8 0, .int .u8 0, .int .u8 1, .int .u8 15, .int .u8 0, .int .u8 0, .int .u8 0, .int .u8 0, .int .u8 1]] w fun e w' => e = .returned (.string ⟨#[48, 102, 58, 48, 48, 58, 48, 48, 58, 48, 48, 58, 48, 48, 58, 48, 49, 47, 48, 102, 58, 48, 48, 58, 48, 48, 58, 48, 48, 58, 48, 48, 58, 48, 49]⟩) ∧ Kept Nil w w' := by
  have h := PText_any 15 0 0 0 0 1 15 0 0 0 0 1 w
  rw [show ptx [15, 0, 0, 0, 0, 1] [15, 0, 0, 0, 0, 1] = [48, 102, 58, 48, 48, 58, 48, 48, 58, 48, 48, 58, 48, 48, 58, 48, 49, 47, 48, 102, 58, 48, 48, 58, 48, 48, 58, 48, 48, 58, 48, 48, 58, 48, 49] by kernel_rfl] at h
  exact h
theorem kk0 (w : World) : Calls Tryd.prog 15 #[.agg #[.int .u8 0, .int .u8 0, .int .u8 0, .int .u8 0, .int .u8 0, .int .u8 0]] w fun r w' => r = .returned (.int .i64 1) ∧ Kept Nil w w' := by
  have h := Kind_yes 0 0 0 0 0 0 w
  rw [show kindL [0, 0, 0, 0, 0, 0] = 1 by decide +kernel] at h
  exact h
theorem kk1 (w : World) : Calls Tryd.prog 15 #[.agg #[.int .u8 255, .int .u8 255, .int .u8 255, .int .u8 255, .int .u8 255, .int .u8 255]] w fun r w' => r = .returned (.int .i64 2) ∧ Kept Nil w w' := by
  have h := Kind_yes 255 255 255 255 255 255 w
  rw [show kindL [255, 255, 255, 255, 255, 255] = 2 by decide +kernel] at h
  exact h
theorem kk2 (w : World) : Calls Tryd.prog 15 #[.agg #[.int .u8 1, .int .u8 128, .int .u8 194, .int .u8 0, .int .u8 0, .int .u8 15]] w fun r w' => r = .returned (.int .i64 3) ∧ Kept Nil w w' := by
  have h := Kind_yes 1 128 194 0 0 15 w
  rw [show kindL [1, 128, 194, 0, 0, 15] = 3 by decide +kernel] at h
  exact h
theorem kk3 (w : World) : Calls Tryd.prog 15 #[.agg #[.int .u8 1, .int .u8 128, .int .u8 194, .int .u8 0, .int .u8 0, .int .u8 16]] w fun r w' => r = .returned (.int .i64 4) ∧ Kept Nil w w' := by
  have h := Kind_yes 1 128 194 0 0 16 w
  rw [show kindL [1, 128, 194, 0, 0, 16] = 4 by decide +kernel] at h
  exact h
theorem kk4 (w : World) : Calls Tryd.prog 15 #[.agg #[.int .u8 2, .int .u8 0, .int .u8 0, .int .u8 0, .int .u8 0, .int .u8 0]] w fun r w' => r = .returned (.int .i64 5) ∧ Kept Nil w w' := by
  have h := Kind_yes 2 0 0 0 0 0 w
  rw [show kindL [2, 0, 0, 0, 0, 0] = 5 by decide +kernel] at h
  exact h
theorem ko0 (w : World) : Calls Tryd.prog 13 #[.int .u64 281474976710655] w fun r w' => r = .returned (.agg #[.int .u8 255, .int .u8 255, .int .u8 255, .int .u8 255, .int .u8 255, .int .u8 255]) ∧ Kept Nil w w' := by
  have h := Of_yes 281474976710655 (by omega) w
  rw [show ofL 281474976710655 = [255, 255, 255, 255, 255, 255] by decide +kernel] at h
  exact h
theorem ko1 (w : World) : Calls Tryd.prog 13 #[.int .u64 1152921504606846981] w fun r w' => r = .returned (.agg #[.int .u8 0, .int .u8 0, .int .u8 0, .int .u8 0, .int .u8 0, .int .u8 5]) ∧ Kept Nil w w' := by
  have h := Of_yes 1152921504606846981 (by omega) w
  rw [show ofL 1152921504606846981 = [0, 0, 0, 0, 0, 5] by decide +kernel] at h
  exact h
theorem kb0 (w : World) : Calls Tryd.prog 18 #[.int .i64 (-1)] w fun r w' => r = .returned (.agg #[.int .u8 0, .int .u8 0, .int .u8 0, .int .u8 0, .int .u8 0, .int .u8 0]) ∧ Kept Nil w w' := by
  have h := Bits_at (-1) 0 (by omega) (.inl ⟨by omega, rfl⟩) w
  rw [show maskL 0 = [0, 0, 0, 0, 0, 0] by decide +kernel] at h
  exact h
theorem kb1 (w : World) : Calls Tryd.prog 18 #[.int .i64 99] w fun r w' => r = .returned (.agg #[.int .u8 255, .int .u8 255, .int .u8 255, .int .u8 255, .int .u8 255, .int .u8 255]) ∧ Kept Nil w w' := by
  have h := Bits_at 99 48 (by omega) (.inr (.inl ⟨by omega, rfl⟩)) w
  rw [show maskL 48 = [255, 255, 255, 255, 255, 255] by decide +kernel] at h
  exact h
theorem kb2 (w : World) : Calls Tryd.prog 18 #[.int .i64 9] w fun r w' => r = .returned (.agg #[.int .u8 255, .int .u8 128, .int .u8 0, .int .u8 0, .int .u8 0, .int .u8 0]) ∧ Kept Nil w w' := by
  have h := Bits_at 9 9 (by omega) (.inr (.inr rfl)) w
  rw [show maskL 9 = [255, 128, 0, 0, 0, 0] by decide +kernel] at h
  exact h
theorem ke0 (w : World) : (Op.equalIn 10000 24 (.agg #[.int .u8 0, .int .u8 0, .int .u8 0, .int .u8 0, .int .u8 0, .int .u8 0]) (.agg #[.int .u8 0, .int .u8 0, .int .u8 0, .int .u8 0, .int .u8 0, .int .u8 0])).run Tryd.prog w = .ok true w := by
  have h := meq [0, 0, 0, 0, 0, 0] [0, 0, 0, 0, 0, 0] rfl rfl w
  rw [beq_self_eq_true] at h
  exact h
theorem ke1 (w : World) : (Op.equalIn 10000 24 (.agg #[.int .u8 255, .int .u8 255, .int .u8 255, .int .u8 255, .int .u8 255, .int .u8 255]) (.agg #[.int .u8 255, .int .u8 255, .int .u8 255, .int .u8 255, .int .u8 255, .int .u8 255])).run Tryd.prog w = .ok true w := by
  have h := meq [255, 255, 255, 255, 255, 255] [255, 255, 255, 255, 255, 255] rfl rfl w
  rw [beq_self_eq_true] at h
  exact h
theorem ke2 (w : World) : (Op.equalIn 10000 24 (.agg #[.int .u8 255, .int .u8 128, .int .u8 0, .int .u8 0, .int .u8 0, .int .u8 0]) (.agg #[.int .u8 255, .int .u8 128, .int .u8 0, .int .u8 0, .int .u8 0, .int .u8 0])).run Tryd.prog w = .ok true w := by
  have h := meq [255, 128, 0, 0, 0, 0] [255, 128, 0, 0, 0, 0] rfl rfl w
  rw [beq_self_eq_true] at h
  exact h
theorem ke3 (w : World) : (Op.equalIn 10000 24 (.agg #[.int .u8 0, .int .u8 0, .int .u8 0, .int .u8 0, .int .u8 0, .int .u8 5]) (.agg #[.int .u8 0, .int .u8 0, .int .u8 0, .int .u8 0, .int .u8 0, .int .u8 5])).run Tryd.prog w = .ok true w := by
  have h := meq [0, 0, 0, 0, 0, 5] [0, 0, 0, 0, 0, 5] rfl rfl w
  rw [beq_self_eq_true] at h
  exact h

set_option maxHeartbeats 16000000 in
set_option maxRecDepth 100000 in
theorem known_walk (w : World) (hS : Syn w) : Calls Tryd.prog 8 #[] w fun e w' => e = .returned (.bool true) ∧ Below w.heap.size w w' := by
  obtain ⟨W, hW⟩ : ∃ W, W = w.alloc (.cells #[.string ⟨#[]⟩, .string ⟨#[48, 48, 58, 48, 48, 58, 48, 48, 58, 48, 48, 58, 48, 48]⟩, .string ⟨#[48, 48, 58, 48, 48, 58, 48, 48, 58, 48, 48, 58, 48, 48, 58, 48, 48, 58, 48, 48]⟩, .string ⟨#[48, 58, 48, 48, 58, 48, 48, 58, 48, 48, 58, 48, 48, 58, 48, 48, 48]⟩, .string ⟨#[48, 48, 45, 48, 48, 45, 48, 48, 45, 48, 48, 45, 48, 48, 45, 48, 48]⟩, .string ⟨#[48, 48, 58, 48, 48, 58, 48, 48, 58, 48, 48, 58, 48, 48, 58, 48, 103]⟩, .string ⟨#[48, 48, 58, 48, 48, 58, 48, 48, 58, 48, 48, 58, 48, 48, 58, 48, 32]⟩, .string ⟨#[32, 48, 58, 48, 48, 58, 48, 48, 58, 48, 48, 58, 48, 48, 58, 48, 48]⟩, .string ⟨#[48, 120, 58, 48, 48, 58, 48, 48, 58, 48, 48, 58, 48, 48, 58, 48, 48]⟩, .string ⟨#[48, 48, 58, 48, 48, 58, 48, 48, 58, 48, 48, 58, 48, 48, 58, 49, 48, 0]⟩, .string ⟨#[16, 16, 58, 48, 48, 58, 48, 48, 58, 48, 48, 58, 48, 48, 58, 48, 48]⟩] 9) := ⟨_, rfl⟩
  have HBS : Hid (Blo W w.heap.size 9 #[.string ⟨#[]⟩, .string ⟨#[48, 48, 58, 48, 48, 58, 48, 48, 58, 48, 48, 58, 48, 48]⟩, .string ⟨#[48, 48, 58, 48, 48, 58, 48, 48, 58, 48, 48, 58, 48, 48, 58, 48, 48, 58, 48, 48]⟩, .string ⟨#[48, 58, 48, 48, 58, 48, 48, 58, 48, 48, 58, 48, 48, 58, 48, 48, 48]⟩, .string ⟨#[48, 48, 45, 48, 48, 45, 48, 48, 45, 48, 48, 45, 48, 48, 45, 48, 48]⟩, .string ⟨#[48, 48, 58, 48, 48, 58, 48, 48, 58, 48, 48, 58, 48, 48, 58, 48, 103]⟩, .string ⟨#[48, 48, 58, 48, 48, 58, 48, 48, 58, 48, 48, 58, 48, 48, 58, 48, 32]⟩, .string ⟨#[32, 48, 58, 48, 48, 58, 48, 48, 58, 48, 48, 58, 48, 48, 58, 48, 48]⟩, .string ⟨#[48, 120, 58, 48, 48, 58, 48, 48, 58, 48, 48, 58, 48, 48, 58, 48, 48]⟩, .string ⟨#[48, 48, 58, 48, 48, 58, 48, 48, 58, 48, 48, 58, 48, 48, 58, 49, 48, 0]⟩, .string ⟨#[16, 16, 58, 48, 48, 58, 48, 48, 58, 48, 48, 58, 48, 48, 58, 48, 48]⟩]) := by unfold Hid; rw [hW]; exact Blo.new w _ _
  have HK0 : Hid (Kept Nil w W) := by unfold Hid; rw [hW]; exact (Kept.refl Nil w).alloc _
  have HS := Lib.hid (hS.kept HK0.out)
  have HW := Lib.hid hW
  clear hW hS
  go_enter Tryd.func8, Tryd.ntmps8
  go_wp2
  rw [← HW.out]
  go_loopw [13] (fun i wr => ∃ k : Nat, k ≤ 11 ∧ i = .int .i64 k ∧ Hid (Kept Nil W wr)) (fun i _ => 11 - (intOf i).toNat)
  case atStart => exact ⟨0, by omega, rfl, Kept.refl _ _⟩
  case round =>
    obtain ⟨k, hk, rfl, HK⟩ := hrel
    by_cases hlt : k < 11
    · rcases (show k = 0 ∨ k = 1 ∨ k = 2 ∨ k = 3 ∨ k = 4 ∨ k = 5 ∨ k = 6 ∨ k = 7 ∨ k = 8 ∨ k = 9 ∨ k = 10 by omega) with rfl | rfl | rfl | rfl | rfl | rfl | rfl | rfl | rfl | rfl | rfl
      · have ck := (HBS.out.kept HK.out (fun hf => hf)).cell 0
        simp at ck
        go_wp2_with fail
        refine (kp0 _ (HS.out.kept HK.out)).mono ?_
        rintro e w1 ⟨rfl, hk1⟩
        have HK1 := Lib.hid ((HK.out.then hk1).alloc (.cells #[.int .u8 0, .int .u8 0, .int .u8 0, .int .u8 0, .int .u8 0, .int .u8 0] 24))
        clear hk1
        go_wp2
        go_roundw
        case rel => exact ⟨1, by omega, rfl, HK1.out⟩
        case measure => simp [intOf]
      · have ck := (HBS.out.kept HK.out (fun hf => hf)).cell 1
        simp at ck
        go_wp2_with fail
        refine (kp1 _ (HS.out.kept HK.out)).mono ?_
        rintro e w1 ⟨rfl, hk1⟩
        have HK1 := Lib.hid ((HK.out.then hk1).alloc (.cells #[.int .u8 0, .int .u8 0, .int .u8 0, .int .u8 0, .int .u8 0, .int .u8 0] 24))
        clear hk1
        go_wp2
        go_roundw
        case rel => exact ⟨2, by omega, rfl, HK1.out⟩
        case measure => simp [intOf]
      · rw [show ((2 : Nat) : Int) = 2 from rfl]
        have ck := (HBS.out.kept HK.out (fun hf => hf)).cell 2
        simp at ck
        go_wp2_with fail
        refine (kp2 _ (HS.out.kept HK.out)).mono ?_
        rintro e w1 ⟨rfl, hk1⟩
        have HK1 := Lib.hid ((HK.out.then hk1).alloc (.cells #[.int .u8 0, .int .u8 0, .int .u8 0, .int .u8 0, .int .u8 0, .int .u8 0] 24))
        clear hk1
        go_wp2
        go_roundw
        case rel => exact ⟨3, by omega, rfl, HK1.out⟩
        case measure => simp [intOf]
      · rw [show ((3 : Nat) : Int) = 3 from rfl]
        have ck := (HBS.out.kept HK.out (fun hf => hf)).cell 3
        simp at ck
        go_wp2_with fail
        refine (kp3 _ (HS.out.kept HK.out)).mono ?_
        rintro e w1 ⟨rfl, hk1⟩
        have HK1 := Lib.hid ((HK.out.then hk1).alloc (.cells #[.int .u8 0, .int .u8 0, .int .u8 0, .int .u8 0, .int .u8 0, .int .u8 0] 24))
        clear hk1
        go_wp2
        go_roundw
        case rel => exact ⟨4, by omega, rfl, HK1.out⟩
        case measure => simp [intOf]
      · rw [show ((4 : Nat) : Int) = 4 from rfl]
        have ck := (HBS.out.kept HK.out (fun hf => hf)).cell 4
        simp at ck
        go_wp2_with fail
        refine (kp4 _ (HS.out.kept HK.out)).mono ?_
        rintro e w1 ⟨rfl, hk1⟩
        have HK1 := Lib.hid ((HK.out.then hk1).alloc (.cells #[.int .u8 0, .int .u8 0, .int .u8 0, .int .u8 0, .int .u8 0, .int .u8 0] 24))
        clear hk1
        go_wp2
        go_roundw
        case rel => exact ⟨5, by omega, rfl, HK1.out⟩
        case measure => simp [intOf]
      · rw [show ((5 : Nat) : Int) = 5 from rfl]
        have ck := (HBS.out.kept HK.out (fun hf => hf)).cell 5
        simp at ck
        go_wp2_with fail
        refine (kp5 _ (HS.out.kept HK.out)).mono ?_
        rintro e w1 ⟨rfl, hk1⟩
        have HK1 := Lib.hid ((HK.out.then hk1).alloc (.cells #[.int .u8 0, .int .u8 0, .int .u8 0, .int .u8 0, .int .u8 0, .int .u8 0] 24))
        clear hk1
        go_wp2
        go_roundw
        case rel => exact ⟨6, by omega, rfl, HK1.out⟩
        case measure => simp [intOf]
      · rw [show ((6 : Nat) : Int) = 6 from rfl]
        have ck := (HBS.out.kept HK.out (fun hf => hf)).cell 6
        simp at ck
        go_wp2_with fail
        refine (kp6 _ (HS.out.kept HK.out)).mono ?_
        rintro e w1 ⟨rfl, hk1⟩
        have HK1 := Lib.hid ((HK.out.then hk1).alloc (.cells #[.int .u8 0, .int .u8 0, .int .u8 0, .int .u8 0, .int .u8 0, .int .u8 0] 24))
        clear hk1
        go_wp2
        go_roundw
        case rel => exact ⟨7, by omega, rfl, HK1.out⟩
        case measure => simp [intOf]
      · rw [show ((7 : Nat) : Int) = 7 from rfl]
        have ck := (HBS.out.kept HK.out (fun hf => hf)).cell 7
        simp at ck
        go_wp2_with fail
        refine (kp7 _ (HS.out.kept HK.out)).mono ?_
        rintro e w1 ⟨rfl, hk1⟩
        have HK1 := Lib.hid ((HK.out.then hk1).alloc (.cells #[.int .u8 0, .int .u8 0, .int .u8 0, .int .u8 0, .int .u8 0, .int .u8 0] 24))
        clear hk1
        go_wp2
        go_roundw
        case rel => exact ⟨8, by omega, rfl, HK1.out⟩
        case measure => simp [intOf]
      · rw [show ((8 : Nat) : Int) = 8 from rfl]
        have ck := (HBS.out.kept HK.out (fun hf => hf)).cell 8
        simp at ck
        go_wp2_with fail
        refine (kp8 _ (HS.out.kept HK.out)).mono ?_
        rintro e w1 ⟨rfl, hk1⟩
        have HK1 := Lib.hid ((HK.out.then hk1).alloc (.cells #[.int .u8 0, .int .u8 0, .int .u8 0, .int .u8 0, .int .u8 0, .int .u8 0] 24))
        clear hk1
        go_wp2
        go_roundw
        case rel => exact ⟨9, by omega, rfl, HK1.out⟩
        case measure => simp [intOf]
      · rw [show ((9 : Nat) : Int) = 9 from rfl]
        have ck := (HBS.out.kept HK.out (fun hf => hf)).cell 9
        simp at ck
        go_wp2_with fail
        refine (kp9 _ (HS.out.kept HK.out)).mono ?_
        rintro e w1 ⟨rfl, hk1⟩
        have HK1 := Lib.hid ((HK.out.then hk1).alloc (.cells #[.int .u8 0, .int .u8 0, .int .u8 0, .int .u8 0, .int .u8 0, .int .u8 0] 24))
        clear hk1
        go_wp2
        go_roundw
        case rel => exact ⟨10, by omega, rfl, HK1.out⟩
        case measure => simp [intOf]
      · rw [show ((10 : Nat) : Int) = 10 from rfl]
        have ck := (HBS.out.kept HK.out (fun hf => hf)).cell 10
        simp at ck
        go_wp2_with fail
        refine (kp10 _ (HS.out.kept HK.out)).mono ?_
        rintro e w1 ⟨rfl, hk1⟩
        have HK1 := Lib.hid ((HK.out.then hk1).alloc (.cells #[.int .u8 0, .int .u8 0, .int .u8 0, .int .u8 0, .int .u8 0, .int .u8 0] 24))
        clear hk1
        go_wp2
        go_roundw
        case rel => exact ⟨11, by omega, rfl, HK1.out⟩
        case measure => simp [intOf]
    · obtain rfl : k = 11 := by omega
      obtain ⟨V, hV⟩ : ∃ V, V = wr.alloc (.cells #[.string ⟨#[48, 48, 58, 48, 48, 58, 48, 48, 58, 48, 48, 58, 48, 48, 58, 48, 48, 47]⟩, .int .i64 5, .string ⟨#[48, 48, 58, 48, 48, 58, 48, 48, 58, 48, 48, 58, 48, 48, 58, 48, 48, 47, 52, 57]⟩, .int .i64 24, .string ⟨#[48, 48, 58, 48, 48, 58, 48, 48, 58, 48, 48, 58, 48, 48, 58, 48, 48, 47, 49, 48, 48]⟩, .int .i64 5, .string ⟨#[48, 48, 58, 48, 48, 58, 48, 48, 58, 48, 48, 58, 48, 48, 58, 48, 48, 47, 45, 49]⟩, .int .i64 5, .string ⟨#[48, 48, 58, 48, 48, 58, 48, 48, 58, 48, 48, 58, 48, 48, 58, 48, 48, 47, 52, 56]⟩, .int .i64 0, .string ⟨#[48, 48, 58, 48, 48, 58, 48, 48, 58, 48, 48, 58, 48, 48, 58, 48, 48, 47, 48]⟩, .int .i64 0, .string ⟨#[48, 48, 58, 48, 48, 58, 48, 48, 58, 48, 48, 58, 48, 48, 58, 48, 48, 47, 48, 48]⟩, .int .i64 0, .string ⟨#[48, 48, 58, 48, 48, 58, 48, 48, 58, 48, 48, 58, 48, 48, 58, 48, 48, 47, 48, 48, 58, 48, 48, 58, 48, 48, 58, 48, 48, 58, 48, 48, 58, 48, 48]⟩, .int .i64 0, .string ⟨#[48, 48, 58, 48, 48, 58, 48, 48, 58, 48, 48, 58, 48, 48, 58, 48, 48, 47, 49, 47, 50]⟩, .int .i64 5, .string ⟨#[47, 56]⟩, .int .i64 5, .string ⟨#[48, 48, 58, 48, 48, 58, 48, 48, 58, 48, 48, 58, 48, 48, 58, 48, 48, 120]⟩, .int .i64 5] 64) := ⟨_, rfl⟩
      have HBT : Hid (Blo V wr.heap.size 64 #[.string ⟨#[48, 48, 58, 48, 48, 58, 48, 48, 58, 48, 48, 58, 48, 48, 58, 48, 48, 47]⟩, .int .i64 5, .string ⟨#[48, 48, 58, 48, 48, 58, 48, 48, 58, 48, 48, 58, 48, 48, 58, 48, 48, 47, 52, 57]⟩, .int .i64 24, .string ⟨#[48, 48, 58, 48, 48, 58, 48, 48, 58, 48, 48, 58, 48, 48, 58, 48, 48, 47, 49, 48, 48]⟩, .int .i64 5, .string ⟨#[48, 48, 58, 48, 48, 58, 48, 48, 58, 48, 48, 58, 48, 48, 58, 48, 48, 47, 45, 49]⟩, .int .i64 5, .string ⟨#[48, 48, 58, 48, 48, 58, 48, 48, 58, 48, 48, 58, 48, 48, 58, 48, 48, 47, 52, 56]⟩, .int .i64 0, .string ⟨#[48, 48, 58, 48, 48, 58, 48, 48, 58, 48, 48, 58, 48, 48, 58, 48, 48, 47, 48]⟩, .int .i64 0, .string ⟨#[48, 48, 58, 48, 48, 58, 48, 48, 58, 48, 48, 58, 48, 48, 58, 48, 48, 47, 48, 48]⟩, .int .i64 0, .string ⟨#[48, 48, 58, 48, 48, 58, 48, 48, 58, 48, 48, 58, 48, 48, 58, 48, 48, 47, 48, 48, 58, 48, 48, 58, 48, 48, 58, 48, 48, 58, 48, 48, 58, 48, 48]⟩, .int .i64 0, .string ⟨#[48, 48, 58, 48, 48, 58, 48, 48, 58, 48, 48, 58, 48, 48, 58, 48, 48, 47, 49, 47, 50]⟩, .int .i64 5, .string ⟨#[47, 56]⟩, .int .i64 5, .string ⟨#[48, 48, 58, 48, 48, 58, 48, 48, 58, 48, 48, 58, 48, 48, 58, 48, 48, 120]⟩, .int .i64 5]) := by unfold Hid; rw [hV]; exact Blo.new wr _ _
      have HKV : Hid (Kept Nil w V) := by unfold Hid; rw [hV]; exact (HK0.out.then HK.out).alloc _
      have HS2 : Hid (Syn V) := by unfold Hid; rw [hV]; exact HS.out.kept (HK.out.alloc _)
      have HV := Lib.hid hV
      obtain ⟨g2, hg2⟩ : ∃ g2, g2 = wr.heap.size := ⟨_, rfl⟩
      rw [← hg2] at HBT
      have HG2 := Lib.hid hg2
      clear hV hlt hg2
      go_wp2
      rw [← HV.out, ← HG2.out]
      clear HBS HK0 HS HW HK HV HG2
      rename_i wr0 _
      go_loopw [38] (fun i wr => ∃ k : Nat, k ≤ 11 ∧ i = .int .i64 k ∧ Hid (Kept Nil V wr)) (fun i _ => 11 - (intOf i).toNat)
      case atStart => exact ⟨0, by omega, rfl, Kept.refl _ _⟩
      case round =>
        obtain ⟨k, hk, rfl, HK⟩ := hrel
        by_cases hlt : k < 11
        · rcases (show k = 0 ∨ k = 1 ∨ k = 2 ∨ k = 3 ∨ k = 4 ∨ k = 5 ∨ k = 6 ∨ k = 7 ∨ k = 8 ∨ k = 9 ∨ k = 10 by omega) with rfl | rfl | rfl | rfl | rfl | rfl | rfl | rfl | rfl | rfl | rfl
          · have ck := (HBT.out.kept HK.out (fun hf => hf)).cell 0
            have cl := (HBT.out.kept HK.out (fun hf => hf)).cell 1
            simp at ck cl
            have HB6 := Lib.hid (Blo.new wr 64 #[.string ⟨#[48, 48, 58, 48, 48, 58, 48, 48, 58, 48, 48, 58, 48, 48, 58, 48, 48, 47]⟩, .int .i64 5])
            go_wp2_with fail
            refine (kq0 _ (HS2.out.kept (HK.out.alloc _))).mono ?_
            rintro e w1 ⟨rfl, hk1⟩
            have hb6 := HB6.out.kept hk1 (fun hf => hf)
            have c6 := hb6.cell 1
            simp at c6
            have hsz := hb6.lt
            have HK1 := Lib.hid (((HK.out.alloc (.cells #[.string ⟨#[48, 48, 58, 48, 48, 58, 48, 48, 58, 48, 48, 58, 48, 48, 58, 48, 48, 47]⟩, .int .i64 5] 64)).then hk1).alloc (.cells #[.int .u8 0, .int .u8 0, .int .u8 0, .int .u8 0, .int .u8 0, .int .u8 0, .int .u8 0, .int .u8 0, .int .u8 0, .int .u8 0, .int .u8 0, .int .u8 0] 26))
            clear hk1 hb6
            go_wp2
            go_roundw
            case rel => exact ⟨1, by omega, rfl, HK1.out⟩
            case measure => simp [intOf]
          · have ck := (HBT.out.kept HK.out (fun hf => hf)).cell 2
            have cl := (HBT.out.kept HK.out (fun hf => hf)).cell 3
            simp at ck cl
            have HB6 := Lib.hid (Blo.new wr 64 #[.string ⟨#[48, 48, 58, 48, 48, 58, 48, 48, 58, 48, 48, 58, 48, 48, 58, 48, 48, 47, 52, 57]⟩, .int .i64 24])
            go_wp2_with fail
            refine (kq1 _ (HS2.out.kept (HK.out.alloc _))).mono ?_
            rintro e w1 ⟨rfl, hk1⟩
            have hb6 := HB6.out.kept hk1 (fun hf => hf)
            have c6 := hb6.cell 1
            simp at c6
            have hsz := hb6.lt
            have HK1 := Lib.hid (((HK.out.alloc (.cells #[.string ⟨#[48, 48, 58, 48, 48, 58, 48, 48, 58, 48, 48, 58, 48, 48, 58, 48, 48, 47, 52, 57]⟩, .int .i64 24] 64)).then hk1).alloc (.cells #[.int .u8 0, .int .u8 0, .int .u8 0, .int .u8 0, .int .u8 0, .int .u8 0, .int .u8 0, .int .u8 0, .int .u8 0, .int .u8 0, .int .u8 0, .int .u8 0] 26))
            clear hk1 hb6
            go_wp2
            go_roundw
            case rel => exact ⟨2, by omega, rfl, HK1.out⟩
            case measure => simp [intOf]
          · rw [show ((2 : Nat) : Int) = 2 from rfl]
            have ck := (HBT.out.kept HK.out (fun hf => hf)).cell 4
            have cl := (HBT.out.kept HK.out (fun hf => hf)).cell 5
            simp at ck cl
            have HB6 := Lib.hid (Blo.new wr 64 #[.string ⟨#[48, 48, 58, 48, 48, 58, 48, 48, 58, 48, 48, 58, 48, 48, 58, 48, 48, 47, 49, 48, 48]⟩, .int .i64 5])
            go_wp2_with fail
            refine (kq2 _ (HS2.out.kept (HK.out.alloc _))).mono ?_
            rintro e w1 ⟨rfl, hk1⟩
            have hb6 := HB6.out.kept hk1 (fun hf => hf)
            have c6 := hb6.cell 1
            simp at c6
            have hsz := hb6.lt
            have HK1 := Lib.hid (((HK.out.alloc (.cells #[.string ⟨#[48, 48, 58, 48, 48, 58, 48, 48, 58, 48, 48, 58, 48, 48, 58, 48, 48, 47, 49, 48, 48]⟩, .int .i64 5] 64)).then hk1).alloc (.cells #[.int .u8 0, .int .u8 0, .int .u8 0, .int .u8 0, .int .u8 0, .int .u8 0, .int .u8 0, .int .u8 0, .int .u8 0, .int .u8 0, .int .u8 0, .int .u8 0] 26))
            clear hk1 hb6
            go_wp2
            go_roundw
            case rel => exact ⟨3, by omega, rfl, HK1.out⟩
            case measure => simp [intOf]
          · rw [show ((3 : Nat) : Int) = 3 from rfl]
            have ck := (HBT.out.kept HK.out (fun hf => hf)).cell 6
            have cl := (HBT.out.kept HK.out (fun hf => hf)).cell 7
            simp at ck cl
            have HB6 := Lib.hid (Blo.new wr 64 #[.string ⟨#[48, 48, 58, 48, 48, 58, 48, 48, 58, 48, 48, 58, 48, 48, 58, 48, 48, 47, 45, 49]⟩, .int .i64 5])
            go_wp2_with fail
            refine (kq3 _ (HS2.out.kept (HK.out.alloc _))).mono ?_
            rintro e w1 ⟨rfl, hk1⟩
            have hb6 := HB6.out.kept hk1 (fun hf => hf)
            have c6 := hb6.cell 1
            simp at c6
            have hsz := hb6.lt
            have HK1 := Lib.hid (((HK.out.alloc (.cells #[.string ⟨#[48, 48, 58, 48, 48, 58, 48, 48, 58, 48, 48, 58, 48, 48, 58, 48, 48, 47, 45, 49]⟩, .int .i64 5] 64)).then hk1).alloc (.cells #[.int .u8 0, .int .u8 0, .int .u8 0, .int .u8 0, .int .u8 0, .int .u8 0, .int .u8 0, .int .u8 0, .int .u8 0, .int .u8 0, .int .u8 0, .int .u8 0] 26))
            clear hk1 hb6
            go_wp2
            go_roundw
            case rel => exact ⟨4, by omega, rfl, HK1.out⟩
            case measure => simp [intOf]
          · rw [show ((4 : Nat) : Int) = 4 from rfl]
            have ck := (HBT.out.kept HK.out (fun hf => hf)).cell 8
            have cl := (HBT.out.kept HK.out (fun hf => hf)).cell 9
            simp at ck cl
            have HB6 := Lib.hid (Blo.new wr 64 #[.string ⟨#[48, 48, 58, 48, 48, 58, 48, 48, 58, 48, 48, 58, 48, 48, 58, 48, 48, 47, 52, 56]⟩, .int .i64 0])
            go_wp2_with fail
            refine (kq4 _ (HS2.out.kept (HK.out.alloc _))).mono ?_
            rintro e w1 ⟨rfl, hk1⟩
            have hb6 := HB6.out.kept hk1 (fun hf => hf)
            have c6 := hb6.cell 1
            simp at c6
            have hsz := hb6.lt
            have HK1 := Lib.hid (((HK.out.alloc (.cells #[.string ⟨#[48, 48, 58, 48, 48, 58, 48, 48, 58, 48, 48, 58, 48, 48, 58, 48, 48, 47, 52, 56]⟩, .int .i64 0] 64)).then hk1).alloc (.cells #[.int .u8 0, .int .u8 0, .int .u8 0, .int .u8 0, .int .u8 0, .int .u8 0, .int .u8 255, .int .u8 255, .int .u8 255, .int .u8 255, .int .u8 255, .int .u8 255] 26))
            clear hk1 hb6
            go_wp2
            go_roundw
            case rel => exact ⟨5, by omega, rfl, HK1.out⟩
            case measure => simp [intOf]
          · rw [show ((5 : Nat) : Int) = 5 from rfl]
            have ck := (HBT.out.kept HK.out (fun hf => hf)).cell 10
            have cl := (HBT.out.kept HK.out (fun hf => hf)).cell 11
            simp at ck cl
            have HB6 := Lib.hid (Blo.new wr 64 #[.string ⟨#[48, 48, 58, 48, 48, 58, 48, 48, 58, 48, 48, 58, 48, 48, 58, 48, 48, 47, 48]⟩, .int .i64 0])
            go_wp2_with fail
            refine (kq5 _ (HS2.out.kept (HK.out.alloc _))).mono ?_
            rintro e w1 ⟨rfl, hk1⟩
            have hb6 := HB6.out.kept hk1 (fun hf => hf)
            have c6 := hb6.cell 1
            simp at c6
            have hsz := hb6.lt
            have HK1 := Lib.hid (((HK.out.alloc (.cells #[.string ⟨#[48, 48, 58, 48, 48, 58, 48, 48, 58, 48, 48, 58, 48, 48, 58, 48, 48, 47, 48]⟩, .int .i64 0] 64)).then hk1).alloc (.cells #[.int .u8 0, .int .u8 0, .int .u8 0, .int .u8 0, .int .u8 0, .int .u8 0, .int .u8 0, .int .u8 0, .int .u8 0, .int .u8 0, .int .u8 0, .int .u8 0] 26))
            clear hk1 hb6
            go_wp2
            go_roundw
            case rel => exact ⟨6, by omega, rfl, HK1.out⟩
            case measure => simp [intOf]
          · rw [show ((6 : Nat) : Int) = 6 from rfl]
            have ck := (HBT.out.kept HK.out (fun hf => hf)).cell 12
            have cl := (HBT.out.kept HK.out (fun hf => hf)).cell 13
            simp at ck cl
            have HB6 := Lib.hid (Blo.new wr 64 #[.string ⟨#[48, 48, 58, 48, 48, 58, 48, 48, 58, 48, 48, 58, 48, 48, 58, 48, 48, 47, 48, 48]⟩, .int .i64 0])
            go_wp2_with fail
            refine (kq6 _ (HS2.out.kept (HK.out.alloc _))).mono ?_
            rintro e w1 ⟨rfl, hk1⟩
            have hb6 := HB6.out.kept hk1 (fun hf => hf)
            have c6 := hb6.cell 1
            simp at c6
            have hsz := hb6.lt
            have HK1 := Lib.hid (((HK.out.alloc (.cells #[.string ⟨#[48, 48, 58, 48, 48, 58, 48, 48, 58, 48, 48, 58, 48, 48, 58, 48, 48, 47, 48, 48]⟩, .int .i64 0] 64)).then hk1).alloc (.cells #[.int .u8 0, .int .u8 0, .int .u8 0, .int .u8 0, .int .u8 0, .int .u8 0, .int .u8 0, .int .u8 0, .int .u8 0, .int .u8 0, .int .u8 0, .int .u8 0] 26))
            clear hk1 hb6
            go_wp2
            go_roundw
            case rel => exact ⟨7, by omega, rfl, HK1.out⟩
            case measure => simp [intOf]
          · rw [show ((7 : Nat) : Int) = 7 from rfl]
            have ck := (HBT.out.kept HK.out (fun hf => hf)).cell 14
            have cl := (HBT.out.kept HK.out (fun hf => hf)).cell 15
            simp at ck cl
            have HB6 := Lib.hid (Blo.new wr 64 #[.string ⟨#[48, 48, 58, 48, 48, 58, 48, 48, 58, 48, 48, 58, 48, 48, 58, 48, 48, 47, 48, 48, 58, 48, 48, 58, 48, 48, 58, 48, 48, 58, 48, 48, 58, 48, 48]⟩, .int .i64 0])
            go_wp2_with fail
            refine (kq7 _ (HS2.out.kept (HK.out.alloc _))).mono ?_
            rintro e w1 ⟨rfl, hk1⟩
            have hb6 := HB6.out.kept hk1 (fun hf => hf)
            have c6 := hb6.cell 1
            simp at c6
            have hsz := hb6.lt
            have HK1 := Lib.hid (((HK.out.alloc (.cells #[.string ⟨#[48, 48, 58, 48, 48, 58, 48, 48, 58, 48, 48, 58, 48, 48, 58, 48, 48, 47, 48, 48, 58, 48, 48, 58, 48, 48, 58, 48, 48, 58, 48, 48, 58, 48, 48]⟩, .int .i64 0] 64)).then hk1).alloc (.cells #[.int .u8 0, .int .u8 0, .int .u8 0, .int .u8 0, .int .u8 0, .int .u8 0, .int .u8 0, .int .u8 0, .int .u8 0, .int .u8 0, .int .u8 0, .int .u8 0] 26))
            clear hk1 hb6
            go_wp2
            go_roundw
            case rel => exact ⟨8, by omega, rfl, HK1.out⟩
            case measure => simp [intOf]
          · rw [show ((8 : Nat) : Int) = 8 from rfl]
            have ck := (HBT.out.kept HK.out (fun hf => hf)).cell 16
            have cl := (HBT.out.kept HK.out (fun hf => hf)).cell 17
            simp at ck cl
            have HB6 := Lib.hid (Blo.new wr 64 #[.string ⟨#[48, 48, 58, 48, 48, 58, 48, 48, 58, 48, 48, 58, 48, 48, 58, 48, 48, 47, 49, 47, 50]⟩, .int .i64 5])
            go_wp2_with fail
            refine (kq8 _ (HS2.out.kept (HK.out.alloc _))).mono ?_
            rintro e w1 ⟨rfl, hk1⟩
            have hb6 := HB6.out.kept hk1 (fun hf => hf)
            have c6 := hb6.cell 1
            simp at c6
            have hsz := hb6.lt
            have HK1 := Lib.hid (((HK.out.alloc (.cells #[.string ⟨#[48, 48, 58, 48, 48, 58, 48, 48, 58, 48, 48, 58, 48, 48, 58, 48, 48, 47, 49, 47, 50]⟩, .int .i64 5] 64)).then hk1).alloc (.cells #[.int .u8 0, .int .u8 0, .int .u8 0, .int .u8 0, .int .u8 0, .int .u8 0, .int .u8 0, .int .u8 0, .int .u8 0, .int .u8 0, .int .u8 0, .int .u8 0] 26))
            clear hk1 hb6
            go_wp2
            go_roundw
            case rel => exact ⟨9, by omega, rfl, HK1.out⟩
            case measure => simp [intOf]
          · rw [show ((9 : Nat) : Int) = 9 from rfl]
            have ck := (HBT.out.kept HK.out (fun hf => hf)).cell 18
            have cl := (HBT.out.kept HK.out (fun hf => hf)).cell 19
            simp at ck cl
            have HB6 := Lib.hid (Blo.new wr 64 #[.string ⟨#[47, 56]⟩, .int .i64 5])
            go_wp2_with fail
            refine (kq9 _ (HS2.out.kept (HK.out.alloc _))).mono ?_
            rintro e w1 ⟨rfl, hk1⟩
            have hb6 := HB6.out.kept hk1 (fun hf => hf)
            have c6 := hb6.cell 1
            simp at c6
            have hsz := hb6.lt
            have HK1 := Lib.hid (((HK.out.alloc (.cells #[.string ⟨#[47, 56]⟩, .int .i64 5] 64)).then hk1).alloc (.cells #[.int .u8 0, .int .u8 0, .int .u8 0, .int .u8 0, .int .u8 0, .int .u8 0, .int .u8 0, .int .u8 0, .int .u8 0, .int .u8 0, .int .u8 0, .int .u8 0] 26))
            clear hk1 hb6
            go_wp2
            go_roundw
            case rel => exact ⟨10, by omega, rfl, HK1.out⟩
            case measure => simp [intOf]
          · rw [show ((10 : Nat) : Int) = 10 from rfl]
            have ck := (HBT.out.kept HK.out (fun hf => hf)).cell 20
            have cl := (HBT.out.kept HK.out (fun hf => hf)).cell 21
            simp at ck cl
            have HB6 := Lib.hid (Blo.new wr 64 #[.string ⟨#[48, 48, 58, 48, 48, 58, 48, 48, 58, 48, 48, 58, 48, 48, 58, 48, 48, 120]⟩, .int .i64 5])
            go_wp2_with fail
            refine (kq10 _ (HS2.out.kept (HK.out.alloc _))).mono ?_
            rintro e w1 ⟨rfl, hk1⟩
            have hb6 := HB6.out.kept hk1 (fun hf => hf)
            have c6 := hb6.cell 1
            simp at c6
            have hsz := hb6.lt
            have HK1 := Lib.hid (((HK.out.alloc (.cells #[.string ⟨#[48, 48, 58, 48, 48, 58, 48, 48, 58, 48, 48, 58, 48, 48, 58, 48, 48, 120]⟩, .int .i64 5] 64)).then hk1).alloc (.cells #[.int .u8 0, .int .u8 0, .int .u8 0, .int .u8 0, .int .u8 0, .int .u8 0, .int .u8 0, .int .u8 0, .int .u8 0, .int .u8 0, .int .u8 0, .int .u8 0] 26))
            clear hk1 hb6
            go_wp2
            go_roundw
            case rel => exact ⟨11, by omega, rfl, HK1.out⟩
            case measure => simp [intOf]
        · obtain rfl : k = 11 := by omega
          have KT := Lib.hid (HKV.out.then HK.out)
          have HS3 := Lib.hid (HS2.out.kept HK.out)
          have e0 := ke0
          have e1 := ke1
          have e2 := ke2
          have e3 := ke3
          clear HBT HKV HS2 HK hlt hk
          go_wp2_with fail
          refine (kq11 _ HS3.out).mono ?_
          rintro e w1 ⟨rfl, hk1⟩
          have KT := Lib.hid ((KT.out.then hk1).alloc (.cells #[.int .u8 15, .int .u8 0, .int .u8 0, .int .u8 0, .int .u8 0, .int .u8 1, .int .u8 15, .int .u8 0, .int .u8 0, .int .u8 0, .int .u8 0, .int .u8 1] 26))
          clear hk1
          go_wp2_with fail
          refine (kt _).mono ?_
          rintro r v0 ⟨rfl, hk0⟩
          have KT := Lib.hid (KT.out.then hk0)
          clear hk0
          go_wp2_with fail
          refine (kk0 _).mono ?_
          rintro r v1 ⟨rfl, hk1⟩
          have KT := Lib.hid (KT.out.then hk1)
          clear hk1
          go_wp2_with fail
          refine (ko0 _).mono ?_
          rintro r v2 ⟨rfl, hk2⟩
          have KT := Lib.hid (KT.out.then hk2)
          clear hk2
          go_wp2_with fail
          refine (kk1 _).mono ?_
          rintro r v3 ⟨rfl, hk3⟩
          have KT := Lib.hid (KT.out.then hk3)
          clear hk3
          go_wp2_with fail
          refine (kk2 _).mono ?_
          rintro r v4 ⟨rfl, hk4⟩
          have KT := Lib.hid (KT.out.then hk4)
          clear hk4
          go_wp2_with fail
          refine (kk3 _).mono ?_
          rintro r v5 ⟨rfl, hk5⟩
          have KT := Lib.hid (KT.out.then hk5)
          clear hk5
          go_wp2_with fail
          refine (kk4 _).mono ?_
          rintro r v6 ⟨rfl, hk6⟩
          have KT := Lib.hid (KT.out.then hk6)
          clear hk6
          go_wp2_with fail
          refine (kb0 _).mono ?_
          rintro r v7 ⟨rfl, hk7⟩
          have KT := Lib.hid (KT.out.then hk7)
          clear hk7
          go_wp2_with fail
          refine (kb1 _).mono ?_
          rintro r v8 ⟨rfl, hk8⟩
          have KT := Lib.hid (KT.out.then hk8)
          clear hk8
          go_wp2_with fail
          refine (ko0 _).mono ?_
          rintro r v9 ⟨rfl, hk9⟩
          have KT := Lib.hid (KT.out.then hk9)
          clear hk9
          go_wp2_with fail
          refine (kb2 _).mono ?_
          rintro r v10 ⟨rfl, hk10⟩
          have KT := Lib.hid (KT.out.then hk10)
          clear hk10
          go_wp2_with fail
          refine (ko1 _).mono ?_
          rintro r v11 ⟨rfl, hk11⟩
          have KT := Lib.hid (KT.out.then hk11)
          clear hk11
          go_wp2_with fail
          refine (tells_yes _).mono ?_
          rintro r v12 ⟨rfl, hk12⟩
          have KT := Lib.hid (KT.out.then hk12)
          clear hk12
          go_wp2
          go_ret
          exact ⟨rfl, KT.out.below (Nat.le_refl _) (fun k hf => hf.elim)⟩
theorem known_go (w : World) (h : laidMetH Tryd.prog Rows.macKnownRow.laid w) : Calls Tryd.prog 8 #[] w fun e w' => e = .returned (.bool true) ∧ Below w.heap.size w w' :=
  known_walk w (syn_of h (by kernel_rfl))
end Go.Proofs.YtjfffddaiefggabDoor
