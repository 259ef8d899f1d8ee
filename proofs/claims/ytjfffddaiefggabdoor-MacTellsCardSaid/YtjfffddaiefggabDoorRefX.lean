/- Contracts of tollref02.digits and Text. -/
import Derived.Test.YtjfffddaiefggabDoorMacC
import Derived.Test.YtjfffddaiefggabDoorQb
import Derived.Deep.DeepCutAuto
namespace Go.Proofs.YtjfffddaiefggabDoor
open Go.RowKit Go.Sort Go.BigFrame
set_option linter.unusedVariables false

set_option maxHeartbeats 2000000 in
set_option maxRecDepth 100000 in
theorem RDig_yes (b : UInt8) (w : World) : Calls Tryd.prog 34 #[.int .u8 (b.toNat : Int)] w fun r w' => r = .returned (.string ⟨(hex2 b).toArray⟩) ∧ Kept Nil w w' := by
  have h1 := hexHi b
  have h2 : ∀ w, (Instr.index 9 (.string ⟨#[48, 49, 50, 51, 52, 53, 54, 55, 56, 57, 97, 98, 99, 100, 101, 102]⟩) (.int .u8 ((b.toNat : Int) % 16))).run Tryd.prog w = .ok (.int .u8 ((hexd (b.toNat % 16)).toNat : Int)) w := fun w => hexI (b.toNat % 16) (by omega) w
  have hb := b.toNat_lt
  have hb0 : (b.toNat : Int) < 256 := by omega
  obtain ⟨hi, hhi⟩ : ∃ hi, hi = hexd (b.toNat / 16) := ⟨_, rfl⟩
  obtain ⟨lo, hlo⟩ : ∃ lo, lo = hexd (b.toNat % 16) := ⟨_, rfl⟩
  rw [← hhi] at h1
  rw [← hlo] at h2
  have HE := Lib.hid (show hex2 b = [hi, lo] by rw [hhi, hlo]; rfl)
  have hcv : (convert 66 9 (.slice (some ⟨w.heap.size, 0, none⟩) 2 2)).run Tryd.prog ((w.alloc (.cells #[.int .u8 (hi.toNat : Int), .int .u8 (lo.toNat : Int)] 5)).drew) = .ok (.string ⟨[hi, lo].toArray⟩) ((w.alloc (.cells #[.int .u8 (hi.toNat : Int), .int .u8 (lo.toNat : Int)] 5)).drew) :=
    ((Byt.lit w [hi, lo] 5 (by simp)).heap (w' := (w.alloc (.cells #[.int .u8 (hi.toNat : Int), .int .u8 (lo.toNat : Int)] 5)).drew) rfl).text Tryd.underlying66 Tryd.underlying5 Tryd.underlying9
  clear hhi hlo hb
  go_enter Tryd.func34, Tryd.ntmps34
  go_upto_region 1 with (fail)
  go_region
  go_wp2
  go_ret
  exact ⟨by rw [HE.out]; rfl, ((Kept.refl Nil w).alloc _).drew⟩
set_option maxHeartbeats 4000000 in
set_option maxRecDepth 100000 in
theorem RText_yes (a b c d e f : UInt8) (w : World) : Calls Tryd.prog 10 #[.agg #[.int .u8 (a.toNat : Int), .int .u8 (b.toNat : Int), .int .u8 (c.toNat : Int), .int .u8 (d.toNat : Int), .int .u8 (e.toNat : Int), .int .u8 (f.toNat : Int)]] w fun r w' => r = .returned (.string ⟨(textL [a, b, c, d, e, f]).toArray⟩) ∧ Kept Nil w w' := by
  have HBN := Lib.hid (Blo.new w 22 #[.int .u8 (a.toNat : Int), .int .u8 (b.toNat : Int), .int .u8 (c.toNat : Int), .int .u8 (d.toNat : Int), .int .u8 (e.toNat : Int), .int .u8 (f.toNat : Int)])
  go_enter Tryd.func10, Tryd.ntmps10
  go_wp2
  go_loopw [3, 4] (fun v i wr => ∃ (k : Nat) (tt : List UInt8), k ≤ 6 ∧ i = .int .i64 k ∧ v = .string ⟨tt.toArray⟩ ∧ Hid (tt = textL ([a, b, c, d, e, f].take k)) ∧ (tt.length : Int) ≤ 17 ∧ Hid (Blo wr w.heap.size 22 #[.int .u8 (a.toNat : Int), .int .u8 (b.toNat : Int), .int .u8 (c.toNat : Int), .int .u8 (d.toNat : Int), .int .u8 (e.toNat : Int), .int .u8 (f.toNat : Int)]) ∧ Hid (Kept Nil w wr)) (fun _ i _ => 6 - (intOf i).toNat)
  case atStart => exact ⟨0, [], by omega, rfl, rfl, rfl, by simp, HBN.out, (Kept.refl Nil w).alloc _⟩
  case round =>
    obtain ⟨k, tt, hk, rfl, rfl, HT, hl, HB, HK⟩ := hrel
    by_cases hlt : k < 6
    · rcases (show k = 0 ∨ k = 1 ∨ k = 2 ∨ k = 3 ∨ k = 4 ∨ k = 5 by omega) with rfl | rfl | rfl | rfl | rfl | rfl
      · have HN := Lib.hid (show textL [a] = tt ++ hex2 a by rw [show tt = [] from HT.out]; rfl)
        have hadd : ∀ w, (Op.stringOp .add ⟨tt.toArray⟩ ⟨(hex2 a).toArray⟩).run Tryd.prog w = .ok (.string ⟨(tt ++ hex2 a).toArray⟩) w := fun w => run_string_add_lists w tt (hex2 a) (by omega) (by simp [hex2])
        have ck := HB.out.cell 0
        simp at ck
        clear HT
        go_wp2_with fail
        refine (RDig_yes a _).mono ?_
        rintro r w1 ⟨rfl, hk1⟩
        have HB' := Lib.hid (HB.out.kept hk1 (fun hf => hf))
        have HK' := Lib.hid (HK.out.then hk1)
        clear hk1
        go_wp2
        go_roundw
        case rel => exact ⟨1, _, by omega, rfl, rfl, by rw [← HN.out]; rfl, by rw [← HN.out]; simp [textL, hex2], HB'.out, HK'.out⟩
        case measure => simp [intOf]
      · rw [show ((1 : Nat) : Int) = 1 from rfl]
        have HN := Lib.hid (show textL [a, b] = tt ++ 58 :: hex2 b by rw [show tt = textL [a] from HT.out]; exact (textL_snoc [] a b).trans (List.append_assoc _ _ _))
        have hadd0 : ∀ w, (Op.stringOp .add ⟨tt.toArray⟩ ⟨#[58]⟩).run Tryd.prog w = .ok (.string ⟨(tt ++ [58]).toArray⟩) w := fun w => run_string_add_lists w tt [58] (by omega) (by simp)
        have hadd : ∀ w, (Op.stringOp .add ⟨(tt ++ [58]).toArray⟩ ⟨(hex2 b).toArray⟩).run Tryd.prog w = .ok (.string ⟨(tt ++ [58] ++ hex2 b).toArray⟩) w := fun w => run_string_add_lists w (tt ++ [58]) (hex2 b) (by simp; omega) (by simp [hex2])
        have ck := HB.out.cell 1
        simp at ck
        clear HT
        go_wp2_with fail
        refine (RDig_yes b _).mono ?_
        rintro r w1 ⟨rfl, hk1⟩
        have HB' := Lib.hid (HB.out.kept hk1 (fun hf => hf))
        have HK' := Lib.hid (HK.out.then hk1)
        clear hk1
        go_wp2
        go_roundw
        case rel => exact ⟨2, _, by omega, rfl, rfl, by rw [← HN.out]; rfl, by rw [← HN.out]; simp [textL, hex2], HB'.out, HK'.out⟩
        case measure => simp [intOf]
      · rw [show ((2 : Nat) : Int) = 2 from rfl]
        have HN := Lib.hid (show textL [a, b, c] = tt ++ 58 :: hex2 c by rw [show tt = textL [a, b] from HT.out]; exact (textL_snoc [b] a c).trans (List.append_assoc _ _ _))
        have hadd0 : ∀ w, (Op.stringOp .add ⟨tt.toArray⟩ ⟨#[58]⟩).run Tryd.prog w = .ok (.string ⟨(tt ++ [58]).toArray⟩) w := fun w => run_string_add_lists w tt [58] (by omega) (by simp)
        have hadd : ∀ w, (Op.stringOp .add ⟨(tt ++ [58]).toArray⟩ ⟨(hex2 c).toArray⟩).run Tryd.prog w = .ok (.string ⟨(tt ++ [58] ++ hex2 c).toArray⟩) w := fun w => run_string_add_lists w (tt ++ [58]) (hex2 c) (by simp; omega) (by simp [hex2])
        have ck := HB.out.cell 2
        simp at ck
        clear HT
        go_wp2_with fail
        refine (RDig_yes c _).mono ?_
        rintro r w1 ⟨rfl, hk1⟩
        have HB' := Lib.hid (HB.out.kept hk1 (fun hf => hf))
        have HK' := Lib.hid (HK.out.then hk1)
        clear hk1
        go_wp2
        go_roundw
        case rel => exact ⟨3, _, by omega, rfl, rfl, by rw [← HN.out]; rfl, by rw [← HN.out]; simp [textL, hex2], HB'.out, HK'.out⟩
        case measure => simp [intOf]
      · rw [show ((3 : Nat) : Int) = 3 from rfl]
        have HN := Lib.hid (show textL [a, b, c, d] = tt ++ 58 :: hex2 d by rw [show tt = textL [a, b, c] from HT.out]; exact (textL_snoc [b, c] a d).trans (List.append_assoc _ _ _))
        have hadd0 : ∀ w, (Op.stringOp .add ⟨tt.toArray⟩ ⟨#[58]⟩).run Tryd.prog w = .ok (.string ⟨(tt ++ [58]).toArray⟩) w := fun w => run_string_add_lists w tt [58] (by omega) (by simp)
        have hadd : ∀ w, (Op.stringOp .add ⟨(tt ++ [58]).toArray⟩ ⟨(hex2 d).toArray⟩).run Tryd.prog w = .ok (.string ⟨(tt ++ [58] ++ hex2 d).toArray⟩) w := fun w => run_string_add_lists w (tt ++ [58]) (hex2 d) (by simp; omega) (by simp [hex2])
        have ck := HB.out.cell 3
        simp at ck
        clear HT
        go_wp2_with fail
        refine (RDig_yes d _).mono ?_
        rintro r w1 ⟨rfl, hk1⟩
        have HB' := Lib.hid (HB.out.kept hk1 (fun hf => hf))
        have HK' := Lib.hid (HK.out.then hk1)
        clear hk1
        go_wp2
        go_roundw
        case rel => exact ⟨4, _, by omega, rfl, rfl, by rw [← HN.out]; rfl, by rw [← HN.out]; simp [textL, hex2], HB'.out, HK'.out⟩
        case measure => simp [intOf]
      · rw [show ((4 : Nat) : Int) = 4 from rfl]
        have HN := Lib.hid (show textL [a, b, c, d, e] = tt ++ 58 :: hex2 e by rw [show tt = textL [a, b, c, d] from HT.out]; exact (textL_snoc [b, c, d] a e).trans (List.append_assoc _ _ _))
        have hadd0 : ∀ w, (Op.stringOp .add ⟨tt.toArray⟩ ⟨#[58]⟩).run Tryd.prog w = .ok (.string ⟨(tt ++ [58]).toArray⟩) w := fun w => run_string_add_lists w tt [58] (by omega) (by simp)
        have hadd : ∀ w, (Op.stringOp .add ⟨(tt ++ [58]).toArray⟩ ⟨(hex2 e).toArray⟩).run Tryd.prog w = .ok (.string ⟨(tt ++ [58] ++ hex2 e).toArray⟩) w := fun w => run_string_add_lists w (tt ++ [58]) (hex2 e) (by simp; omega) (by simp [hex2])
        have ck := HB.out.cell 4
        simp at ck
        clear HT
        go_wp2_with fail
        refine (RDig_yes e _).mono ?_
        rintro r w1 ⟨rfl, hk1⟩
        have HB' := Lib.hid (HB.out.kept hk1 (fun hf => hf))
        have HK' := Lib.hid (HK.out.then hk1)
        clear hk1
        go_wp2
        go_roundw
        case rel => exact ⟨5, _, by omega, rfl, rfl, by rw [← HN.out]; rfl, by rw [← HN.out]; simp [textL, hex2], HB'.out, HK'.out⟩
        case measure => simp [intOf]
      · rw [show ((5 : Nat) : Int) = 5 from rfl]
        have HN := Lib.hid (show textL [a, b, c, d, e, f] = tt ++ 58 :: hex2 f by rw [show tt = textL [a, b, c, d, e] from HT.out]; exact (textL_snoc [b, c, d, e] a f).trans (List.append_assoc _ _ _))
        have hadd0 : ∀ w, (Op.stringOp .add ⟨tt.toArray⟩ ⟨#[58]⟩).run Tryd.prog w = .ok (.string ⟨(tt ++ [58]).toArray⟩) w := fun w => run_string_add_lists w tt [58] (by omega) (by simp)
        have hadd : ∀ w, (Op.stringOp .add ⟨(tt ++ [58]).toArray⟩ ⟨(hex2 f).toArray⟩).run Tryd.prog w = .ok (.string ⟨(tt ++ [58] ++ hex2 f).toArray⟩) w := fun w => run_string_add_lists w (tt ++ [58]) (hex2 f) (by simp; omega) (by simp [hex2])
        have ck := HB.out.cell 5
        simp at ck
        clear HT
        go_wp2_with fail
        refine (RDig_yes f _).mono ?_
        rintro r w1 ⟨rfl, hk1⟩
        have HB' := Lib.hid (HB.out.kept hk1 (fun hf => hf))
        have HK' := Lib.hid (HK.out.then hk1)
        clear hk1
        go_wp2
        go_roundw
        case rel => exact ⟨6, _, by omega, rfl, rfl, by rw [← HN.out]; rfl, by rw [← HN.out]; simp [textL, hex2], HB'.out, HK'.out⟩
        case measure => simp [intOf]
    · obtain rfl : k = 6 := by omega
      go_wp2
      go_ret
      exact ⟨by rw [show textL [a, b, c, d, e, f] = tt from HT.out.symm]; rfl, HK.out⟩
end Go.Proofs.YtjfffddaiefggabDoor
