/- Contracts of package mac, third part: Text. -/
import Derived.Test.YtifoepglhlpoiaaDoorMacA
import Derived.Test.YtifoepglhlpoiaaDoorMem3
import Derived.Deep.RegionLaw
import Derived.RegionTactic
namespace Go.Proofs.YtifoepglhlpoiaaDoor
open Go.RowKit
set_option linter.unusedVariables false

theorem Tryd.minfb : (Tryd.prog.info? 5).map (fun i => (i.zero, i.size, i.bytes)) = some (some (.int .u8 0), 1, 1) := by kernel_rfl
/-- A hex digit's byte, small. -/
def hexd (x : Nat) : UInt8 := ([48, 49, 50, 51, 52, 53, 54, 55, 56, 57, 97, 98, 99, 100, 101, 102] : List UInt8).getD x 0
def hex2 (b : UInt8) : List UInt8 := [hexd (b.toNat / 16), hexd (b.toNat % 16)]
/-- An address's text. -/
def textL : List UInt8 → List UInt8
  | [] => []
  | [b] => hex2 b
  | b :: c :: l => hex2 b ++ 58 :: textL (c :: l)
theorem textL_snoc (l : List UInt8) (x b : UInt8) : textL ((x :: l) ++ [b]) = textL (x :: l) ++ [58] ++ hex2 b := by
  induction l generalizing x with
  | nil => simp [textL]
  | cons y l ih =>
    have := ih y
    simp only [List.cons_append] at this ⊢
    simp [textL, this]
theorem hexI : ∀ (i : Nat) (_ : i < 16) (w : World), (Instr.index 9 (.string ⟨#[48, 49, 50, 51, 52, 53, 54, 55, 56, 57, 97, 98, 99, 100, 101, 102]⟩) (.int .u8 (i : Int))).run Tryd.prog w = .ok (.int .u8 ((hexd i).toNat : Int)) w
  | 0, _, w => by kernel_rfl
  | 1, _, w => by kernel_rfl
  | 2, _, w => by kernel_rfl
  | 3, _, w => by kernel_rfl
  | 4, _, w => by kernel_rfl
  | 5, _, w => by kernel_rfl
  | 6, _, w => by kernel_rfl
  | 7, _, w => by kernel_rfl
  | 8, _, w => by kernel_rfl
  | 9, _, w => by kernel_rfl
  | 10, _, w => by kernel_rfl
  | 11, _, w => by kernel_rfl
  | 12, _, w => by kernel_rfl
  | 13, _, w => by kernel_rfl
  | 14, _, w => by kernel_rfl
  | 15, _, w => by kernel_rfl
  | n + 16, h, w => absurd h (by omega)
theorem hexHi (b : UInt8) (w : World) : (Instr.index 9 (.string ⟨#[48, 49, 50, 51, 52, 53, 54, 55, 56, 57, 97, 98, 99, 100, 101, 102]⟩) (.int .u8 ((b.toNat : Int) / 16))).run Tryd.prog w = .ok (.int .u8 ((hexd (b.toNat / 16)).toNat : Int)) w := by
  have := b.toNat_lt
  exact hexI (b.toNat / 16) (by omega) w
theorem and15 (a : UInt8) : bits .and .u8 (a.toNat : Int) 15 = ((a.toNat % 16 : Nat) : Int) := by
  have := u8_and_nat a.toNat 15 a.toNat_lt (by omega)
  rw [show ((15 : Nat) : Int) = 15 from rfl] at this
  rw [this, show (15 : Nat) = 2 ^ 4 - 1 from rfl, Nat.and_two_pow_sub_one_eq_mod]
theorem hexLo (b : UInt8) (w : World) : (Instr.index 9 (.string ⟨#[48, 49, 50, 51, 52, 53, 54, 55, 56, 57, 97, 98, 99, 100, 101, 102]⟩) (.int .u8 (bits .and .u8 (b.toNat : Int) 15))).run Tryd.prog w = .ok (.int .u8 ((hexd (b.toNat % 16)).toNat : Int)) w := by
  rw [and15]
  exact hexI (b.toNat % 16) (by omega) w
theorem own_app {w wr wa w3 : World} {v : Value} {n m : Nat} {xs : List Value} (hK : Kept Nil w wr) (hk : Kept Nil wr wa) (ho : wa.ownsRow w.heap.size 5 1 v n xs) (hg : wa.grownBy w3 v.ownBlock) : Kept Nil w w3 :=
  (hK.then hk).fresh ((Kept.refl (fun i => v.ownBlock = some i) wa).grown hg (fun i hi _ => hi)) (fun i hi => (ho.lt i hi).1)
set_option maxHeartbeats 4000000 in
theorem Text_yes (a b c d e f : UInt8) (w : World) :
    Calls Tryd.prog 9 #[mv [a, b, c, d, e, f]] w fun r w' => r = .returned (.string ⟨(textL [a, b, c, d, e, f]).toArray⟩) ∧ Kept Nil w w' := by
  rw [mv6]
  have hmk : ∀ w, (Instr.makeSlice 66 (.int .i64 0) (.int .i64 17)).run Tryd.prog w = .ok (.slice (some ⟨w.heap.size, 0, none⟩) 0 17) (w.alloc (.cells #[.int .u8 0, .int .u8 0, .int .u8 0, .int .u8 0, .int .u8 0, .int .u8 0, .int .u8 0, .int .u8 0, .int .u8 0, .int .u8 0, .int .u8 0, .int .u8 0, .int .u8 0, .int .u8 0, .int .u8 0, .int .u8 0, .int .u8 0] 5)) := fun _ => by kernel_rfl
  obtain ⟨i0, hi, hz0, hz1, hz2⟩ := info_parts Tryd.minfb
  have hstart : (w.alloc (.cells #[.int .u8 (a.toNat : Int), .int .u8 (b.toNat : Int), .int .u8 (c.toNat : Int), .int .u8 (d.toNat : Int), .int .u8 (e.toNat : Int), .int .u8 (f.toNat : Int)] 24)).alloc (.cells #[.int .u8 0, .int .u8 0, .int .u8 0, .int .u8 0, .int .u8 0, .int .u8 0, .int .u8 0, .int .u8 0, .int .u8 0, .int .u8 0, .int .u8 0, .int .u8 0, .int .u8 0, .int .u8 0, .int .u8 0, .int .u8 0, .int .u8 0] 5) |>.ownsRow w.heap.size 5 1 (.slice (some ⟨w.heap.size + 1, 0, none⟩) 0 17) 0 (bys []) :=
    ⟨rfl, .inr ⟨w.heap.size + 1, 17, #[.int .u8 0, .int .u8 0, .int .u8 0, .int .u8 0, .int .u8 0, .int .u8 0, .int .u8 0, .int .u8 0, .int .u8 0, .int .u8 0, .int .u8 0, .int .u8 0, .int .u8 0, .int .u8 0, .int .u8 0, .int .u8 0, .int .u8 0], rfl, by omega, by have h9 := Blo.new (w.alloc (.cells #[.int .u8 (a.toNat : Int), .int .u8 (b.toNat : Int), .int .u8 (c.toNat : Int), .int .u8 (d.toNat : Int), .int .u8 (e.toNat : Int), .int .u8 (f.toNat : Int)] 24)) 5 #[.int .u8 0, .int .u8 0, .int .u8 0, .int .u8 0, .int .u8 0, .int .u8 0, .int .u8 0, .int .u8 0, .int .u8 0, .int .u8 0, .int .u8 0, .int .u8 0, .int .u8 0, .int .u8 0, .int .u8 0, .int .u8 0, .int .u8 0]; rw [World.size_alloc] at h9; exact h9, Nat.zero_le _, by unfold maxLen; omega, rfl, rfl⟩⟩
  have HST := Lib.hid hstart
  clear hstart
  go_enter Tryd.func9, Tryd.ntmps9
  go_wp2
  clear hmk
  go_loopw [3, 8] (fun v i wr => ∃ (k n : Nat) (A : Option Addr) (c2 : Nat), k ≤ 6 ∧ i = .int .i64 k ∧ v = .slice A n c2 ∧ n ≤ 17 ∧ Hid (n = (textL ([a, b, c, d, e, f].take k)).length) ∧ Hid (wr.ownsRow w.heap.size 5 1 (.slice A n c2) n (bys (textL ([a, b, c, d, e, f].take k)))) ∧ Hid (Kept Nil w wr)) (fun _ i _ => 6 - (intOf i).toNat)
  case atStart => exact ⟨0, 0, _, 17, Nat.zero_le _, rfl, rfl, by omega, rfl, HST.out, ((Kept.refl Nil w).alloc _).alloc _⟩
  case round =>
    obtain ⟨k, n, A, c2, hk, rfl, rfl, hn, HN, HO, HK⟩ := hrel
    by_cases hlt : k < 6
    · rcases (show k = 0 ∨ k = 1 ∨ k = 2 ∨ k = 3 ∨ k = 4 ∨ k = 5 by omega) with rfl | rfl | rfl | rfl | rfl | rfl
      · have hix := ix0 a b c d e f
        have hh := hexHi a
        have hl := hexLo a
        obtain rfl : n = 0 := HN.out
        have HO1 : Hid (wr.ownsRow w.heap.size 5 1 (.slice A 0 c2) 0 (bys (([] : List UInt8)))) := HO.out
        clear HN HO
        go_wp2_with fail
        have K3 := HK
        have HO3 := HO1
        obtain ⟨w3, rfl⟩ : ∃ w3 : World, w3 = wr := ⟨_, rfl⟩
        obtain ⟨A3, rfl⟩ : ∃ A3, A3 = A := ⟨_, rfl⟩
        obtain ⟨c3, rfl⟩ : ∃ c3, c3 = c2 := ⟨_, rfl⟩
        go_region_law (refine step_any rfl (.tmp 17) (.tmp 24) 66 rfl w.heap.size 5 i0 (.int .u8 0) Tryd.underlying66 hi hz0 hz1 hz2 rfl (.slice A3 0 c3) 0 (bys (([] : List UInt8))) rfl (by exact HO3.out.alloc _) (some ⟨w3.heap.size, 0, none⟩) 2 2 (hex2 a) rfl (by exact Byt.lit w3 (hex2 a) 5 (by simp [hex2])) (by omega) (by have := K3.out.size; simp; omega) ?_; intro v4 w4 ho4 hg4 hn4; rw [← bys_app] at ho4; have K4 := Lib.hid (own_app (m := 0) K3.out (((Kept.refl Nil w3).drew).alloc _) (HO3.out.alloc _) hg4); obtain ⟨A4, c4, rfl⟩ := own_form ho4; have HO4 := Lib.hid ho4; clear ho4 hg4 hn4)
        all_goals
          go_wp2
          go_roundw
          case rel => exact ⟨1, 2, A4, c4, by omega, rfl, rfl, by omega, rfl, HO4.out, K4.out⟩
          case measure => simp [intOf]
      · have hix := ix1 a b c d e f
        have hh := hexHi b
        have hl := hexLo b
        obtain rfl : n = 2 := HN.out
        have HO1 : Hid (wr.ownsRow w.heap.size 5 1 (.slice A 2 c2) 2 (bys (textL [a]))) := HO.out
        clear HN HO
        go_wp2_with (at_builtin; refine wpList_any rfl (.tmp 14) (.tmp 15) 66 rfl w.heap.size 5 i0 (.int .u8 0) Tryd.underlying66 hi hz0 hz1 hz2 rfl (.slice A 2 c2) 2 (bys (textL [a])) rfl (by exact HO1.out.alloc _) (some ⟨wr.heap.size, 0, none⟩) 1 1 [58] rfl (by exact Byt.lit wr [58] 5 (by simp)) (by omega) (by have := HK.out.size; simp; omega) ?_; intro v3 w3 ho3 hg3 hn3; rw [← bys_app] at ho3; have K3 := Lib.hid (own_app (m := 0) HK.out ((Kept.refl Nil wr).alloc _) (HO1.out.alloc _) hg3); obtain ⟨A3, c3, rfl⟩ := own_form ho3; have HO3 := Lib.hid ho3; clear ho3 hg3 hn3)
        go_region_law (refine step_any rfl (.tmp 17) (.tmp 24) 66 rfl w.heap.size 5 i0 (.int .u8 0) Tryd.underlying66 hi hz0 hz1 hz2 rfl (.slice A3 3 c3) 3 (bys (textL [a] ++ [58])) rfl (by exact HO3.out.alloc _) (some ⟨w3.heap.size, 0, none⟩) 2 2 (hex2 b) rfl (by exact Byt.lit w3 (hex2 b) 5 (by simp [hex2])) (by omega) (by have := K3.out.size; simp; omega) ?_; intro v4 w4 ho4 hg4 hn4; rw [← bys_app] at ho4; have K4 := Lib.hid (own_app (m := 0) K3.out (((Kept.refl Nil w3).drew).alloc _) (HO3.out.alloc _) hg4); obtain ⟨A4, c4, rfl⟩ := own_form ho4; have HO4 := Lib.hid ho4; clear ho4 hg4 hn4)
        all_goals
          go_wp2
          go_roundw
          case rel => exact ⟨2, 5, A4, c4, by omega, rfl, rfl, by omega, rfl, HO4.out, K4.out⟩
          case measure => simp [intOf]
      · have hix := ix2 a b c d e f
        have hh := hexHi c
        have hl := hexLo c
        obtain rfl : n = 5 := HN.out
        have HO1 : Hid (wr.ownsRow w.heap.size 5 1 (.slice A 5 c2) 5 (bys (textL [a, b]))) := HO.out
        clear HN HO
        rw [show ((2 : Nat) : Int) = 2 from rfl]
        go_wp2_with (at_builtin; refine wpList_any rfl (.tmp 14) (.tmp 15) 66 rfl w.heap.size 5 i0 (.int .u8 0) Tryd.underlying66 hi hz0 hz1 hz2 rfl (.slice A 5 c2) 5 (bys (textL [a, b])) rfl (by exact HO1.out.alloc _) (some ⟨wr.heap.size, 0, none⟩) 1 1 [58] rfl (by exact Byt.lit wr [58] 5 (by simp)) (by omega) (by have := HK.out.size; simp; omega) ?_; intro v3 w3 ho3 hg3 hn3; rw [← bys_app] at ho3; have K3 := Lib.hid (own_app (m := 0) HK.out ((Kept.refl Nil wr).alloc _) (HO1.out.alloc _) hg3); obtain ⟨A3, c3, rfl⟩ := own_form ho3; have HO3 := Lib.hid ho3; clear ho3 hg3 hn3)
        go_region_law (refine step_any rfl (.tmp 17) (.tmp 24) 66 rfl w.heap.size 5 i0 (.int .u8 0) Tryd.underlying66 hi hz0 hz1 hz2 rfl (.slice A3 6 c3) 6 (bys (textL [a, b] ++ [58])) rfl (by exact HO3.out.alloc _) (some ⟨w3.heap.size, 0, none⟩) 2 2 (hex2 c) rfl (by exact Byt.lit w3 (hex2 c) 5 (by simp [hex2])) (by omega) (by have := K3.out.size; simp; omega) ?_; intro v4 w4 ho4 hg4 hn4; rw [← bys_app] at ho4; have K4 := Lib.hid (own_app (m := 0) K3.out (((Kept.refl Nil w3).drew).alloc _) (HO3.out.alloc _) hg4); obtain ⟨A4, c4, rfl⟩ := own_form ho4; have HO4 := Lib.hid ho4; clear ho4 hg4 hn4)
        all_goals
          go_wp2
          go_roundw
          case rel => exact ⟨3, 8, A4, c4, by omega, rfl, rfl, by omega, rfl, HO4.out, K4.out⟩
          case measure => simp [intOf]
      · have hix := ix3 a b c d e f
        have hh := hexHi d
        have hl := hexLo d
        obtain rfl : n = 8 := HN.out
        have HO1 : Hid (wr.ownsRow w.heap.size 5 1 (.slice A 8 c2) 8 (bys (textL [a, b, c]))) := HO.out
        clear HN HO
        rw [show ((3 : Nat) : Int) = 3 from rfl]
        go_wp2_with (at_builtin; refine wpList_any rfl (.tmp 14) (.tmp 15) 66 rfl w.heap.size 5 i0 (.int .u8 0) Tryd.underlying66 hi hz0 hz1 hz2 rfl (.slice A 8 c2) 8 (bys (textL [a, b, c])) rfl (by exact HO1.out.alloc _) (some ⟨wr.heap.size, 0, none⟩) 1 1 [58] rfl (by exact Byt.lit wr [58] 5 (by simp)) (by omega) (by have := HK.out.size; simp; omega) ?_; intro v3 w3 ho3 hg3 hn3; rw [← bys_app] at ho3; have K3 := Lib.hid (own_app (m := 0) HK.out ((Kept.refl Nil wr).alloc _) (HO1.out.alloc _) hg3); obtain ⟨A3, c3, rfl⟩ := own_form ho3; have HO3 := Lib.hid ho3; clear ho3 hg3 hn3)
        go_region_law (refine step_any rfl (.tmp 17) (.tmp 24) 66 rfl w.heap.size 5 i0 (.int .u8 0) Tryd.underlying66 hi hz0 hz1 hz2 rfl (.slice A3 9 c3) 9 (bys (textL [a, b, c] ++ [58])) rfl (by exact HO3.out.alloc _) (some ⟨w3.heap.size, 0, none⟩) 2 2 (hex2 d) rfl (by exact Byt.lit w3 (hex2 d) 5 (by simp [hex2])) (by omega) (by have := K3.out.size; simp; omega) ?_; intro v4 w4 ho4 hg4 hn4; rw [← bys_app] at ho4; have K4 := Lib.hid (own_app (m := 0) K3.out (((Kept.refl Nil w3).drew).alloc _) (HO3.out.alloc _) hg4); obtain ⟨A4, c4, rfl⟩ := own_form ho4; have HO4 := Lib.hid ho4; clear ho4 hg4 hn4)
        all_goals
          go_wp2
          go_roundw
          case rel => exact ⟨4, 11, A4, c4, by omega, rfl, rfl, by omega, rfl, HO4.out, K4.out⟩
          case measure => simp [intOf]
      · have hix := ix4 a b c d e f
        have hh := hexHi e
        have hl := hexLo e
        obtain rfl : n = 11 := HN.out
        have HO1 : Hid (wr.ownsRow w.heap.size 5 1 (.slice A 11 c2) 11 (bys (textL [a, b, c, d]))) := HO.out
        clear HN HO
        rw [show ((4 : Nat) : Int) = 4 from rfl]
        go_wp2_with (at_builtin; refine wpList_any rfl (.tmp 14) (.tmp 15) 66 rfl w.heap.size 5 i0 (.int .u8 0) Tryd.underlying66 hi hz0 hz1 hz2 rfl (.slice A 11 c2) 11 (bys (textL [a, b, c, d])) rfl (by exact HO1.out.alloc _) (some ⟨wr.heap.size, 0, none⟩) 1 1 [58] rfl (by exact Byt.lit wr [58] 5 (by simp)) (by omega) (by have := HK.out.size; simp; omega) ?_; intro v3 w3 ho3 hg3 hn3; rw [← bys_app] at ho3; have K3 := Lib.hid (own_app (m := 0) HK.out ((Kept.refl Nil wr).alloc _) (HO1.out.alloc _) hg3); obtain ⟨A3, c3, rfl⟩ := own_form ho3; have HO3 := Lib.hid ho3; clear ho3 hg3 hn3)
        go_region_law (refine step_any rfl (.tmp 17) (.tmp 24) 66 rfl w.heap.size 5 i0 (.int .u8 0) Tryd.underlying66 hi hz0 hz1 hz2 rfl (.slice A3 12 c3) 12 (bys (textL [a, b, c, d] ++ [58])) rfl (by exact HO3.out.alloc _) (some ⟨w3.heap.size, 0, none⟩) 2 2 (hex2 e) rfl (by exact Byt.lit w3 (hex2 e) 5 (by simp [hex2])) (by omega) (by have := K3.out.size; simp; omega) ?_; intro v4 w4 ho4 hg4 hn4; rw [← bys_app] at ho4; have K4 := Lib.hid (own_app (m := 0) K3.out (((Kept.refl Nil w3).drew).alloc _) (HO3.out.alloc _) hg4); obtain ⟨A4, c4, rfl⟩ := own_form ho4; have HO4 := Lib.hid ho4; clear ho4 hg4 hn4)
        all_goals
          go_wp2
          go_roundw
          case rel => exact ⟨5, 14, A4, c4, by omega, rfl, rfl, by omega, rfl, HO4.out, K4.out⟩
          case measure => simp [intOf]
      · have hix := ix5 a b c d e f
        have hh := hexHi f
        have hl := hexLo f
        obtain rfl : n = 14 := HN.out
        have HO1 : Hid (wr.ownsRow w.heap.size 5 1 (.slice A 14 c2) 14 (bys (textL [a, b, c, d, e]))) := HO.out
        clear HN HO
        rw [show ((5 : Nat) : Int) = 5 from rfl]
        go_wp2_with (at_builtin; refine wpList_any rfl (.tmp 14) (.tmp 15) 66 rfl w.heap.size 5 i0 (.int .u8 0) Tryd.underlying66 hi hz0 hz1 hz2 rfl (.slice A 14 c2) 14 (bys (textL [a, b, c, d, e])) rfl (by exact HO1.out.alloc _) (some ⟨wr.heap.size, 0, none⟩) 1 1 [58] rfl (by exact Byt.lit wr [58] 5 (by simp)) (by omega) (by have := HK.out.size; simp; omega) ?_; intro v3 w3 ho3 hg3 hn3; rw [← bys_app] at ho3; have K3 := Lib.hid (own_app (m := 0) HK.out ((Kept.refl Nil wr).alloc _) (HO1.out.alloc _) hg3); obtain ⟨A3, c3, rfl⟩ := own_form ho3; have HO3 := Lib.hid ho3; clear ho3 hg3 hn3)
        go_region_law (refine step_any rfl (.tmp 17) (.tmp 24) 66 rfl w.heap.size 5 i0 (.int .u8 0) Tryd.underlying66 hi hz0 hz1 hz2 rfl (.slice A3 15 c3) 15 (bys (textL [a, b, c, d, e] ++ [58])) rfl (by exact HO3.out.alloc _) (some ⟨w3.heap.size, 0, none⟩) 2 2 (hex2 f) rfl (by exact Byt.lit w3 (hex2 f) 5 (by simp [hex2])) (by omega) (by have := K3.out.size; simp; omega) ?_; intro v4 w4 ho4 hg4 hn4; rw [← bys_app] at ho4; have K4 := Lib.hid (own_app (m := 0) K3.out (((Kept.refl Nil w3).drew).alloc _) (HO3.out.alloc _) hg4); obtain ⟨A4, c4, rfl⟩ := own_form ho4; have HO4 := Lib.hid ho4; clear ho4 hg4 hn4)
        all_goals
          go_wp2
          go_roundw
          case rel => exact ⟨6, 17, A4, c4, by omega, rfl, rfl, by omega, rfl, HO4.out, K4.out⟩
          case measure => simp [intOf]
    · have : k = 6 := by omega
      subst this
      obtain rfl : n = 17 := HN.out
      have ho : wr.ownsRow w.heap.size 5 1 (.slice A 17 c2) 17 (bys (textL [a, b, c, d, e, f])) := HO.out
      have hby : Byt wr A 17 c2 (textL [a, b, c, d, e, f]) := by
        obtain ⟨A5, c5, e5, hb, _⟩ := Byt.of_own (n := 17) ho
        cases e5
        exact hb
      have hcv := hby.text (P := Tryd.prog) Tryd.underlying66 Tryd.underlying5 Tryd.underlying9
      generalize htx : textL [a, b, c, d, e, f] = tx at hcv
      have HTX := Lib.hid htx
      clear HO HN ho hby htx
      go_wp2
      go_ret
      exact ⟨by rw [HTX.out]; rfl, HK.out⟩
end Go.Proofs.YtifoepglhlpoiaaDoor
