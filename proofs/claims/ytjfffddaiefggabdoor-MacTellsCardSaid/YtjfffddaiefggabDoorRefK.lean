/- Contract of tollref02.Kind. -/
import Derived.Test.YtjfffddaiefggabDoorMacB
import Derived.Test.YtjfffddaiefggabDoorQb
namespace Go.Proofs.YtjfffddaiefggabDoor
open Go.RowKit
set_option linter.unusedVariables false

/-- How many of the first k bytes are v. -/
def cnt (v : UInt8) (l : List UInt8) : Nat → Nat
  | 0 => 0
  | k + 1 => cnt v l k + if l.getD k 0 = v then 1 else 0
theorem cnt_le (v : UInt8) (l : List UInt8) : ∀ k, cnt v l k ≤ k
  | 0 => Nat.le_refl _
  | k + 1 => by
    have := cnt_le v l k
    unfold cnt
    split <;> omega
theorem cnt_all (v : UInt8) (l : List UInt8) : ∀ k, cnt v l k = k ↔ ∀ j, j < k → l.getD j 0 = v
  | 0 => by simp [cnt]
  | k + 1 => by
    have h1 := cnt_le v l k
    have h2 := cnt_all v l k
    unfold cnt
    constructor
    · intro h
      split at h
      · rename_i hk
        intro j hj
        by_cases hjk : j = k
        · rw [hjk]; exact hk
        · exact h2.1 (by omega) j (by omega)
      · omega
    · intro h
      rw [if_pos (h k (by omega)), h2.2 (fun j hj => h j (by omega))]
theorem cnt6 (v a b c d e f : UInt8) : cnt v [a, b, c, d, e, f] 6 = 6 ↔ [a, b, c, d, e, f] = [v, v, v, v, v, v] := by
  rw [cnt_all]
  constructor
  · intro h
    have h0 := h 0 (by omega)
    have h1 := h 1 (by omega)
    have h2 := h 2 (by omega)
    have h3 := h 3 (by omega)
    have h4 := h 4 (by omega)
    have h5 := h 5 (by omega)
    simp only [List.getD_cons_zero, List.getD_cons_succ] at h0 h1 h2 h3 h4 h5
    rw [h0, h1, h2, h3, h4, h5]
  · intro h j hj
    rw [h]
    rcases (show j = 0 ∨ j = 1 ∨ j = 2 ∨ j = 3 ∨ j = 4 ∨ j = 5 by omega) with rfl | rfl | rfl | rfl | rfl | rfl <;> rfl
set_option maxHeartbeats 3000000 in
set_option maxRecDepth 100000 in
theorem RKind_yes (a b c d e f : UInt8) (w : World) :
    Calls Tryd.prog 16 #[.agg #[.int .u8 (a.toNat : Int), .int .u8 (b.toNat : Int), .int .u8 (c.toNat : Int), .int .u8 (d.toNat : Int), .int .u8 (e.toNat : Int), .int .u8 (f.toNat : Int)]] w fun r w' => r = .returned (.int .i64 (kindL [a, b, c, d, e, f])) ∧ Kept Nil w w' := by
  have HB := Lib.hid (Blo.new w 22 #[.int .u8 (a.toNat : Int), .int .u8 (b.toNat : Int), .int .u8 (c.toNat : Int), .int .u8 (d.toNat : Int), .int .u8 (e.toNat : Int), .int .u8 (f.toNat : Int)])
  go_enter Tryd.func16, Tryd.ntmps16
  go_wp2
  go_loop [3, 4, 5] (fun z o i => ∃ (k : Nat) (zi oi : Int), k ≤ 6 ∧ i = .int .i64 k ∧ z = .int .i64 zi ∧ o = .int .i64 oi ∧ 0 ≤ zi ∧ zi ≤ 6 ∧ 0 ≤ oi ∧ oi ≤ 6 ∧ Hid (zi = (cnt 0 [a, b, c, d, e, f] k : Int) ∧ oi = (cnt 255 [a, b, c, d, e, f] k : Int))) (fun _ _ i => 6 - (intOf i).toNat)
  case atStart => exact ⟨0, 0, 0, by omega, rfl, rfl, rfl, by omega, by omega, by omega, by omega, rfl, rfl⟩
  case round =>
    obtain ⟨k, zi, oi, hk, rfl, rfl, rfl, hz0, hz1, ho0, ho1, HC⟩ := hrel
    by_cases hlt : k < 6
    · have hcz := cnt_le 0 [a, b, c, d, e, f] k
      have hco := cnt_le 255 [a, b, c, d, e, f] k
      rcases (show k = 0 ∨ k = 1 ∨ k = 2 ∨ k = 3 ∨ k = 4 ∨ k = 5 by omega) with rfl | rfl | rfl | rfl | rfl | rfl
      · have hsz : cnt 0 [a, b, c, d, e, f] 1 = cnt 0 [a, b, c, d, e, f] 0 + if a = 0 then 1 else 0 := rfl
        have hso : cnt 255 [a, b, c, d, e, f] 1 = cnt 255 [a, b, c, d, e, f] 0 + if a = 255 then 1 else 0 := rfl
        obtain ⟨hc1, hc2⟩ := HC.out
        by_cases hq : a = 0
        · rw [if_pos hq] at hsz
          rw [if_neg (by rw [hq]; decide)] at hso
          have HC' : Hid (zi + 1 = (cnt 0 [a, b, c, d, e, f] 1 : Int) ∧ oi = (cnt 255 [a, b, c, d, e, f] 1 : Int)) := ⟨by omega, by omega⟩
          have hzi : zi + 1 ≤ 6 := by omega
          have hq2 : ((a.toNat : Int) == 0) = true := by rw [hq]; rfl
          have hp2 : ((a.toNat : Int) == 255) = false := by rw [hq]; rfl
          clear hsz hso hc1 hc2 hcz hco HC hq
          go_wp2
          go_round
          case rel => exact ⟨1, zi + 1, oi, by omega, rfl, rfl, rfl, by omega, by omega, by omega, by omega, HC'.out⟩
          case measure => simp [intOf]
        · by_cases hp : a = 255
          · rw [if_neg hq] at hsz
            rw [if_pos hp] at hso
            have HC' : Hid (zi = (cnt 0 [a, b, c, d, e, f] 1 : Int) ∧ oi + 1 = (cnt 255 [a, b, c, d, e, f] 1 : Int)) := ⟨by omega, by omega⟩
            have hoi : oi + 1 ≤ 6 := by omega
            have hq2 : ((a.toNat : Int) == 0) = false := by rw [hp]; rfl
            have hp2 : ((a.toNat : Int) == 255) = true := by rw [hp]; rfl
            clear hsz hso hc1 hc2 hcz hco HC hq hp
            go_wp2
            go_round
            case rel => exact ⟨1, zi, oi + 1, by omega, rfl, rfl, rfl, by omega, by omega, by omega, by omega, HC'.out⟩
            case measure => simp [intOf]
          · rw [if_neg hq] at hsz
            rw [if_neg hp] at hso
            have HC' : Hid (zi = (cnt 0 [a, b, c, d, e, f] 1 : Int) ∧ oi = (cnt 255 [a, b, c, d, e, f] 1 : Int)) := ⟨by omega, by omega⟩
            have hq2 : ((a.toNat : Int) == 0) = false := by rw [beq_eq_false_iff_ne]; intro h; exact hq (UInt8.toNat_inj.1 (by show a.toNat = 0; omega))
            have hp2 : ((a.toNat : Int) == 255) = false := by rw [beq_eq_false_iff_ne]; intro h; exact hp (UInt8.toNat_inj.1 (by show a.toNat = 255; omega))
            clear hsz hso hc1 hc2 hcz hco HC hq hp
            go_wp2
            go_round
            case rel => exact ⟨1, zi, oi, by omega, rfl, rfl, rfl, by omega, by omega, by omega, by omega, HC'.out⟩
            case measure => simp [intOf]
      · have hsz : cnt 0 [a, b, c, d, e, f] 2 = cnt 0 [a, b, c, d, e, f] 1 + if b = 0 then 1 else 0 := rfl
        have hso : cnt 255 [a, b, c, d, e, f] 2 = cnt 255 [a, b, c, d, e, f] 1 + if b = 255 then 1 else 0 := rfl
        obtain ⟨hc1, hc2⟩ := HC.out
        by_cases hq : b = 0
        · rw [if_pos hq] at hsz
          rw [if_neg (by rw [hq]; decide)] at hso
          have HC' : Hid (zi + 1 = (cnt 0 [a, b, c, d, e, f] 2 : Int) ∧ oi = (cnt 255 [a, b, c, d, e, f] 2 : Int)) := ⟨by omega, by omega⟩
          have hzi : zi + 1 ≤ 6 := by omega
          have hq2 : ((b.toNat : Int) == 0) = true := by rw [hq]; rfl
          have hp2 : ((b.toNat : Int) == 255) = false := by rw [hq]; rfl
          clear hsz hso hc1 hc2 hcz hco HC hq
          go_wp2
          go_round
          case rel => exact ⟨2, zi + 1, oi, by omega, rfl, rfl, rfl, by omega, by omega, by omega, by omega, HC'.out⟩
          case measure => simp [intOf]
        · by_cases hp : b = 255
          · rw [if_neg hq] at hsz
            rw [if_pos hp] at hso
            have HC' : Hid (zi = (cnt 0 [a, b, c, d, e, f] 2 : Int) ∧ oi + 1 = (cnt 255 [a, b, c, d, e, f] 2 : Int)) := ⟨by omega, by omega⟩
            have hoi : oi + 1 ≤ 6 := by omega
            have hq2 : ((b.toNat : Int) == 0) = false := by rw [hp]; rfl
            have hp2 : ((b.toNat : Int) == 255) = true := by rw [hp]; rfl
            clear hsz hso hc1 hc2 hcz hco HC hq hp
            go_wp2
            go_round
            case rel => exact ⟨2, zi, oi + 1, by omega, rfl, rfl, rfl, by omega, by omega, by omega, by omega, HC'.out⟩
            case measure => simp [intOf]
          · rw [if_neg hq] at hsz
            rw [if_neg hp] at hso
            have HC' : Hid (zi = (cnt 0 [a, b, c, d, e, f] 2 : Int) ∧ oi = (cnt 255 [a, b, c, d, e, f] 2 : Int)) := ⟨by omega, by omega⟩
            have hq2 : ((b.toNat : Int) == 0) = false := by rw [beq_eq_false_iff_ne]; intro h; exact hq (UInt8.toNat_inj.1 (by show b.toNat = 0; omega))
            have hp2 : ((b.toNat : Int) == 255) = false := by rw [beq_eq_false_iff_ne]; intro h; exact hp (UInt8.toNat_inj.1 (by show b.toNat = 255; omega))
            clear hsz hso hc1 hc2 hcz hco HC hq hp
            go_wp2
            go_round
            case rel => exact ⟨2, zi, oi, by omega, rfl, rfl, rfl, by omega, by omega, by omega, by omega, HC'.out⟩
            case measure => simp [intOf]
      · have hsz : cnt 0 [a, b, c, d, e, f] 3 = cnt 0 [a, b, c, d, e, f] 2 + if c = 0 then 1 else 0 := rfl
        have hso : cnt 255 [a, b, c, d, e, f] 3 = cnt 255 [a, b, c, d, e, f] 2 + if c = 255 then 1 else 0 := rfl
        obtain ⟨hc1, hc2⟩ := HC.out
        by_cases hq : c = 0
        · rw [if_pos hq] at hsz
          rw [if_neg (by rw [hq]; decide)] at hso
          have HC' : Hid (zi + 1 = (cnt 0 [a, b, c, d, e, f] 3 : Int) ∧ oi = (cnt 255 [a, b, c, d, e, f] 3 : Int)) := ⟨by omega, by omega⟩
          have hzi : zi + 1 ≤ 6 := by omega
          have hq2 : ((c.toNat : Int) == 0) = true := by rw [hq]; rfl
          have hp2 : ((c.toNat : Int) == 255) = false := by rw [hq]; rfl
          clear hsz hso hc1 hc2 hcz hco HC hq
          go_wp2
          go_round
          case rel => exact ⟨3, zi + 1, oi, by omega, rfl, rfl, rfl, by omega, by omega, by omega, by omega, HC'.out⟩
          case measure => simp [intOf]
        · by_cases hp : c = 255
          · rw [if_neg hq] at hsz
            rw [if_pos hp] at hso
            have HC' : Hid (zi = (cnt 0 [a, b, c, d, e, f] 3 : Int) ∧ oi + 1 = (cnt 255 [a, b, c, d, e, f] 3 : Int)) := ⟨by omega, by omega⟩
            have hoi : oi + 1 ≤ 6 := by omega
            have hq2 : ((c.toNat : Int) == 0) = false := by rw [hp]; rfl
            have hp2 : ((c.toNat : Int) == 255) = true := by rw [hp]; rfl
            clear hsz hso hc1 hc2 hcz hco HC hq hp
            go_wp2
            go_round
            case rel => exact ⟨3, zi, oi + 1, by omega, rfl, rfl, rfl, by omega, by omega, by omega, by omega, HC'.out⟩
            case measure => simp [intOf]
          · rw [if_neg hq] at hsz
            rw [if_neg hp] at hso
            have HC' : Hid (zi = (cnt 0 [a, b, c, d, e, f] 3 : Int) ∧ oi = (cnt 255 [a, b, c, d, e, f] 3 : Int)) := ⟨by omega, by omega⟩
            have hq2 : ((c.toNat : Int) == 0) = false := by rw [beq_eq_false_iff_ne]; intro h; exact hq (UInt8.toNat_inj.1 (by show c.toNat = 0; omega))
            have hp2 : ((c.toNat : Int) == 255) = false := by rw [beq_eq_false_iff_ne]; intro h; exact hp (UInt8.toNat_inj.1 (by show c.toNat = 255; omega))
            clear hsz hso hc1 hc2 hcz hco HC hq hp
            go_wp2
            go_round
            case rel => exact ⟨3, zi, oi, by omega, rfl, rfl, rfl, by omega, by omega, by omega, by omega, HC'.out⟩
            case measure => simp [intOf]
      · have hsz : cnt 0 [a, b, c, d, e, f] 4 = cnt 0 [a, b, c, d, e, f] 3 + if d = 0 then 1 else 0 := rfl
        have hso : cnt 255 [a, b, c, d, e, f] 4 = cnt 255 [a, b, c, d, e, f] 3 + if d = 255 then 1 else 0 := rfl
        obtain ⟨hc1, hc2⟩ := HC.out
        by_cases hq : d = 0
        · rw [if_pos hq] at hsz
          rw [if_neg (by rw [hq]; decide)] at hso
          have HC' : Hid (zi + 1 = (cnt 0 [a, b, c, d, e, f] 4 : Int) ∧ oi = (cnt 255 [a, b, c, d, e, f] 4 : Int)) := ⟨by omega, by omega⟩
          have hzi : zi + 1 ≤ 6 := by omega
          have hq2 : ((d.toNat : Int) == 0) = true := by rw [hq]; rfl
          have hp2 : ((d.toNat : Int) == 255) = false := by rw [hq]; rfl
          clear hsz hso hc1 hc2 hcz hco HC hq
          go_wp2
          go_round
          case rel => exact ⟨4, zi + 1, oi, by omega, rfl, rfl, rfl, by omega, by omega, by omega, by omega, HC'.out⟩
          case measure => simp [intOf]
        · by_cases hp : d = 255
          · rw [if_neg hq] at hsz
            rw [if_pos hp] at hso
            have HC' : Hid (zi = (cnt 0 [a, b, c, d, e, f] 4 : Int) ∧ oi + 1 = (cnt 255 [a, b, c, d, e, f] 4 : Int)) := ⟨by omega, by omega⟩
            have hoi : oi + 1 ≤ 6 := by omega
            have hq2 : ((d.toNat : Int) == 0) = false := by rw [hp]; rfl
            have hp2 : ((d.toNat : Int) == 255) = true := by rw [hp]; rfl
            clear hsz hso hc1 hc2 hcz hco HC hq hp
            go_wp2
            go_round
            case rel => exact ⟨4, zi, oi + 1, by omega, rfl, rfl, rfl, by omega, by omega, by omega, by omega, HC'.out⟩
            case measure => simp [intOf]
          · rw [if_neg hq] at hsz
            rw [if_neg hp] at hso
            have HC' : Hid (zi = (cnt 0 [a, b, c, d, e, f] 4 : Int) ∧ oi = (cnt 255 [a, b, c, d, e, f] 4 : Int)) := ⟨by omega, by omega⟩
            have hq2 : ((d.toNat : Int) == 0) = false := by rw [beq_eq_false_iff_ne]; intro h; exact hq (UInt8.toNat_inj.1 (by show d.toNat = 0; omega))
            have hp2 : ((d.toNat : Int) == 255) = false := by rw [beq_eq_false_iff_ne]; intro h; exact hp (UInt8.toNat_inj.1 (by show d.toNat = 255; omega))
            clear hsz hso hc1 hc2 hcz hco HC hq hp
            go_wp2
            go_round
            case rel => exact ⟨4, zi, oi, by omega, rfl, rfl, rfl, by omega, by omega, by omega, by omega, HC'.out⟩
            case measure => simp [intOf]
      · have hsz : cnt 0 [a, b, c, d, e, f] 5 = cnt 0 [a, b, c, d, e, f] 4 + if e = 0 then 1 else 0 := rfl
        have hso : cnt 255 [a, b, c, d, e, f] 5 = cnt 255 [a, b, c, d, e, f] 4 + if e = 255 then 1 else 0 := rfl
        obtain ⟨hc1, hc2⟩ := HC.out
        by_cases hq : e = 0
        · rw [if_pos hq] at hsz
          rw [if_neg (by rw [hq]; decide)] at hso
          have HC' : Hid (zi + 1 = (cnt 0 [a, b, c, d, e, f] 5 : Int) ∧ oi = (cnt 255 [a, b, c, d, e, f] 5 : Int)) := ⟨by omega, by omega⟩
          have hzi : zi + 1 ≤ 6 := by omega
          have hq2 : ((e.toNat : Int) == 0) = true := by rw [hq]; rfl
          have hp2 : ((e.toNat : Int) == 255) = false := by rw [hq]; rfl
          clear hsz hso hc1 hc2 hcz hco HC hq
          go_wp2
          go_round
          case rel => exact ⟨5, zi + 1, oi, by omega, rfl, rfl, rfl, by omega, by omega, by omega, by omega, HC'.out⟩
          case measure => simp [intOf]
        · by_cases hp : e = 255
          · rw [if_neg hq] at hsz
            rw [if_pos hp] at hso
            have HC' : Hid (zi = (cnt 0 [a, b, c, d, e, f] 5 : Int) ∧ oi + 1 = (cnt 255 [a, b, c, d, e, f] 5 : Int)) := ⟨by omega, by omega⟩
            have hoi : oi + 1 ≤ 6 := by omega
            have hq2 : ((e.toNat : Int) == 0) = false := by rw [hp]; rfl
            have hp2 : ((e.toNat : Int) == 255) = true := by rw [hp]; rfl
            clear hsz hso hc1 hc2 hcz hco HC hq hp
            go_wp2
            go_round
            case rel => exact ⟨5, zi, oi + 1, by omega, rfl, rfl, rfl, by omega, by omega, by omega, by omega, HC'.out⟩
            case measure => simp [intOf]
          · rw [if_neg hq] at hsz
            rw [if_neg hp] at hso
            have HC' : Hid (zi = (cnt 0 [a, b, c, d, e, f] 5 : Int) ∧ oi = (cnt 255 [a, b, c, d, e, f] 5 : Int)) := ⟨by omega, by omega⟩
            have hq2 : ((e.toNat : Int) == 0) = false := by rw [beq_eq_false_iff_ne]; intro h; exact hq (UInt8.toNat_inj.1 (by show e.toNat = 0; omega))
            have hp2 : ((e.toNat : Int) == 255) = false := by rw [beq_eq_false_iff_ne]; intro h; exact hp (UInt8.toNat_inj.1 (by show e.toNat = 255; omega))
            clear hsz hso hc1 hc2 hcz hco HC hq hp
            go_wp2
            go_round
            case rel => exact ⟨5, zi, oi, by omega, rfl, rfl, rfl, by omega, by omega, by omega, by omega, HC'.out⟩
            case measure => simp [intOf]
      · have hsz : cnt 0 [a, b, c, d, e, f] 6 = cnt 0 [a, b, c, d, e, f] 5 + if f = 0 then 1 else 0 := rfl
        have hso : cnt 255 [a, b, c, d, e, f] 6 = cnt 255 [a, b, c, d, e, f] 5 + if f = 255 then 1 else 0 := rfl
        obtain ⟨hc1, hc2⟩ := HC.out
        by_cases hq : f = 0
        · rw [if_pos hq] at hsz
          rw [if_neg (by rw [hq]; decide)] at hso
          have HC' : Hid (zi + 1 = (cnt 0 [a, b, c, d, e, f] 6 : Int) ∧ oi = (cnt 255 [a, b, c, d, e, f] 6 : Int)) := ⟨by omega, by omega⟩
          have hzi : zi + 1 ≤ 6 := by omega
          have hq2 : ((f.toNat : Int) == 0) = true := by rw [hq]; rfl
          have hp2 : ((f.toNat : Int) == 255) = false := by rw [hq]; rfl
          clear hsz hso hc1 hc2 hcz hco HC hq
          go_wp2
          go_round
          case rel => exact ⟨6, zi + 1, oi, by omega, rfl, rfl, rfl, by omega, by omega, by omega, by omega, HC'.out⟩
          case measure => simp [intOf]
        · by_cases hp : f = 255
          · rw [if_neg hq] at hsz
            rw [if_pos hp] at hso
            have HC' : Hid (zi = (cnt 0 [a, b, c, d, e, f] 6 : Int) ∧ oi + 1 = (cnt 255 [a, b, c, d, e, f] 6 : Int)) := ⟨by omega, by omega⟩
            have hoi : oi + 1 ≤ 6 := by omega
            have hq2 : ((f.toNat : Int) == 0) = false := by rw [hp]; rfl
            have hp2 : ((f.toNat : Int) == 255) = true := by rw [hp]; rfl
            clear hsz hso hc1 hc2 hcz hco HC hq hp
            go_wp2
            go_round
            case rel => exact ⟨6, zi, oi + 1, by omega, rfl, rfl, rfl, by omega, by omega, by omega, by omega, HC'.out⟩
            case measure => simp [intOf]
          · rw [if_neg hq] at hsz
            rw [if_neg hp] at hso
            have HC' : Hid (zi = (cnt 0 [a, b, c, d, e, f] 6 : Int) ∧ oi = (cnt 255 [a, b, c, d, e, f] 6 : Int)) := ⟨by omega, by omega⟩
            have hq2 : ((f.toNat : Int) == 0) = false := by rw [beq_eq_false_iff_ne]; intro h; exact hq (UInt8.toNat_inj.1 (by show f.toNat = 0; omega))
            have hp2 : ((f.toNat : Int) == 255) = false := by rw [beq_eq_false_iff_ne]; intro h; exact hp (UInt8.toNat_inj.1 (by show f.toNat = 255; omega))
            clear hsz hso hc1 hc2 hcz hco HC hq hp
            go_wp2
            go_round
            case rel => exact ⟨6, zi, oi, by omega, rfl, rfl, rfl, by omega, by omega, by omega, by omega, HC'.out⟩
            case measure => simp [intOf]
    · obtain rfl : k = 6 := by omega
      have hz := cnt6 0 a b c d e f
      have ho := cnt6 255 a b c d e f
      obtain ⟨hc1, hc2⟩ := HC.out
      by_cases h1 : [a, b, c, d, e, f] = [0, 0, 0, 0, 0, 0]
      · obtain rfl : zi = 6 := by have := hz.2 h1; omega
        have HF := Lib.hid (show kindL [a, b, c, d, e, f] = 1 by unfold kindL; rw [if_pos h1])
        clear hz ho hc1 hc2 h1
        go_wp2
        go_ret
        exact ⟨by rw [HF.out]; rfl, (Kept.refl Nil w).alloc _⟩
      · have hz6 : (zi == 6) = false := by rw [beq_eq_false_iff_ne]; intro h; exact h1 (hz.1 (by omega))
        by_cases h2 : [a, b, c, d, e, f] = [255, 255, 255, 255, 255, 255]
        · obtain rfl : oi = 6 := by have := ho.2 h2; omega
          have HF := Lib.hid (show kindL [a, b, c, d, e, f] = 2 by unfold kindL; rw [if_neg h1, if_pos h2])
          clear hz ho hc1 hc2 h1 h2
          go_wp2
          go_ret
          exact ⟨by rw [HF.out]; rfl, (Kept.refl Nil w).alloc _⟩
        · have ho6 : (oi == 6) = false := by rw [beq_eq_false_iff_ne]; intro h; exact h2 (ho.1 (by omega))
          have hr : rsvL [a, b, c, d, e, f] = true ↔ (a.toNat = 1 ∧ b.toNat = 128 ∧ c.toNat = 194 ∧ d.toNat = 0 ∧ e.toNat = 0 ∧ f.toNat < 16) := by
            simp [rsvL, ← UInt8.toNat_inj, and_assoc]
          have hk3 : rsvL [a, b, c, d, e, f] = true → kindL [a, b, c, d, e, f] = 3 := fun h => by unfold kindL; rw [if_neg h1, if_neg h2, if_pos h]
          have hk4 : rsvL [a, b, c, d, e, f] ≠ true → a.toNat % 2 = 1 → kindL [a, b, c, d, e, f] = 4 := fun h h' => by unfold kindL; rw [if_neg h1, if_neg h2, if_neg h]; simp [h']
          have hk5 : rsvL [a, b, c, d, e, f] ≠ true → ¬ a.toNat % 2 = 1 → kindL [a, b, c, d, e, f] = 5 := fun h h' => by unfold kindL; rw [if_neg h1, if_neg h2, if_neg h]; simp [h']
          rw [hr] at hk3
          rw [Ne, hr] at hk4 hk5
          have H3 := Lib.hid hk3
          have H4 := Lib.hid hk4
          have H5 := Lib.hid hk5
          clear hz ho hc1 hc2 h1 h2 hr hk3 hk4 hk5 HC
          have hm : (a.toNat : Int) % 2 = 0 ∨ (a.toNat : Int) % 2 = 1 := by omega
          by_cases t0 : (a.toNat : Int) = 1
          · have s0 : ((a.toNat : Int) == 1) = true := by rw [beq_iff_eq]; exact t0
            by_cases t1 : (b.toNat : Int) = 128
            · have s1 : ((b.toNat : Int) == 128) = true := by rw [beq_iff_eq]; exact t1
              by_cases t2 : (c.toNat : Int) = 194
              · have s2 : ((c.toNat : Int) == 194) = true := by rw [beq_iff_eq]; exact t2
                by_cases t3 : (d.toNat : Int) = 0
                · have s3 : ((d.toNat : Int) == 0) = true := by rw [beq_iff_eq]; exact t3
                  by_cases t4 : (e.toNat : Int) = 0
                  · have s4 : ((e.toNat : Int) == 0) = true := by rw [beq_iff_eq]; exact t4
                    by_cases t5 : (f.toNat : Int) < 16
                    · have HF := Lib.hid (H3.out ⟨by omega, by omega, by omega, by omega, by omega, by omega⟩)
                      go_wp2
                      go_ret
                      exact ⟨by rw [HF.out]; rfl, (Kept.refl Nil w).alloc _⟩
                    · rcases hm with hm | hm
                      · exfalso; omega
                      · have HF := Lib.hid (H4.out (by omega) (by omega))
                        go_wp2
                        go_ret
                        exact ⟨by rw [HF.out]; rfl, (Kept.refl Nil w).alloc _⟩
                  · have s4 : ((e.toNat : Int) == 0) = false := by rw [beq_eq_false_iff_ne]; exact t4
                    rcases hm with hm | hm
                    · exfalso; omega
                    · have HF := Lib.hid (H4.out (by omega) (by omega))
                      go_wp2
                      go_ret
                      exact ⟨by rw [HF.out]; rfl, (Kept.refl Nil w).alloc _⟩
                · have s3 : ((d.toNat : Int) == 0) = false := by rw [beq_eq_false_iff_ne]; exact t3
                  rcases hm with hm | hm
                  · exfalso; omega
                  · have HF := Lib.hid (H4.out (by omega) (by omega))
                    go_wp2
                    go_ret
                    exact ⟨by rw [HF.out]; rfl, (Kept.refl Nil w).alloc _⟩
              · have s2 : ((c.toNat : Int) == 194) = false := by rw [beq_eq_false_iff_ne]; exact t2
                rcases hm with hm | hm
                · exfalso; omega
                · have HF := Lib.hid (H4.out (by omega) (by omega))
                  go_wp2
                  go_ret
                  exact ⟨by rw [HF.out]; rfl, (Kept.refl Nil w).alloc _⟩
            · have s1 : ((b.toNat : Int) == 128) = false := by rw [beq_eq_false_iff_ne]; exact t1
              rcases hm with hm | hm
              · exfalso; omega
              · have HF := Lib.hid (H4.out (by omega) (by omega))
                go_wp2
                go_ret
                exact ⟨by rw [HF.out]; rfl, (Kept.refl Nil w).alloc _⟩
          · have s0 : ((a.toNat : Int) == 1) = false := by rw [beq_eq_false_iff_ne]; exact t0
            rcases hm with hm | hm
            · have HF := Lib.hid (H5.out (by omega) (by omega))
              go_wp2
              go_ret
              exact ⟨by rw [HF.out]; rfl, (Kept.refl Nil w).alloc _⟩
            · have HF := Lib.hid (H4.out (by omega) (by omega))
              go_wp2
              go_ret
              exact ⟨by rw [HF.out]; rfl, (Kept.refl Nil w).alloc _⟩
end Go.Proofs.YtjfffddaiefggabDoor
