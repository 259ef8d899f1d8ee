/- Contracts of tollref02.Bits and Masked. -/
import Derived.Test.YtjfffddaiefggabDoorMacS
import Derived.BigRegion
namespace Go.Proofs.YtjfffddaiefggabDoor
open Go.RowKit
set_option linter.unusedVariables false

set_option maxHeartbeats 1000000 in
theorem RMasked_yes (a b c d e f a' b' c' d' e' f' : UInt8) (w : World) :
    Calls Tryd.prog 21 #[mv [a, b, c, d, e, f], mv [a', b', c', d', e', f']] w fun r w' => r = .returned (mv [a &&& a', b &&& b', c &&& c', d &&& d', e &&& e', f &&& f']) ∧ Kept Nil w w' := by
  rw [mv6, mv6]
  have h0 := and8 a a'
  have h1 := and8 b b'
  have h2 := and8 c c'
  have h3 := and8 d d'
  have h4 := and8 e e'
  have h5 := and8 f f'
  go_enter Tryd.func21, Tryd.ntmps21
  go_wp2
  refine wp_loop_rounds 7 ?_
  iterate 6 (rw [rounds_succ]; go_wp2; go_region; go_wp2)
  rw [rounds_succ]
  go_wp2
  refine bodyPost_ret (v := .agg #[.int .u8 ((a.toNat &&& a'.toNat : Nat) : Int), .int .u8 ((b.toNat &&& b'.toNat : Nat) : Int), .int .u8 ((c.toNat &&& c'.toNat : Nat) : Int), .int .u8 ((d.toNat &&& d'.toNat : Nat) : Int), .int .u8 ((e.toNat &&& e'.toNat : Nat) : Int), .int .u8 ((f.toNat &&& f'.toNat : Nat) : Int)]) (by simp [results, Tryd.results21, go_sem]) rfl ⟨?_, ((((((((((Kept.refl Nil w).alloc _).alloc _).alloc _).drew).drew).drew).drew).drew).drew)⟩
  rw [mv6, UInt8.toNat_and, UInt8.toNat_and, UInt8.toNat_and, UInt8.toNat_and, UInt8.toNat_and, UInt8.toNat_and]

/-- The reference's mask after i rounds. -/
def bst (n : Int) : Nat → List UInt8
  | 0 => [0, 0, 0, 0, 0, 0]
  | i + 1 => (bst n i).set (i / 8) (UInt8.ofNat (((bst n i).getD (i / 8) 0).toNat * 2 % 256 + if (i : Int) < n then 1 else 0))
theorem bst_len n : ∀ i, (bst n i).length = 6
  | 0 => rfl
  | i + 1 => by unfold bst; rw [List.length_set]; exact bst_len n i
theorem bst_mask : ∀ k : Fin 49, bst (k.val : Int) 48 = maskL k.val := by decide +kernel
theorem bys_set2 (l : List UInt8) (k : Nat) (b : UInt8) : (bys l).toArray.setIfInBounds k (.int .u8 (b.toNat : Int)) = (bys (l.set k b)).toArray := by
  simp [bys, List.map_set]
theorem dbl0 (m : UInt8) : (m.toNat : Int) * 2 % 256 = ((UInt8.ofNat (m.toNat * 2 % 256 + 0)).toNat : Int) := by
  rw [UInt8.toNat_ofNat']; omega
theorem dbl1 (m : UInt8) : (m.toNat : Int) * 2 % 256 + 1 = ((UInt8.ofNat (m.toNat * 2 % 256 + 1)).toNat : Int) := by
  rw [UInt8.toNat_ofNat']; omega
set_option maxHeartbeats 32000000 in
set_option maxRecDepth 100000 in
theorem RBits_gen (n : Int) (mk : List UInt8) (hmk : bst n 48 = mk) (w : World) :
    Calls Tryd.prog 19 #[.int .i64 n] w fun r w' => r = .returned (mv mk) ∧ Kept Nil w w' := by
  have hz0 := (Blo.new w 22 #[.int .u8 0, .int .u8 0, .int .u8 0, .int .u8 0, .int .u8 0, .int .u8 0]).alloc (.cells #[.int .u8 0, .int .u8 0, .int .u8 0, .int .u8 0, .int .u8 0, .int .u8 0] 22)
  have hz1 := Blo.new (w.alloc (.cells #[.int .u8 0, .int .u8 0, .int .u8 0, .int .u8 0, .int .u8 0, .int .u8 0] 22)) 22 #[.int .u8 0, .int .u8 0, .int .u8 0, .int .u8 0, .int .u8 0, .int .u8 0]
  rw [World.size_alloc] at hz1
  have HZ0 := Lib.hid hz0
  have HZ1 := Lib.hid hz1
  have HM := Lib.hid hmk
  clear hz0 hz1 hmk
  go_enter Tryd.func19, Tryd.ntmps19
  go_wp2
  go_loopw [4] (fun i wr => ∃ (k : Nat), k ≤ 48 ∧ i = .int .i64 k ∧ Hid (Blo wr w.heap.size 22 #[.int .u8 0, .int .u8 0, .int .u8 0, .int .u8 0, .int .u8 0, .int .u8 0]) ∧ Hid (Blo wr (w.heap.size + 1) 22 (bys (bst n k)).toArray) ∧ Hid (Kept Nil w wr)) (fun i _ => 48 - (intOf i).toNat)
  case atStart => exact ⟨0, Nat.zero_le _, rfl, HZ0.out, HZ1.out, ((Kept.refl Nil w).alloc _).alloc _⟩
  case round =>
    obtain ⟨k, hk, rfl, HB0, HB1, HK⟩ := hrel
    by_cases hlt : k < 48
    · have hlen := bst_len n k
      obtain ⟨m0, m1, m2, m3, m4, m5, hmm⟩ := six (bst n k) hlen
      have hnext : bst n (k + 1) = (bst n k).set (k / 8) (UInt8.ofNat (((bst n k).getD (k / 8) 0).toNat * 2 % 256 + if (k : Int) < n then 1 else 0)) := rfl
      have hb1 := HB1.out
      rw [hmm] at hnext hb1
      rcases (show k = 0 ∨ k = 1 ∨ k = 2 ∨ k = 3 ∨ k = 4 ∨ k = 5 ∨ k = 6 ∨ k = 7 ∨ k = 8 ∨ k = 9 ∨ k = 10 ∨ k = 11 ∨ k = 12 ∨ k = 13 ∨ k = 14 ∨ k = 15 ∨ k = 16 ∨ k = 17 ∨ k = 18 ∨ k = 19 ∨ k = 20 ∨ k = 21 ∨ k = 22 ∨ k = 23 ∨ k = 24 ∨ k = 25 ∨ k = 26 ∨ k = 27 ∨ k = 28 ∨ k = 29 ∨ k = 30 ∨ k = 31 ∨ k = 32 ∨ k = 33 ∨ k = 34 ∨ k = 35 ∨ k = 36 ∨ k = 37 ∨ k = 38 ∨ k = 39 ∨ k = 40 ∨ k = 41 ∨ k = 42 ∨ k = 43 ∨ k = 44 ∨ k = 45 ∨ k = 46 ∨ k = 47 by omega) with rfl | rfl | rfl | rfl | rfl | rfl | rfl | rfl | rfl | rfl | rfl | rfl | rfl | rfl | rfl | rfl | rfl | rfl | rfl | rfl | rfl | rfl | rfl | rfl | rfl | rfl | rfl | rfl | rfl | rfl | rfl | rfl | rfl | rfl | rfl | rfl | rfl | rfl | rfl | rfl | rfl | rfl | rfl | rfl | rfl | rfl | rfl | rfl
      · rw [show ((0 : Nat) : Int) = 0 from rfl]
        have x0 := hb1.cell 0
        simp [bys] at x0
        have x1 := hb1.frozen 0
        by_cases hkn : (0 : Int) < n
        · rw [if_pos (by exact hkn)] at hnext
          have hd := dbl1 m0
          have hst := (hb1.set 0 (.int .u8 ((m0.toNat : Int) * 2 % 256))).set 0 (.int .u8 ((m0.toNat : Int) * 2 % 256 + 1))
          rw [Array.setIfInBounds_setIfInBounds, hd, bys_set2] at hst
          have HST := Lib.hid (show Blo ((wr.setCell ⟨w.heap.size + 1, 0, none⟩ (.int .u8 ((m0.toNat : Int) * 2 % 256))).setCell ⟨w.heap.size + 1, 0, none⟩ (.int .u8 ((m0.toNat : Int) * 2 % 256 + 1))) (w.heap.size + 1) 22 (bys (bst n 1)).toArray by rw [hnext, hd]; exact hst)
          have HB0' := Lib.hid ((HB0.out.far (p := ⟨w.heap.size + 1, 0, none⟩) (by simp) (.int .u8 ((m0.toNat : Int) * 2 % 256))).far (p := ⟨w.heap.size + 1, 0, none⟩) (by simp) (.int .u8 ((m0.toNat : Int) * 2 % 256 + 1)))
          have HK' := Lib.hid ((HK.out.setCell (p := ⟨w.heap.size + 1, 0, none⟩) (fun hl => absurd hl (by simp)) (.int .u8 ((m0.toNat : Int) * 2 % 256))).setCell (p := ⟨w.heap.size + 1, 0, none⟩) (fun hl => absurd hl (by simp)) (.int .u8 ((m0.toNat : Int) * 2 % 256 + 1)))
          clear hb1 hst hnext hmm hlen hd
          go_wp2
          go_roundw
          case rel => exact ⟨1, by omega, rfl, HB0'.out, HST.out, HK'.out⟩
          case measure => simp [intOf]
        · rw [if_neg (by exact hkn)] at hnext
          have hd := dbl0 m0
          have hst := hb1.set 0 (.int .u8 ((m0.toNat : Int) * 2 % 256))
          rw [hd, bys_set2] at hst
          have HST := Lib.hid (show Blo (wr.setCell ⟨w.heap.size + 1, 0, none⟩ (.int .u8 ((m0.toNat : Int) * 2 % 256))) (w.heap.size + 1) 22 (bys (bst n 1)).toArray by rw [hnext, hd]; exact hst)
          have HB0' := Lib.hid (HB0.out.far (p := ⟨w.heap.size + 1, 0, none⟩) (by simp) (.int .u8 ((m0.toNat : Int) * 2 % 256)))
          have HK' := Lib.hid (HK.out.setCell (p := ⟨w.heap.size + 1, 0, none⟩) (fun hl => absurd hl (by simp)) (.int .u8 ((m0.toNat : Int) * 2 % 256)))
          clear hb1 hst hnext hmm hlen hd
          go_wp2
          go_roundw
          case rel => exact ⟨1, by omega, rfl, HB0'.out, HST.out, HK'.out⟩
          case measure => simp [intOf]
      · rw [show ((1 : Nat) : Int) = 1 from rfl]
        have x0 := hb1.cell 0
        simp [bys] at x0
        have x1 := hb1.frozen 0
        by_cases hkn : (1 : Int) < n
        · rw [if_pos (by exact hkn)] at hnext
          have hd := dbl1 m0
          have hst := (hb1.set 0 (.int .u8 ((m0.toNat : Int) * 2 % 256))).set 0 (.int .u8 ((m0.toNat : Int) * 2 % 256 + 1))
          rw [Array.setIfInBounds_setIfInBounds, hd, bys_set2] at hst
          have HST := Lib.hid (show Blo ((wr.setCell ⟨w.heap.size + 1, 0, none⟩ (.int .u8 ((m0.toNat : Int) * 2 % 256))).setCell ⟨w.heap.size + 1, 0, none⟩ (.int .u8 ((m0.toNat : Int) * 2 % 256 + 1))) (w.heap.size + 1) 22 (bys (bst n 2)).toArray by rw [hnext, hd]; exact hst)
          have HB0' := Lib.hid ((HB0.out.far (p := ⟨w.heap.size + 1, 0, none⟩) (by simp) (.int .u8 ((m0.toNat : Int) * 2 % 256))).far (p := ⟨w.heap.size + 1, 0, none⟩) (by simp) (.int .u8 ((m0.toNat : Int) * 2 % 256 + 1)))
          have HK' := Lib.hid ((HK.out.setCell (p := ⟨w.heap.size + 1, 0, none⟩) (fun hl => absurd hl (by simp)) (.int .u8 ((m0.toNat : Int) * 2 % 256))).setCell (p := ⟨w.heap.size + 1, 0, none⟩) (fun hl => absurd hl (by simp)) (.int .u8 ((m0.toNat : Int) * 2 % 256 + 1)))
          clear hb1 hst hnext hmm hlen hd
          go_wp2
          go_roundw
          case rel => exact ⟨2, by omega, rfl, HB0'.out, HST.out, HK'.out⟩
          case measure => simp [intOf]
        · rw [if_neg (by exact hkn)] at hnext
          have hd := dbl0 m0
          have hst := hb1.set 0 (.int .u8 ((m0.toNat : Int) * 2 % 256))
          rw [hd, bys_set2] at hst
          have HST := Lib.hid (show Blo (wr.setCell ⟨w.heap.size + 1, 0, none⟩ (.int .u8 ((m0.toNat : Int) * 2 % 256))) (w.heap.size + 1) 22 (bys (bst n 2)).toArray by rw [hnext, hd]; exact hst)
          have HB0' := Lib.hid (HB0.out.far (p := ⟨w.heap.size + 1, 0, none⟩) (by simp) (.int .u8 ((m0.toNat : Int) * 2 % 256)))
          have HK' := Lib.hid (HK.out.setCell (p := ⟨w.heap.size + 1, 0, none⟩) (fun hl => absurd hl (by simp)) (.int .u8 ((m0.toNat : Int) * 2 % 256)))
          clear hb1 hst hnext hmm hlen hd
          go_wp2
          go_roundw
          case rel => exact ⟨2, by omega, rfl, HB0'.out, HST.out, HK'.out⟩
          case measure => simp [intOf]
      · rw [show ((2 : Nat) : Int) = 2 from rfl]
        have x0 := hb1.cell 0
        simp [bys] at x0
        have x1 := hb1.frozen 0
        by_cases hkn : (2 : Int) < n
        · rw [if_pos (by exact hkn)] at hnext
          have hd := dbl1 m0
          have hst := (hb1.set 0 (.int .u8 ((m0.toNat : Int) * 2 % 256))).set 0 (.int .u8 ((m0.toNat : Int) * 2 % 256 + 1))
          rw [Array.setIfInBounds_setIfInBounds, hd, bys_set2] at hst
          have HST := Lib.hid (show Blo ((wr.setCell ⟨w.heap.size + 1, 0, none⟩ (.int .u8 ((m0.toNat : Int) * 2 % 256))).setCell ⟨w.heap.size + 1, 0, none⟩ (.int .u8 ((m0.toNat : Int) * 2 % 256 + 1))) (w.heap.size + 1) 22 (bys (bst n 3)).toArray by rw [hnext, hd]; exact hst)
          have HB0' := Lib.hid ((HB0.out.far (p := ⟨w.heap.size + 1, 0, none⟩) (by simp) (.int .u8 ((m0.toNat : Int) * 2 % 256))).far (p := ⟨w.heap.size + 1, 0, none⟩) (by simp) (.int .u8 ((m0.toNat : Int) * 2 % 256 + 1)))
          have HK' := Lib.hid ((HK.out.setCell (p := ⟨w.heap.size + 1, 0, none⟩) (fun hl => absurd hl (by simp)) (.int .u8 ((m0.toNat : Int) * 2 % 256))).setCell (p := ⟨w.heap.size + 1, 0, none⟩) (fun hl => absurd hl (by simp)) (.int .u8 ((m0.toNat : Int) * 2 % 256 + 1)))
          clear hb1 hst hnext hmm hlen hd
          go_wp2
          go_roundw
          case rel => exact ⟨3, by omega, rfl, HB0'.out, HST.out, HK'.out⟩
          case measure => simp [intOf]
        · rw [if_neg (by exact hkn)] at hnext
          have hd := dbl0 m0
          have hst := hb1.set 0 (.int .u8 ((m0.toNat : Int) * 2 % 256))
          rw [hd, bys_set2] at hst
          have HST := Lib.hid (show Blo (wr.setCell ⟨w.heap.size + 1, 0, none⟩ (.int .u8 ((m0.toNat : Int) * 2 % 256))) (w.heap.size + 1) 22 (bys (bst n 3)).toArray by rw [hnext, hd]; exact hst)
          have HB0' := Lib.hid (HB0.out.far (p := ⟨w.heap.size + 1, 0, none⟩) (by simp) (.int .u8 ((m0.toNat : Int) * 2 % 256)))
          have HK' := Lib.hid (HK.out.setCell (p := ⟨w.heap.size + 1, 0, none⟩) (fun hl => absurd hl (by simp)) (.int .u8 ((m0.toNat : Int) * 2 % 256)))
          clear hb1 hst hnext hmm hlen hd
          go_wp2
          go_roundw
          case rel => exact ⟨3, by omega, rfl, HB0'.out, HST.out, HK'.out⟩
          case measure => simp [intOf]
      · rw [show ((3 : Nat) : Int) = 3 from rfl]
        have x0 := hb1.cell 0
        simp [bys] at x0
        have x1 := hb1.frozen 0
        by_cases hkn : (3 : Int) < n
        · rw [if_pos (by exact hkn)] at hnext
          have hd := dbl1 m0
          have hst := (hb1.set 0 (.int .u8 ((m0.toNat : Int) * 2 % 256))).set 0 (.int .u8 ((m0.toNat : Int) * 2 % 256 + 1))
          rw [Array.setIfInBounds_setIfInBounds, hd, bys_set2] at hst
          have HST := Lib.hid (show Blo ((wr.setCell ⟨w.heap.size + 1, 0, none⟩ (.int .u8 ((m0.toNat : Int) * 2 % 256))).setCell ⟨w.heap.size + 1, 0, none⟩ (.int .u8 ((m0.toNat : Int) * 2 % 256 + 1))) (w.heap.size + 1) 22 (bys (bst n 4)).toArray by rw [hnext, hd]; exact hst)
          have HB0' := Lib.hid ((HB0.out.far (p := ⟨w.heap.size + 1, 0, none⟩) (by simp) (.int .u8 ((m0.toNat : Int) * 2 % 256))).far (p := ⟨w.heap.size + 1, 0, none⟩) (by simp) (.int .u8 ((m0.toNat : Int) * 2 % 256 + 1)))
          have HK' := Lib.hid ((HK.out.setCell (p := ⟨w.heap.size + 1, 0, none⟩) (fun hl => absurd hl (by simp)) (.int .u8 ((m0.toNat : Int) * 2 % 256))).setCell (p := ⟨w.heap.size + 1, 0, none⟩) (fun hl => absurd hl (by simp)) (.int .u8 ((m0.toNat : Int) * 2 % 256 + 1)))
          clear hb1 hst hnext hmm hlen hd
          go_wp2
          go_roundw
          case rel => exact ⟨4, by omega, rfl, HB0'.out, HST.out, HK'.out⟩
          case measure => simp [intOf]
        · rw [if_neg (by exact hkn)] at hnext
          have hd := dbl0 m0
          have hst := hb1.set 0 (.int .u8 ((m0.toNat : Int) * 2 % 256))
          rw [hd, bys_set2] at hst
          have HST := Lib.hid (show Blo (wr.setCell ⟨w.heap.size + 1, 0, none⟩ (.int .u8 ((m0.toNat : Int) * 2 % 256))) (w.heap.size + 1) 22 (bys (bst n 4)).toArray by rw [hnext, hd]; exact hst)
          have HB0' := Lib.hid (HB0.out.far (p := ⟨w.heap.size + 1, 0, none⟩) (by simp) (.int .u8 ((m0.toNat : Int) * 2 % 256)))
          have HK' := Lib.hid (HK.out.setCell (p := ⟨w.heap.size + 1, 0, none⟩) (fun hl => absurd hl (by simp)) (.int .u8 ((m0.toNat : Int) * 2 % 256)))
          clear hb1 hst hnext hmm hlen hd
          go_wp2
          go_roundw
          case rel => exact ⟨4, by omega, rfl, HB0'.out, HST.out, HK'.out⟩
          case measure => simp [intOf]
      · rw [show ((4 : Nat) : Int) = 4 from rfl]
        have x0 := hb1.cell 0
        simp [bys] at x0
        have x1 := hb1.frozen 0
        by_cases hkn : (4 : Int) < n
        · rw [if_pos (by exact hkn)] at hnext
          have hd := dbl1 m0
          have hst := (hb1.set 0 (.int .u8 ((m0.toNat : Int) * 2 % 256))).set 0 (.int .u8 ((m0.toNat : Int) * 2 % 256 + 1))
          rw [Array.setIfInBounds_setIfInBounds, hd, bys_set2] at hst
          have HST := Lib.hid (show Blo ((wr.setCell ⟨w.heap.size + 1, 0, none⟩ (.int .u8 ((m0.toNat : Int) * 2 % 256))).setCell ⟨w.heap.size + 1, 0, none⟩ (.int .u8 ((m0.toNat : Int) * 2 % 256 + 1))) (w.heap.size + 1) 22 (bys (bst n 5)).toArray by rw [hnext, hd]; exact hst)
          have HB0' := Lib.hid ((HB0.out.far (p := ⟨w.heap.size + 1, 0, none⟩) (by simp) (.int .u8 ((m0.toNat : Int) * 2 % 256))).far (p := ⟨w.heap.size + 1, 0, none⟩) (by simp) (.int .u8 ((m0.toNat : Int) * 2 % 256 + 1)))
          have HK' := Lib.hid ((HK.out.setCell (p := ⟨w.heap.size + 1, 0, none⟩) (fun hl => absurd hl (by simp)) (.int .u8 ((m0.toNat : Int) * 2 % 256))).setCell (p := ⟨w.heap.size + 1, 0, none⟩) (fun hl => absurd hl (by simp)) (.int .u8 ((m0.toNat : Int) * 2 % 256 + 1)))
          clear hb1 hst hnext hmm hlen hd
          go_wp2
          go_roundw
          case rel => exact ⟨5, by omega, rfl, HB0'.out, HST.out, HK'.out⟩
          case measure => simp [intOf]
        · rw [if_neg (by exact hkn)] at hnext
          have hd := dbl0 m0
          have hst := hb1.set 0 (.int .u8 ((m0.toNat : Int) * 2 % 256))
          rw [hd, bys_set2] at hst
          have HST := Lib.hid (show Blo (wr.setCell ⟨w.heap.size + 1, 0, none⟩ (.int .u8 ((m0.toNat : Int) * 2 % 256))) (w.heap.size + 1) 22 (bys (bst n 5)).toArray by rw [hnext, hd]; exact hst)
          have HB0' := Lib.hid (HB0.out.far (p := ⟨w.heap.size + 1, 0, none⟩) (by simp) (.int .u8 ((m0.toNat : Int) * 2 % 256)))
          have HK' := Lib.hid (HK.out.setCell (p := ⟨w.heap.size + 1, 0, none⟩) (fun hl => absurd hl (by simp)) (.int .u8 ((m0.toNat : Int) * 2 % 256)))
          clear hb1 hst hnext hmm hlen hd
          go_wp2
          go_roundw
          case rel => exact ⟨5, by omega, rfl, HB0'.out, HST.out, HK'.out⟩
          case measure => simp [intOf]
      · rw [show ((5 : Nat) : Int) = 5 from rfl]
        have x0 := hb1.cell 0
        simp [bys] at x0
        have x1 := hb1.frozen 0
        by_cases hkn : (5 : Int) < n
        · rw [if_pos (by exact hkn)] at hnext
          have hd := dbl1 m0
          have hst := (hb1.set 0 (.int .u8 ((m0.toNat : Int) * 2 % 256))).set 0 (.int .u8 ((m0.toNat : Int) * 2 % 256 + 1))
          rw [Array.setIfInBounds_setIfInBounds, hd, bys_set2] at hst
          have HST := Lib.hid (show Blo ((wr.setCell ⟨w.heap.size + 1, 0, none⟩ (.int .u8 ((m0.toNat : Int) * 2 % 256))).setCell ⟨w.heap.size + 1, 0, none⟩ (.int .u8 ((m0.toNat : Int) * 2 % 256 + 1))) (w.heap.size + 1) 22 (bys (bst n 6)).toArray by rw [hnext, hd]; exact hst)
          have HB0' := Lib.hid ((HB0.out.far (p := ⟨w.heap.size + 1, 0, none⟩) (by simp) (.int .u8 ((m0.toNat : Int) * 2 % 256))).far (p := ⟨w.heap.size + 1, 0, none⟩) (by simp) (.int .u8 ((m0.toNat : Int) * 2 % 256 + 1)))
          have HK' := Lib.hid ((HK.out.setCell (p := ⟨w.heap.size + 1, 0, none⟩) (fun hl => absurd hl (by simp)) (.int .u8 ((m0.toNat : Int) * 2 % 256))).setCell (p := ⟨w.heap.size + 1, 0, none⟩) (fun hl => absurd hl (by simp)) (.int .u8 ((m0.toNat : Int) * 2 % 256 + 1)))
          clear hb1 hst hnext hmm hlen hd
          go_wp2
          go_roundw
          case rel => exact ⟨6, by omega, rfl, HB0'.out, HST.out, HK'.out⟩
          case measure => simp [intOf]
        · rw [if_neg (by exact hkn)] at hnext
          have hd := dbl0 m0
          have hst := hb1.set 0 (.int .u8 ((m0.toNat : Int) * 2 % 256))
          rw [hd, bys_set2] at hst
          have HST := Lib.hid (show Blo (wr.setCell ⟨w.heap.size + 1, 0, none⟩ (.int .u8 ((m0.toNat : Int) * 2 % 256))) (w.heap.size + 1) 22 (bys (bst n 6)).toArray by rw [hnext, hd]; exact hst)
          have HB0' := Lib.hid (HB0.out.far (p := ⟨w.heap.size + 1, 0, none⟩) (by simp) (.int .u8 ((m0.toNat : Int) * 2 % 256)))
          have HK' := Lib.hid (HK.out.setCell (p := ⟨w.heap.size + 1, 0, none⟩) (fun hl => absurd hl (by simp)) (.int .u8 ((m0.toNat : Int) * 2 % 256)))
          clear hb1 hst hnext hmm hlen hd
          go_wp2
          go_roundw
          case rel => exact ⟨6, by omega, rfl, HB0'.out, HST.out, HK'.out⟩
          case measure => simp [intOf]
      · rw [show ((6 : Nat) : Int) = 6 from rfl]
        have x0 := hb1.cell 0
        simp [bys] at x0
        have x1 := hb1.frozen 0
        by_cases hkn : (6 : Int) < n
        · rw [if_pos (by exact hkn)] at hnext
          have hd := dbl1 m0
          have hst := (hb1.set 0 (.int .u8 ((m0.toNat : Int) * 2 % 256))).set 0 (.int .u8 ((m0.toNat : Int) * 2 % 256 + 1))
          rw [Array.setIfInBounds_setIfInBounds, hd, bys_set2] at hst
          have HST := Lib.hid (show Blo ((wr.setCell ⟨w.heap.size + 1, 0, none⟩ (.int .u8 ((m0.toNat : Int) * 2 % 256))).setCell ⟨w.heap.size + 1, 0, none⟩ (.int .u8 ((m0.toNat : Int) * 2 % 256 + 1))) (w.heap.size + 1) 22 (bys (bst n 7)).toArray by rw [hnext, hd]; exact hst)
          have HB0' := Lib.hid ((HB0.out.far (p := ⟨w.heap.size + 1, 0, none⟩) (by simp) (.int .u8 ((m0.toNat : Int) * 2 % 256))).far (p := ⟨w.heap.size + 1, 0, none⟩) (by simp) (.int .u8 ((m0.toNat : Int) * 2 % 256 + 1)))
          have HK' := Lib.hid ((HK.out.setCell (p := ⟨w.heap.size + 1, 0, none⟩) (fun hl => absurd hl (by simp)) (.int .u8 ((m0.toNat : Int) * 2 % 256))).setCell (p := ⟨w.heap.size + 1, 0, none⟩) (fun hl => absurd hl (by simp)) (.int .u8 ((m0.toNat : Int) * 2 % 256 + 1)))
          clear hb1 hst hnext hmm hlen hd
          go_wp2
          go_roundw
          case rel => exact ⟨7, by omega, rfl, HB0'.out, HST.out, HK'.out⟩
          case measure => simp [intOf]
        · rw [if_neg (by exact hkn)] at hnext
          have hd := dbl0 m0
          have hst := hb1.set 0 (.int .u8 ((m0.toNat : Int) * 2 % 256))
          rw [hd, bys_set2] at hst
          have HST := Lib.hid (show Blo (wr.setCell ⟨w.heap.size + 1, 0, none⟩ (.int .u8 ((m0.toNat : Int) * 2 % 256))) (w.heap.size + 1) 22 (bys (bst n 7)).toArray by rw [hnext, hd]; exact hst)
          have HB0' := Lib.hid (HB0.out.far (p := ⟨w.heap.size + 1, 0, none⟩) (by simp) (.int .u8 ((m0.toNat : Int) * 2 % 256)))
          have HK' := Lib.hid (HK.out.setCell (p := ⟨w.heap.size + 1, 0, none⟩) (fun hl => absurd hl (by simp)) (.int .u8 ((m0.toNat : Int) * 2 % 256)))
          clear hb1 hst hnext hmm hlen hd
          go_wp2
          go_roundw
          case rel => exact ⟨7, by omega, rfl, HB0'.out, HST.out, HK'.out⟩
          case measure => simp [intOf]
      · rw [show ((7 : Nat) : Int) = 7 from rfl]
        have x0 := hb1.cell 0
        simp [bys] at x0
        have x1 := hb1.frozen 0
        by_cases hkn : (7 : Int) < n
        · rw [if_pos (by exact hkn)] at hnext
          have hd := dbl1 m0
          have hst := (hb1.set 0 (.int .u8 ((m0.toNat : Int) * 2 % 256))).set 0 (.int .u8 ((m0.toNat : Int) * 2 % 256 + 1))
          rw [Array.setIfInBounds_setIfInBounds, hd, bys_set2] at hst
          have HST := Lib.hid (show Blo ((wr.setCell ⟨w.heap.size + 1, 0, none⟩ (.int .u8 ((m0.toNat : Int) * 2 % 256))).setCell ⟨w.heap.size + 1, 0, none⟩ (.int .u8 ((m0.toNat : Int) * 2 % 256 + 1))) (w.heap.size + 1) 22 (bys (bst n 8)).toArray by rw [hnext, hd]; exact hst)
          have HB0' := Lib.hid ((HB0.out.far (p := ⟨w.heap.size + 1, 0, none⟩) (by simp) (.int .u8 ((m0.toNat : Int) * 2 % 256))).far (p := ⟨w.heap.size + 1, 0, none⟩) (by simp) (.int .u8 ((m0.toNat : Int) * 2 % 256 + 1)))
          have HK' := Lib.hid ((HK.out.setCell (p := ⟨w.heap.size + 1, 0, none⟩) (fun hl => absurd hl (by simp)) (.int .u8 ((m0.toNat : Int) * 2 % 256))).setCell (p := ⟨w.heap.size + 1, 0, none⟩) (fun hl => absurd hl (by simp)) (.int .u8 ((m0.toNat : Int) * 2 % 256 + 1)))
          clear hb1 hst hnext hmm hlen hd
          go_wp2
          go_roundw
          case rel => exact ⟨8, by omega, rfl, HB0'.out, HST.out, HK'.out⟩
          case measure => simp [intOf]
        · rw [if_neg (by exact hkn)] at hnext
          have hd := dbl0 m0
          have hst := hb1.set 0 (.int .u8 ((m0.toNat : Int) * 2 % 256))
          rw [hd, bys_set2] at hst
          have HST := Lib.hid (show Blo (wr.setCell ⟨w.heap.size + 1, 0, none⟩ (.int .u8 ((m0.toNat : Int) * 2 % 256))) (w.heap.size + 1) 22 (bys (bst n 8)).toArray by rw [hnext, hd]; exact hst)
          have HB0' := Lib.hid (HB0.out.far (p := ⟨w.heap.size + 1, 0, none⟩) (by simp) (.int .u8 ((m0.toNat : Int) * 2 % 256)))
          have HK' := Lib.hid (HK.out.setCell (p := ⟨w.heap.size + 1, 0, none⟩) (fun hl => absurd hl (by simp)) (.int .u8 ((m0.toNat : Int) * 2 % 256)))
          clear hb1 hst hnext hmm hlen hd
          go_wp2
          go_roundw
          case rel => exact ⟨8, by omega, rfl, HB0'.out, HST.out, HK'.out⟩
          case measure => simp [intOf]
      · rw [show ((8 : Nat) : Int) = 8 from rfl]
        have x0 := hb1.cell 1
        simp [bys] at x0
        have x1 := hb1.frozen 1
        by_cases hkn : (8 : Int) < n
        · rw [if_pos (by exact hkn)] at hnext
          have hd := dbl1 m1
          have hst := (hb1.set 1 (.int .u8 ((m1.toNat : Int) * 2 % 256))).set 1 (.int .u8 ((m1.toNat : Int) * 2 % 256 + 1))
          rw [Array.setIfInBounds_setIfInBounds, hd, bys_set2] at hst
          have HST := Lib.hid (show Blo ((wr.setCell ⟨w.heap.size + 1, 1, none⟩ (.int .u8 ((m1.toNat : Int) * 2 % 256))).setCell ⟨w.heap.size + 1, 1, none⟩ (.int .u8 ((m1.toNat : Int) * 2 % 256 + 1))) (w.heap.size + 1) 22 (bys (bst n 9)).toArray by rw [hnext, hd]; exact hst)
          have HB0' := Lib.hid ((HB0.out.far (p := ⟨w.heap.size + 1, 1, none⟩) (by simp) (.int .u8 ((m1.toNat : Int) * 2 % 256))).far (p := ⟨w.heap.size + 1, 1, none⟩) (by simp) (.int .u8 ((m1.toNat : Int) * 2 % 256 + 1)))
          have HK' := Lib.hid ((HK.out.setCell (p := ⟨w.heap.size + 1, 1, none⟩) (fun hl => absurd hl (by simp)) (.int .u8 ((m1.toNat : Int) * 2 % 256))).setCell (p := ⟨w.heap.size + 1, 1, none⟩) (fun hl => absurd hl (by simp)) (.int .u8 ((m1.toNat : Int) * 2 % 256 + 1)))
          clear hb1 hst hnext hmm hlen hd
          go_wp2
          go_roundw
          case rel => exact ⟨9, by omega, rfl, HB0'.out, HST.out, HK'.out⟩
          case measure => simp [intOf]
        · rw [if_neg (by exact hkn)] at hnext
          have hd := dbl0 m1
          have hst := hb1.set 1 (.int .u8 ((m1.toNat : Int) * 2 % 256))
          rw [hd, bys_set2] at hst
          have HST := Lib.hid (show Blo (wr.setCell ⟨w.heap.size + 1, 1, none⟩ (.int .u8 ((m1.toNat : Int) * 2 % 256))) (w.heap.size + 1) 22 (bys (bst n 9)).toArray by rw [hnext, hd]; exact hst)
          have HB0' := Lib.hid (HB0.out.far (p := ⟨w.heap.size + 1, 1, none⟩) (by simp) (.int .u8 ((m1.toNat : Int) * 2 % 256)))
          have HK' := Lib.hid (HK.out.setCell (p := ⟨w.heap.size + 1, 1, none⟩) (fun hl => absurd hl (by simp)) (.int .u8 ((m1.toNat : Int) * 2 % 256)))
          clear hb1 hst hnext hmm hlen hd
          go_wp2
          go_roundw
          case rel => exact ⟨9, by omega, rfl, HB0'.out, HST.out, HK'.out⟩
          case measure => simp [intOf]
      · rw [show ((9 : Nat) : Int) = 9 from rfl]
        have x0 := hb1.cell 1
        simp [bys] at x0
        have x1 := hb1.frozen 1
        by_cases hkn : (9 : Int) < n
        · rw [if_pos (by exact hkn)] at hnext
          have hd := dbl1 m1
          have hst := (hb1.set 1 (.int .u8 ((m1.toNat : Int) * 2 % 256))).set 1 (.int .u8 ((m1.toNat : Int) * 2 % 256 + 1))
          rw [Array.setIfInBounds_setIfInBounds, hd, bys_set2] at hst
          have HST := Lib.hid (show Blo ((wr.setCell ⟨w.heap.size + 1, 1, none⟩ (.int .u8 ((m1.toNat : Int) * 2 % 256))).setCell ⟨w.heap.size + 1, 1, none⟩ (.int .u8 ((m1.toNat : Int) * 2 % 256 + 1))) (w.heap.size + 1) 22 (bys (bst n 10)).toArray by rw [hnext, hd]; exact hst)
          have HB0' := Lib.hid ((HB0.out.far (p := ⟨w.heap.size + 1, 1, none⟩) (by simp) (.int .u8 ((m1.toNat : Int) * 2 % 256))).far (p := ⟨w.heap.size + 1, 1, none⟩) (by simp) (.int .u8 ((m1.toNat : Int) * 2 % 256 + 1)))
          have HK' := Lib.hid ((HK.out.setCell (p := ⟨w.heap.size + 1, 1, none⟩) (fun hl => absurd hl (by simp)) (.int .u8 ((m1.toNat : Int) * 2 % 256))).setCell (p := ⟨w.heap.size + 1, 1, none⟩) (fun hl => absurd hl (by simp)) (.int .u8 ((m1.toNat : Int) * 2 % 256 + 1)))
          clear hb1 hst hnext hmm hlen hd
          go_wp2
          go_roundw
          case rel => exact ⟨10, by omega, rfl, HB0'.out, HST.out, HK'.out⟩
          case measure => simp [intOf]
        · rw [if_neg (by exact hkn)] at hnext
          have hd := dbl0 m1
          have hst := hb1.set 1 (.int .u8 ((m1.toNat : Int) * 2 % 256))
          rw [hd, bys_set2] at hst
          have HST := Lib.hid (show Blo (wr.setCell ⟨w.heap.size + 1, 1, none⟩ (.int .u8 ((m1.toNat : Int) * 2 % 256))) (w.heap.size + 1) 22 (bys (bst n 10)).toArray by rw [hnext, hd]; exact hst)
          have HB0' := Lib.hid (HB0.out.far (p := ⟨w.heap.size + 1, 1, none⟩) (by simp) (.int .u8 ((m1.toNat : Int) * 2 % 256)))
          have HK' := Lib.hid (HK.out.setCell (p := ⟨w.heap.size + 1, 1, none⟩) (fun hl => absurd hl (by simp)) (.int .u8 ((m1.toNat : Int) * 2 % 256)))
          clear hb1 hst hnext hmm hlen hd
          go_wp2
          go_roundw
          case rel => exact ⟨10, by omega, rfl, HB0'.out, HST.out, HK'.out⟩
          case measure => simp [intOf]
      · rw [show ((10 : Nat) : Int) = 10 from rfl]
        have x0 := hb1.cell 1
        simp [bys] at x0
        have x1 := hb1.frozen 1
        by_cases hkn : (10 : Int) < n
        · rw [if_pos (by exact hkn)] at hnext
          have hd := dbl1 m1
          have hst := (hb1.set 1 (.int .u8 ((m1.toNat : Int) * 2 % 256))).set 1 (.int .u8 ((m1.toNat : Int) * 2 % 256 + 1))
          rw [Array.setIfInBounds_setIfInBounds, hd, bys_set2] at hst
          have HST := Lib.hid (show Blo ((wr.setCell ⟨w.heap.size + 1, 1, none⟩ (.int .u8 ((m1.toNat : Int) * 2 % 256))).setCell ⟨w.heap.size + 1, 1, none⟩ (.int .u8 ((m1.toNat : Int) * 2 % 256 + 1))) (w.heap.size + 1) 22 (bys (bst n 11)).toArray by rw [hnext, hd]; exact hst)
          have HB0' := Lib.hid ((HB0.out.far (p := ⟨w.heap.size + 1, 1, none⟩) (by simp) (.int .u8 ((m1.toNat : Int) * 2 % 256))).far (p := ⟨w.heap.size + 1, 1, none⟩) (by simp) (.int .u8 ((m1.toNat : Int) * 2 % 256 + 1)))
          have HK' := Lib.hid ((HK.out.setCell (p := ⟨w.heap.size + 1, 1, none⟩) (fun hl => absurd hl (by simp)) (.int .u8 ((m1.toNat : Int) * 2 % 256))).setCell (p := ⟨w.heap.size + 1, 1, none⟩) (fun hl => absurd hl (by simp)) (.int .u8 ((m1.toNat : Int) * 2 % 256 + 1)))
          clear hb1 hst hnext hmm hlen hd
          go_wp2
          go_roundw
          case rel => exact ⟨11, by omega, rfl, HB0'.out, HST.out, HK'.out⟩
          case measure => simp [intOf]
        · rw [if_neg (by exact hkn)] at hnext
          have hd := dbl0 m1
          have hst := hb1.set 1 (.int .u8 ((m1.toNat : Int) * 2 % 256))
          rw [hd, bys_set2] at hst
          have HST := Lib.hid (show Blo (wr.setCell ⟨w.heap.size + 1, 1, none⟩ (.int .u8 ((m1.toNat : Int) * 2 % 256))) (w.heap.size + 1) 22 (bys (bst n 11)).toArray by rw [hnext, hd]; exact hst)
          have HB0' := Lib.hid (HB0.out.far (p := ⟨w.heap.size + 1, 1, none⟩) (by simp) (.int .u8 ((m1.toNat : Int) * 2 % 256)))
          have HK' := Lib.hid (HK.out.setCell (p := ⟨w.heap.size + 1, 1, none⟩) (fun hl => absurd hl (by simp)) (.int .u8 ((m1.toNat : Int) * 2 % 256)))
          clear hb1 hst hnext hmm hlen hd
          go_wp2
          go_roundw
          case rel => exact ⟨11, by omega, rfl, HB0'.out, HST.out, HK'.out⟩
          case measure => simp [intOf]
      · rw [show ((11 : Nat) : Int) = 11 from rfl]
        have x0 := hb1.cell 1
        simp [bys] at x0
        have x1 := hb1.frozen 1
        by_cases hkn : (11 : Int) < n
        · rw [if_pos (by exact hkn)] at hnext
          have hd := dbl1 m1
          have hst := (hb1.set 1 (.int .u8 ((m1.toNat : Int) * 2 % 256))).set 1 (.int .u8 ((m1.toNat : Int) * 2 % 256 + 1))
          rw [Array.setIfInBounds_setIfInBounds, hd, bys_set2] at hst
          have HST := Lib.hid (show Blo ((wr.setCell ⟨w.heap.size + 1, 1, none⟩ (.int .u8 ((m1.toNat : Int) * 2 % 256))).setCell ⟨w.heap.size + 1, 1, none⟩ (.int .u8 ((m1.toNat : Int) * 2 % 256 + 1))) (w.heap.size + 1) 22 (bys (bst n 12)).toArray by rw [hnext, hd]; exact hst)
          have HB0' := Lib.hid ((HB0.out.far (p := ⟨w.heap.size + 1, 1, none⟩) (by simp) (.int .u8 ((m1.toNat : Int) * 2 % 256))).far (p := ⟨w.heap.size + 1, 1, none⟩) (by simp) (.int .u8 ((m1.toNat : Int) * 2 % 256 + 1)))
          have HK' := Lib.hid ((HK.out.setCell (p := ⟨w.heap.size + 1, 1, none⟩) (fun hl => absurd hl (by simp)) (.int .u8 ((m1.toNat : Int) * 2 % 256))).setCell (p := ⟨w.heap.size + 1, 1, none⟩) (fun hl => absurd hl (by simp)) (.int .u8 ((m1.toNat : Int) * 2 % 256 + 1)))
          clear hb1 hst hnext hmm hlen hd
          go_wp2
          go_roundw
          case rel => exact ⟨12, by omega, rfl, HB0'.out, HST.out, HK'.out⟩
          case measure => simp [intOf]
        · rw [if_neg (by exact hkn)] at hnext
          have hd := dbl0 m1
          have hst := hb1.set 1 (.int .u8 ((m1.toNat : Int) * 2 % 256))
          rw [hd, bys_set2] at hst
          have HST := Lib.hid (show Blo (wr.setCell ⟨w.heap.size + 1, 1, none⟩ (.int .u8 ((m1.toNat : Int) * 2 % 256))) (w.heap.size + 1) 22 (bys (bst n 12)).toArray by rw [hnext, hd]; exact hst)
          have HB0' := Lib.hid (HB0.out.far (p := ⟨w.heap.size + 1, 1, none⟩) (by simp) (.int .u8 ((m1.toNat : Int) * 2 % 256)))
          have HK' := Lib.hid (HK.out.setCell (p := ⟨w.heap.size + 1, 1, none⟩) (fun hl => absurd hl (by simp)) (.int .u8 ((m1.toNat : Int) * 2 % 256)))
          clear hb1 hst hnext hmm hlen hd
          go_wp2
          go_roundw
          case rel => exact ⟨12, by omega, rfl, HB0'.out, HST.out, HK'.out⟩
          case measure => simp [intOf]
      · rw [show ((12 : Nat) : Int) = 12 from rfl]
        have x0 := hb1.cell 1
        simp [bys] at x0
        have x1 := hb1.frozen 1
        by_cases hkn : (12 : Int) < n
        · rw [if_pos (by exact hkn)] at hnext
          have hd := dbl1 m1
          have hst := (hb1.set 1 (.int .u8 ((m1.toNat : Int) * 2 % 256))).set 1 (.int .u8 ((m1.toNat : Int) * 2 % 256 + 1))
          rw [Array.setIfInBounds_setIfInBounds, hd, bys_set2] at hst
          have HST := Lib.hid (show Blo ((wr.setCell ⟨w.heap.size + 1, 1, none⟩ (.int .u8 ((m1.toNat : Int) * 2 % 256))).setCell ⟨w.heap.size + 1, 1, none⟩ (.int .u8 ((m1.toNat : Int) * 2 % 256 + 1))) (w.heap.size + 1) 22 (bys (bst n 13)).toArray by rw [hnext, hd]; exact hst)
          have HB0' := Lib.hid ((HB0.out.far (p := ⟨w.heap.size + 1, 1, none⟩) (by simp) (.int .u8 ((m1.toNat : Int) * 2 % 256))).far (p := ⟨w.heap.size + 1, 1, none⟩) (by simp) (.int .u8 ((m1.toNat : Int) * 2 % 256 + 1)))
          have HK' := Lib.hid ((HK.out.setCell (p := ⟨w.heap.size + 1, 1, none⟩) (fun hl => absurd hl (by simp)) (.int .u8 ((m1.toNat : Int) * 2 % 256))).setCell (p := ⟨w.heap.size + 1, 1, none⟩) (fun hl => absurd hl (by simp)) (.int .u8 ((m1.toNat : Int) * 2 % 256 + 1)))
          clear hb1 hst hnext hmm hlen hd
          go_wp2
          go_roundw
          case rel => exact ⟨13, by omega, rfl, HB0'.out, HST.out, HK'.out⟩
          case measure => simp [intOf]
        · rw [if_neg (by exact hkn)] at hnext
          have hd := dbl0 m1
          have hst := hb1.set 1 (.int .u8 ((m1.toNat : Int) * 2 % 256))
          rw [hd, bys_set2] at hst
          have HST := Lib.hid (show Blo (wr.setCell ⟨w.heap.size + 1, 1, none⟩ (.int .u8 ((m1.toNat : Int) * 2 % 256))) (w.heap.size + 1) 22 (bys (bst n 13)).toArray by rw [hnext, hd]; exact hst)
          have HB0' := Lib.hid (HB0.out.far (p := ⟨w.heap.size + 1, 1, none⟩) (by simp) (.int .u8 ((m1.toNat : Int) * 2 % 256)))
          have HK' := Lib.hid (HK.out.setCell (p := ⟨w.heap.size + 1, 1, none⟩) (fun hl => absurd hl (by simp)) (.int .u8 ((m1.toNat : Int) * 2 % 256)))
          clear hb1 hst hnext hmm hlen hd
          go_wp2
          go_roundw
          case rel => exact ⟨13, by omega, rfl, HB0'.out, HST.out, HK'.out⟩
          case measure => simp [intOf]
      · rw [show ((13 : Nat) : Int) = 13 from rfl]
        have x0 := hb1.cell 1
        simp [bys] at x0
        have x1 := hb1.frozen 1
        by_cases hkn : (13 : Int) < n
        · rw [if_pos (by exact hkn)] at hnext
          have hd := dbl1 m1
          have hst := (hb1.set 1 (.int .u8 ((m1.toNat : Int) * 2 % 256))).set 1 (.int .u8 ((m1.toNat : Int) * 2 % 256 + 1))
          rw [Array.setIfInBounds_setIfInBounds, hd, bys_set2] at hst
          have HST := Lib.hid (show Blo ((wr.setCell ⟨w.heap.size + 1, 1, none⟩ (.int .u8 ((m1.toNat : Int) * 2 % 256))).setCell ⟨w.heap.size + 1, 1, none⟩ (.int .u8 ((m1.toNat : Int) * 2 % 256 + 1))) (w.heap.size + 1) 22 (bys (bst n 14)).toArray by rw [hnext, hd]; exact hst)
          have HB0' := Lib.hid ((HB0.out.far (p := ⟨w.heap.size + 1, 1, none⟩) (by simp) (.int .u8 ((m1.toNat : Int) * 2 % 256))).far (p := ⟨w.heap.size + 1, 1, none⟩) (by simp) (.int .u8 ((m1.toNat : Int) * 2 % 256 + 1)))
          have HK' := Lib.hid ((HK.out.setCell (p := ⟨w.heap.size + 1, 1, none⟩) (fun hl => absurd hl (by simp)) (.int .u8 ((m1.toNat : Int) * 2 % 256))).setCell (p := ⟨w.heap.size + 1, 1, none⟩) (fun hl => absurd hl (by simp)) (.int .u8 ((m1.toNat : Int) * 2 % 256 + 1)))
          clear hb1 hst hnext hmm hlen hd
          go_wp2
          go_roundw
          case rel => exact ⟨14, by omega, rfl, HB0'.out, HST.out, HK'.out⟩
          case measure => simp [intOf]
        · rw [if_neg (by exact hkn)] at hnext
          have hd := dbl0 m1
          have hst := hb1.set 1 (.int .u8 ((m1.toNat : Int) * 2 % 256))
          rw [hd, bys_set2] at hst
          have HST := Lib.hid (show Blo (wr.setCell ⟨w.heap.size + 1, 1, none⟩ (.int .u8 ((m1.toNat : Int) * 2 % 256))) (w.heap.size + 1) 22 (bys (bst n 14)).toArray by rw [hnext, hd]; exact hst)
          have HB0' := Lib.hid (HB0.out.far (p := ⟨w.heap.size + 1, 1, none⟩) (by simp) (.int .u8 ((m1.toNat : Int) * 2 % 256)))
          have HK' := Lib.hid (HK.out.setCell (p := ⟨w.heap.size + 1, 1, none⟩) (fun hl => absurd hl (by simp)) (.int .u8 ((m1.toNat : Int) * 2 % 256)))
          clear hb1 hst hnext hmm hlen hd
          go_wp2
          go_roundw
          case rel => exact ⟨14, by omega, rfl, HB0'.out, HST.out, HK'.out⟩
          case measure => simp [intOf]
      · rw [show ((14 : Nat) : Int) = 14 from rfl]
        have x0 := hb1.cell 1
        simp [bys] at x0
        have x1 := hb1.frozen 1
        by_cases hkn : (14 : Int) < n
        · rw [if_pos (by exact hkn)] at hnext
          have hd := dbl1 m1
          have hst := (hb1.set 1 (.int .u8 ((m1.toNat : Int) * 2 % 256))).set 1 (.int .u8 ((m1.toNat : Int) * 2 % 256 + 1))
          rw [Array.setIfInBounds_setIfInBounds, hd, bys_set2] at hst
          have HST := Lib.hid (show Blo ((wr.setCell ⟨w.heap.size + 1, 1, none⟩ (.int .u8 ((m1.toNat : Int) * 2 % 256))).setCell ⟨w.heap.size + 1, 1, none⟩ (.int .u8 ((m1.toNat : Int) * 2 % 256 + 1))) (w.heap.size + 1) 22 (bys (bst n 15)).toArray by rw [hnext, hd]; exact hst)
          have HB0' := Lib.hid ((HB0.out.far (p := ⟨w.heap.size + 1, 1, none⟩) (by simp) (.int .u8 ((m1.toNat : Int) * 2 % 256))).far (p := ⟨w.heap.size + 1, 1, none⟩) (by simp) (.int .u8 ((m1.toNat : Int) * 2 % 256 + 1)))
          have HK' := Lib.hid ((HK.out.setCell (p := ⟨w.heap.size + 1, 1, none⟩) (fun hl => absurd hl (by simp)) (.int .u8 ((m1.toNat : Int) * 2 % 256))).setCell (p := ⟨w.heap.size + 1, 1, none⟩) (fun hl => absurd hl (by simp)) (.int .u8 ((m1.toNat : Int) * 2 % 256 + 1)))
          clear hb1 hst hnext hmm hlen hd
          go_wp2
          go_roundw
          case rel => exact ⟨15, by omega, rfl, HB0'.out, HST.out, HK'.out⟩
          case measure => simp [intOf]
        · rw [if_neg (by exact hkn)] at hnext
          have hd := dbl0 m1
          have hst := hb1.set 1 (.int .u8 ((m1.toNat : Int) * 2 % 256))
          rw [hd, bys_set2] at hst
          have HST := Lib.hid (show Blo (wr.setCell ⟨w.heap.size + 1, 1, none⟩ (.int .u8 ((m1.toNat : Int) * 2 % 256))) (w.heap.size + 1) 22 (bys (bst n 15)).toArray by rw [hnext, hd]; exact hst)
          have HB0' := Lib.hid (HB0.out.far (p := ⟨w.heap.size + 1, 1, none⟩) (by simp) (.int .u8 ((m1.toNat : Int) * 2 % 256)))
          have HK' := Lib.hid (HK.out.setCell (p := ⟨w.heap.size + 1, 1, none⟩) (fun hl => absurd hl (by simp)) (.int .u8 ((m1.toNat : Int) * 2 % 256)))
          clear hb1 hst hnext hmm hlen hd
          go_wp2
          go_roundw
          case rel => exact ⟨15, by omega, rfl, HB0'.out, HST.out, HK'.out⟩
          case measure => simp [intOf]
      · rw [show ((15 : Nat) : Int) = 15 from rfl]
        have x0 := hb1.cell 1
        simp [bys] at x0
        have x1 := hb1.frozen 1
        by_cases hkn : (15 : Int) < n
        · rw [if_pos (by exact hkn)] at hnext
          have hd := dbl1 m1
          have hst := (hb1.set 1 (.int .u8 ((m1.toNat : Int) * 2 % 256))).set 1 (.int .u8 ((m1.toNat : Int) * 2 % 256 + 1))
          rw [Array.setIfInBounds_setIfInBounds, hd, bys_set2] at hst
          have HST := Lib.hid (show Blo ((wr.setCell ⟨w.heap.size + 1, 1, none⟩ (.int .u8 ((m1.toNat : Int) * 2 % 256))).setCell ⟨w.heap.size + 1, 1, none⟩ (.int .u8 ((m1.toNat : Int) * 2 % 256 + 1))) (w.heap.size + 1) 22 (bys (bst n 16)).toArray by rw [hnext, hd]; exact hst)
          have HB0' := Lib.hid ((HB0.out.far (p := ⟨w.heap.size + 1, 1, none⟩) (by simp) (.int .u8 ((m1.toNat : Int) * 2 % 256))).far (p := ⟨w.heap.size + 1, 1, none⟩) (by simp) (.int .u8 ((m1.toNat : Int) * 2 % 256 + 1)))
          have HK' := Lib.hid ((HK.out.setCell (p := ⟨w.heap.size + 1, 1, none⟩) (fun hl => absurd hl (by simp)) (.int .u8 ((m1.toNat : Int) * 2 % 256))).setCell (p := ⟨w.heap.size + 1, 1, none⟩) (fun hl => absurd hl (by simp)) (.int .u8 ((m1.toNat : Int) * 2 % 256 + 1)))
          clear hb1 hst hnext hmm hlen hd
          go_wp2
          go_roundw
          case rel => exact ⟨16, by omega, rfl, HB0'.out, HST.out, HK'.out⟩
          case measure => simp [intOf]
        · rw [if_neg (by exact hkn)] at hnext
          have hd := dbl0 m1
          have hst := hb1.set 1 (.int .u8 ((m1.toNat : Int) * 2 % 256))
          rw [hd, bys_set2] at hst
          have HST := Lib.hid (show Blo (wr.setCell ⟨w.heap.size + 1, 1, none⟩ (.int .u8 ((m1.toNat : Int) * 2 % 256))) (w.heap.size + 1) 22 (bys (bst n 16)).toArray by rw [hnext, hd]; exact hst)
          have HB0' := Lib.hid (HB0.out.far (p := ⟨w.heap.size + 1, 1, none⟩) (by simp) (.int .u8 ((m1.toNat : Int) * 2 % 256)))
          have HK' := Lib.hid (HK.out.setCell (p := ⟨w.heap.size + 1, 1, none⟩) (fun hl => absurd hl (by simp)) (.int .u8 ((m1.toNat : Int) * 2 % 256)))
          clear hb1 hst hnext hmm hlen hd
          go_wp2
          go_roundw
          case rel => exact ⟨16, by omega, rfl, HB0'.out, HST.out, HK'.out⟩
          case measure => simp [intOf]
      · rw [show ((16 : Nat) : Int) = 16 from rfl]
        have x0 := hb1.cell 2
        simp [bys] at x0
        have x1 := hb1.frozen 2
        by_cases hkn : (16 : Int) < n
        · rw [if_pos (by exact hkn)] at hnext
          have hd := dbl1 m2
          have hst := (hb1.set 2 (.int .u8 ((m2.toNat : Int) * 2 % 256))).set 2 (.int .u8 ((m2.toNat : Int) * 2 % 256 + 1))
          rw [Array.setIfInBounds_setIfInBounds, hd, bys_set2] at hst
          have HST := Lib.hid (show Blo ((wr.setCell ⟨w.heap.size + 1, 2, none⟩ (.int .u8 ((m2.toNat : Int) * 2 % 256))).setCell ⟨w.heap.size + 1, 2, none⟩ (.int .u8 ((m2.toNat : Int) * 2 % 256 + 1))) (w.heap.size + 1) 22 (bys (bst n 17)).toArray by rw [hnext, hd]; exact hst)
          have HB0' := Lib.hid ((HB0.out.far (p := ⟨w.heap.size + 1, 2, none⟩) (by simp) (.int .u8 ((m2.toNat : Int) * 2 % 256))).far (p := ⟨w.heap.size + 1, 2, none⟩) (by simp) (.int .u8 ((m2.toNat : Int) * 2 % 256 + 1)))
          have HK' := Lib.hid ((HK.out.setCell (p := ⟨w.heap.size + 1, 2, none⟩) (fun hl => absurd hl (by simp)) (.int .u8 ((m2.toNat : Int) * 2 % 256))).setCell (p := ⟨w.heap.size + 1, 2, none⟩) (fun hl => absurd hl (by simp)) (.int .u8 ((m2.toNat : Int) * 2 % 256 + 1)))
          clear hb1 hst hnext hmm hlen hd
          go_wp2
          go_roundw
          case rel => exact ⟨17, by omega, rfl, HB0'.out, HST.out, HK'.out⟩
          case measure => simp [intOf]
        · rw [if_neg (by exact hkn)] at hnext
          have hd := dbl0 m2
          have hst := hb1.set 2 (.int .u8 ((m2.toNat : Int) * 2 % 256))
          rw [hd, bys_set2] at hst
          have HST := Lib.hid (show Blo (wr.setCell ⟨w.heap.size + 1, 2, none⟩ (.int .u8 ((m2.toNat : Int) * 2 % 256))) (w.heap.size + 1) 22 (bys (bst n 17)).toArray by rw [hnext, hd]; exact hst)
          have HB0' := Lib.hid (HB0.out.far (p := ⟨w.heap.size + 1, 2, none⟩) (by simp) (.int .u8 ((m2.toNat : Int) * 2 % 256)))
          have HK' := Lib.hid (HK.out.setCell (p := ⟨w.heap.size + 1, 2, none⟩) (fun hl => absurd hl (by simp)) (.int .u8 ((m2.toNat : Int) * 2 % 256)))
          clear hb1 hst hnext hmm hlen hd
          go_wp2
          go_roundw
          case rel => exact ⟨17, by omega, rfl, HB0'.out, HST.out, HK'.out⟩
          case measure => simp [intOf]
      · rw [show ((17 : Nat) : Int) = 17 from rfl]
        have x0 := hb1.cell 2
        simp [bys] at x0
        have x1 := hb1.frozen 2
        by_cases hkn : (17 : Int) < n
        · rw [if_pos (by exact hkn)] at hnext
          have hd := dbl1 m2
          have hst := (hb1.set 2 (.int .u8 ((m2.toNat : Int) * 2 % 256))).set 2 (.int .u8 ((m2.toNat : Int) * 2 % 256 + 1))
          rw [Array.setIfInBounds_setIfInBounds, hd, bys_set2] at hst
          have HST := Lib.hid (show Blo ((wr.setCell ⟨w.heap.size + 1, 2, none⟩ (.int .u8 ((m2.toNat : Int) * 2 % 256))).setCell ⟨w.heap.size + 1, 2, none⟩ (.int .u8 ((m2.toNat : Int) * 2 % 256 + 1))) (w.heap.size + 1) 22 (bys (bst n 18)).toArray by rw [hnext, hd]; exact hst)
          have HB0' := Lib.hid ((HB0.out.far (p := ⟨w.heap.size + 1, 2, none⟩) (by simp) (.int .u8 ((m2.toNat : Int) * 2 % 256))).far (p := ⟨w.heap.size + 1, 2, none⟩) (by simp) (.int .u8 ((m2.toNat : Int) * 2 % 256 + 1)))
          have HK' := Lib.hid ((HK.out.setCell (p := ⟨w.heap.size + 1, 2, none⟩) (fun hl => absurd hl (by simp)) (.int .u8 ((m2.toNat : Int) * 2 % 256))).setCell (p := ⟨w.heap.size + 1, 2, none⟩) (fun hl => absurd hl (by simp)) (.int .u8 ((m2.toNat : Int) * 2 % 256 + 1)))
          clear hb1 hst hnext hmm hlen hd
          go_wp2
          go_roundw
          case rel => exact ⟨18, by omega, rfl, HB0'.out, HST.out, HK'.out⟩
          case measure => simp [intOf]
        · rw [if_neg (by exact hkn)] at hnext
          have hd := dbl0 m2
          have hst := hb1.set 2 (.int .u8 ((m2.toNat : Int) * 2 % 256))
          rw [hd, bys_set2] at hst
          have HST := Lib.hid (show Blo (wr.setCell ⟨w.heap.size + 1, 2, none⟩ (.int .u8 ((m2.toNat : Int) * 2 % 256))) (w.heap.size + 1) 22 (bys (bst n 18)).toArray by rw [hnext, hd]; exact hst)
          have HB0' := Lib.hid (HB0.out.far (p := ⟨w.heap.size + 1, 2, none⟩) (by simp) (.int .u8 ((m2.toNat : Int) * 2 % 256)))
          have HK' := Lib.hid (HK.out.setCell (p := ⟨w.heap.size + 1, 2, none⟩) (fun hl => absurd hl (by simp)) (.int .u8 ((m2.toNat : Int) * 2 % 256)))
          clear hb1 hst hnext hmm hlen hd
          go_wp2
          go_roundw
          case rel => exact ⟨18, by omega, rfl, HB0'.out, HST.out, HK'.out⟩
          case measure => simp [intOf]
      · rw [show ((18 : Nat) : Int) = 18 from rfl]
        have x0 := hb1.cell 2
        simp [bys] at x0
        have x1 := hb1.frozen 2
        by_cases hkn : (18 : Int) < n
        · rw [if_pos (by exact hkn)] at hnext
          have hd := dbl1 m2
          have hst := (hb1.set 2 (.int .u8 ((m2.toNat : Int) * 2 % 256))).set 2 (.int .u8 ((m2.toNat : Int) * 2 % 256 + 1))
          rw [Array.setIfInBounds_setIfInBounds, hd, bys_set2] at hst
          have HST := Lib.hid (show Blo ((wr.setCell ⟨w.heap.size + 1, 2, none⟩ (.int .u8 ((m2.toNat : Int) * 2 % 256))).setCell ⟨w.heap.size + 1, 2, none⟩ (.int .u8 ((m2.toNat : Int) * 2 % 256 + 1))) (w.heap.size + 1) 22 (bys (bst n 19)).toArray by rw [hnext, hd]; exact hst)
          have HB0' := Lib.hid ((HB0.out.far (p := ⟨w.heap.size + 1, 2, none⟩) (by simp) (.int .u8 ((m2.toNat : Int) * 2 % 256))).far (p := ⟨w.heap.size + 1, 2, none⟩) (by simp) (.int .u8 ((m2.toNat : Int) * 2 % 256 + 1)))
          have HK' := Lib.hid ((HK.out.setCell (p := ⟨w.heap.size + 1, 2, none⟩) (fun hl => absurd hl (by simp)) (.int .u8 ((m2.toNat : Int) * 2 % 256))).setCell (p := ⟨w.heap.size + 1, 2, none⟩) (fun hl => absurd hl (by simp)) (.int .u8 ((m2.toNat : Int) * 2 % 256 + 1)))
          clear hb1 hst hnext hmm hlen hd
          go_wp2
          go_roundw
          case rel => exact ⟨19, by omega, rfl, HB0'.out, HST.out, HK'.out⟩
          case measure => simp [intOf]
        · rw [if_neg (by exact hkn)] at hnext
          have hd := dbl0 m2
          have hst := hb1.set 2 (.int .u8 ((m2.toNat : Int) * 2 % 256))
          rw [hd, bys_set2] at hst
          have HST := Lib.hid (show Blo (wr.setCell ⟨w.heap.size + 1, 2, none⟩ (.int .u8 ((m2.toNat : Int) * 2 % 256))) (w.heap.size + 1) 22 (bys (bst n 19)).toArray by rw [hnext, hd]; exact hst)
          have HB0' := Lib.hid (HB0.out.far (p := ⟨w.heap.size + 1, 2, none⟩) (by simp) (.int .u8 ((m2.toNat : Int) * 2 % 256)))
          have HK' := Lib.hid (HK.out.setCell (p := ⟨w.heap.size + 1, 2, none⟩) (fun hl => absurd hl (by simp)) (.int .u8 ((m2.toNat : Int) * 2 % 256)))
          clear hb1 hst hnext hmm hlen hd
          go_wp2
          go_roundw
          case rel => exact ⟨19, by omega, rfl, HB0'.out, HST.out, HK'.out⟩
          case measure => simp [intOf]
      · rw [show ((19 : Nat) : Int) = 19 from rfl]
        have x0 := hb1.cell 2
        simp [bys] at x0
        have x1 := hb1.frozen 2
        by_cases hkn : (19 : Int) < n
        · rw [if_pos (by exact hkn)] at hnext
          have hd := dbl1 m2
          have hst := (hb1.set 2 (.int .u8 ((m2.toNat : Int) * 2 % 256))).set 2 (.int .u8 ((m2.toNat : Int) * 2 % 256 + 1))
          rw [Array.setIfInBounds_setIfInBounds, hd, bys_set2] at hst
          have HST := Lib.hid (show Blo ((wr.setCell ⟨w.heap.size + 1, 2, none⟩ (.int .u8 ((m2.toNat : Int) * 2 % 256))).setCell ⟨w.heap.size + 1, 2, none⟩ (.int .u8 ((m2.toNat : Int) * 2 % 256 + 1))) (w.heap.size + 1) 22 (bys (bst n 20)).toArray by rw [hnext, hd]; exact hst)
          have HB0' := Lib.hid ((HB0.out.far (p := ⟨w.heap.size + 1, 2, none⟩) (by simp) (.int .u8 ((m2.toNat : Int) * 2 % 256))).far (p := ⟨w.heap.size + 1, 2, none⟩) (by simp) (.int .u8 ((m2.toNat : Int) * 2 % 256 + 1)))
          have HK' := Lib.hid ((HK.out.setCell (p := ⟨w.heap.size + 1, 2, none⟩) (fun hl => absurd hl (by simp)) (.int .u8 ((m2.toNat : Int) * 2 % 256))).setCell (p := ⟨w.heap.size + 1, 2, none⟩) (fun hl => absurd hl (by simp)) (.int .u8 ((m2.toNat : Int) * 2 % 256 + 1)))
          clear hb1 hst hnext hmm hlen hd
          go_wp2
          go_roundw
          case rel => exact ⟨20, by omega, rfl, HB0'.out, HST.out, HK'.out⟩
          case measure => simp [intOf]
        · rw [if_neg (by exact hkn)] at hnext
          have hd := dbl0 m2
          have hst := hb1.set 2 (.int .u8 ((m2.toNat : Int) * 2 % 256))
          rw [hd, bys_set2] at hst
          have HST := Lib.hid (show Blo (wr.setCell ⟨w.heap.size + 1, 2, none⟩ (.int .u8 ((m2.toNat : Int) * 2 % 256))) (w.heap.size + 1) 22 (bys (bst n 20)).toArray by rw [hnext, hd]; exact hst)
          have HB0' := Lib.hid (HB0.out.far (p := ⟨w.heap.size + 1, 2, none⟩) (by simp) (.int .u8 ((m2.toNat : Int) * 2 % 256)))
          have HK' := Lib.hid (HK.out.setCell (p := ⟨w.heap.size + 1, 2, none⟩) (fun hl => absurd hl (by simp)) (.int .u8 ((m2.toNat : Int) * 2 % 256)))
          clear hb1 hst hnext hmm hlen hd
          go_wp2
          go_roundw
          case rel => exact ⟨20, by omega, rfl, HB0'.out, HST.out, HK'.out⟩
          case measure => simp [intOf]
      · rw [show ((20 : Nat) : Int) = 20 from rfl]
        have x0 := hb1.cell 2
        simp [bys] at x0
        have x1 := hb1.frozen 2
        by_cases hkn : (20 : Int) < n
        · rw [if_pos (by exact hkn)] at hnext
          have hd := dbl1 m2
          have hst := (hb1.set 2 (.int .u8 ((m2.toNat : Int) * 2 % 256))).set 2 (.int .u8 ((m2.toNat : Int) * 2 % 256 + 1))
          rw [Array.setIfInBounds_setIfInBounds, hd, bys_set2] at hst
          have HST := Lib.hid (show Blo ((wr.setCell ⟨w.heap.size + 1, 2, none⟩ (.int .u8 ((m2.toNat : Int) * 2 % 256))).setCell ⟨w.heap.size + 1, 2, none⟩ (.int .u8 ((m2.toNat : Int) * 2 % 256 + 1))) (w.heap.size + 1) 22 (bys (bst n 21)).toArray by rw [hnext, hd]; exact hst)
          have HB0' := Lib.hid ((HB0.out.far (p := ⟨w.heap.size + 1, 2, none⟩) (by simp) (.int .u8 ((m2.toNat : Int) * 2 % 256))).far (p := ⟨w.heap.size + 1, 2, none⟩) (by simp) (.int .u8 ((m2.toNat : Int) * 2 % 256 + 1)))
          have HK' := Lib.hid ((HK.out.setCell (p := ⟨w.heap.size + 1, 2, none⟩) (fun hl => absurd hl (by simp)) (.int .u8 ((m2.toNat : Int) * 2 % 256))).setCell (p := ⟨w.heap.size + 1, 2, none⟩) (fun hl => absurd hl (by simp)) (.int .u8 ((m2.toNat : Int) * 2 % 256 + 1)))
          clear hb1 hst hnext hmm hlen hd
          go_wp2
          go_roundw
          case rel => exact ⟨21, by omega, rfl, HB0'.out, HST.out, HK'.out⟩
          case measure => simp [intOf]
        · rw [if_neg (by exact hkn)] at hnext
          have hd := dbl0 m2
          have hst := hb1.set 2 (.int .u8 ((m2.toNat : Int) * 2 % 256))
          rw [hd, bys_set2] at hst
          have HST := Lib.hid (show Blo (wr.setCell ⟨w.heap.size + 1, 2, none⟩ (.int .u8 ((m2.toNat : Int) * 2 % 256))) (w.heap.size + 1) 22 (bys (bst n 21)).toArray by rw [hnext, hd]; exact hst)
          have HB0' := Lib.hid (HB0.out.far (p := ⟨w.heap.size + 1, 2, none⟩) (by simp) (.int .u8 ((m2.toNat : Int) * 2 % 256)))
          have HK' := Lib.hid (HK.out.setCell (p := ⟨w.heap.size + 1, 2, none⟩) (fun hl => absurd hl (by simp)) (.int .u8 ((m2.toNat : Int) * 2 % 256)))
          clear hb1 hst hnext hmm hlen hd
          go_wp2
          go_roundw
          case rel => exact ⟨21, by omega, rfl, HB0'.out, HST.out, HK'.out⟩
          case measure => simp [intOf]
      · rw [show ((21 : Nat) : Int) = 21 from rfl]
        have x0 := hb1.cell 2
        simp [bys] at x0
        have x1 := hb1.frozen 2
        by_cases hkn : (21 : Int) < n
        · rw [if_pos (by exact hkn)] at hnext
          have hd := dbl1 m2
          have hst := (hb1.set 2 (.int .u8 ((m2.toNat : Int) * 2 % 256))).set 2 (.int .u8 ((m2.toNat : Int) * 2 % 256 + 1))
          rw [Array.setIfInBounds_setIfInBounds, hd, bys_set2] at hst
          have HST := Lib.hid (show Blo ((wr.setCell ⟨w.heap.size + 1, 2, none⟩ (.int .u8 ((m2.toNat : Int) * 2 % 256))).setCell ⟨w.heap.size + 1, 2, none⟩ (.int .u8 ((m2.toNat : Int) * 2 % 256 + 1))) (w.heap.size + 1) 22 (bys (bst n 22)).toArray by rw [hnext, hd]; exact hst)
          have HB0' := Lib.hid ((HB0.out.far (p := ⟨w.heap.size + 1, 2, none⟩) (by simp) (.int .u8 ((m2.toNat : Int) * 2 % 256))).far (p := ⟨w.heap.size + 1, 2, none⟩) (by simp) (.int .u8 ((m2.toNat : Int) * 2 % 256 + 1)))
          have HK' := Lib.hid ((HK.out.setCell (p := ⟨w.heap.size + 1, 2, none⟩) (fun hl => absurd hl (by simp)) (.int .u8 ((m2.toNat : Int) * 2 % 256))).setCell (p := ⟨w.heap.size + 1, 2, none⟩) (fun hl => absurd hl (by simp)) (.int .u8 ((m2.toNat : Int) * 2 % 256 + 1)))
          clear hb1 hst hnext hmm hlen hd
          go_wp2
          go_roundw
          case rel => exact ⟨22, by omega, rfl, HB0'.out, HST.out, HK'.out⟩
          case measure => simp [intOf]
        · rw [if_neg (by exact hkn)] at hnext
          have hd := dbl0 m2
          have hst := hb1.set 2 (.int .u8 ((m2.toNat : Int) * 2 % 256))
          rw [hd, bys_set2] at hst
          have HST := Lib.hid (show Blo (wr.setCell ⟨w.heap.size + 1, 2, none⟩ (.int .u8 ((m2.toNat : Int) * 2 % 256))) (w.heap.size + 1) 22 (bys (bst n 22)).toArray by rw [hnext, hd]; exact hst)
          have HB0' := Lib.hid (HB0.out.far (p := ⟨w.heap.size + 1, 2, none⟩) (by simp) (.int .u8 ((m2.toNat : Int) * 2 % 256)))
          have HK' := Lib.hid (HK.out.setCell (p := ⟨w.heap.size + 1, 2, none⟩) (fun hl => absurd hl (by simp)) (.int .u8 ((m2.toNat : Int) * 2 % 256)))
          clear hb1 hst hnext hmm hlen hd
          go_wp2
          go_roundw
          case rel => exact ⟨22, by omega, rfl, HB0'.out, HST.out, HK'.out⟩
          case measure => simp [intOf]
      · rw [show ((22 : Nat) : Int) = 22 from rfl]
        have x0 := hb1.cell 2
        simp [bys] at x0
        have x1 := hb1.frozen 2
        by_cases hkn : (22 : Int) < n
        · rw [if_pos (by exact hkn)] at hnext
          have hd := dbl1 m2
          have hst := (hb1.set 2 (.int .u8 ((m2.toNat : Int) * 2 % 256))).set 2 (.int .u8 ((m2.toNat : Int) * 2 % 256 + 1))
          rw [Array.setIfInBounds_setIfInBounds, hd, bys_set2] at hst
          have HST := Lib.hid (show Blo ((wr.setCell ⟨w.heap.size + 1, 2, none⟩ (.int .u8 ((m2.toNat : Int) * 2 % 256))).setCell ⟨w.heap.size + 1, 2, none⟩ (.int .u8 ((m2.toNat : Int) * 2 % 256 + 1))) (w.heap.size + 1) 22 (bys (bst n 23)).toArray by rw [hnext, hd]; exact hst)
          have HB0' := Lib.hid ((HB0.out.far (p := ⟨w.heap.size + 1, 2, none⟩) (by simp) (.int .u8 ((m2.toNat : Int) * 2 % 256))).far (p := ⟨w.heap.size + 1, 2, none⟩) (by simp) (.int .u8 ((m2.toNat : Int) * 2 % 256 + 1)))
          have HK' := Lib.hid ((HK.out.setCell (p := ⟨w.heap.size + 1, 2, none⟩) (fun hl => absurd hl (by simp)) (.int .u8 ((m2.toNat : Int) * 2 % 256))).setCell (p := ⟨w.heap.size + 1, 2, none⟩) (fun hl => absurd hl (by simp)) (.int .u8 ((m2.toNat : Int) * 2 % 256 + 1)))
          clear hb1 hst hnext hmm hlen hd
          go_wp2
          go_roundw
          case rel => exact ⟨23, by omega, rfl, HB0'.out, HST.out, HK'.out⟩
          case measure => simp [intOf]
        · rw [if_neg (by exact hkn)] at hnext
          have hd := dbl0 m2
          have hst := hb1.set 2 (.int .u8 ((m2.toNat : Int) * 2 % 256))
          rw [hd, bys_set2] at hst
          have HST := Lib.hid (show Blo (wr.setCell ⟨w.heap.size + 1, 2, none⟩ (.int .u8 ((m2.toNat : Int) * 2 % 256))) (w.heap.size + 1) 22 (bys (bst n 23)).toArray by rw [hnext, hd]; exact hst)
          have HB0' := Lib.hid (HB0.out.far (p := ⟨w.heap.size + 1, 2, none⟩) (by simp) (.int .u8 ((m2.toNat : Int) * 2 % 256)))
          have HK' := Lib.hid (HK.out.setCell (p := ⟨w.heap.size + 1, 2, none⟩) (fun hl => absurd hl (by simp)) (.int .u8 ((m2.toNat : Int) * 2 % 256)))
          clear hb1 hst hnext hmm hlen hd
          go_wp2
          go_roundw
          case rel => exact ⟨23, by omega, rfl, HB0'.out, HST.out, HK'.out⟩
          case measure => simp [intOf]
      · rw [show ((23 : Nat) : Int) = 23 from rfl]
        have x0 := hb1.cell 2
        simp [bys] at x0
        have x1 := hb1.frozen 2
        by_cases hkn : (23 : Int) < n
        · rw [if_pos (by exact hkn)] at hnext
          have hd := dbl1 m2
          have hst := (hb1.set 2 (.int .u8 ((m2.toNat : Int) * 2 % 256))).set 2 (.int .u8 ((m2.toNat : Int) * 2 % 256 + 1))
          rw [Array.setIfInBounds_setIfInBounds, hd, bys_set2] at hst
          have HST := Lib.hid (show Blo ((wr.setCell ⟨w.heap.size + 1, 2, none⟩ (.int .u8 ((m2.toNat : Int) * 2 % 256))).setCell ⟨w.heap.size + 1, 2, none⟩ (.int .u8 ((m2.toNat : Int) * 2 % 256 + 1))) (w.heap.size + 1) 22 (bys (bst n 24)).toArray by rw [hnext, hd]; exact hst)
          have HB0' := Lib.hid ((HB0.out.far (p := ⟨w.heap.size + 1, 2, none⟩) (by simp) (.int .u8 ((m2.toNat : Int) * 2 % 256))).far (p := ⟨w.heap.size + 1, 2, none⟩) (by simp) (.int .u8 ((m2.toNat : Int) * 2 % 256 + 1)))
          have HK' := Lib.hid ((HK.out.setCell (p := ⟨w.heap.size + 1, 2, none⟩) (fun hl => absurd hl (by simp)) (.int .u8 ((m2.toNat : Int) * 2 % 256))).setCell (p := ⟨w.heap.size + 1, 2, none⟩) (fun hl => absurd hl (by simp)) (.int .u8 ((m2.toNat : Int) * 2 % 256 + 1)))
          clear hb1 hst hnext hmm hlen hd
          go_wp2
          go_roundw
          case rel => exact ⟨24, by omega, rfl, HB0'.out, HST.out, HK'.out⟩
          case measure => simp [intOf]
        · rw [if_neg (by exact hkn)] at hnext
          have hd := dbl0 m2
          have hst := hb1.set 2 (.int .u8 ((m2.toNat : Int) * 2 % 256))
          rw [hd, bys_set2] at hst
          have HST := Lib.hid (show Blo (wr.setCell ⟨w.heap.size + 1, 2, none⟩ (.int .u8 ((m2.toNat : Int) * 2 % 256))) (w.heap.size + 1) 22 (bys (bst n 24)).toArray by rw [hnext, hd]; exact hst)
          have HB0' := Lib.hid (HB0.out.far (p := ⟨w.heap.size + 1, 2, none⟩) (by simp) (.int .u8 ((m2.toNat : Int) * 2 % 256)))
          have HK' := Lib.hid (HK.out.setCell (p := ⟨w.heap.size + 1, 2, none⟩) (fun hl => absurd hl (by simp)) (.int .u8 ((m2.toNat : Int) * 2 % 256)))
          clear hb1 hst hnext hmm hlen hd
          go_wp2
          go_roundw
          case rel => exact ⟨24, by omega, rfl, HB0'.out, HST.out, HK'.out⟩
          case measure => simp [intOf]
      · rw [show ((24 : Nat) : Int) = 24 from rfl]
        have x0 := hb1.cell 3
        simp [bys] at x0
        have x1 := hb1.frozen 3
        by_cases hkn : (24 : Int) < n
        · rw [if_pos (by exact hkn)] at hnext
          have hd := dbl1 m3
          have hst := (hb1.set 3 (.int .u8 ((m3.toNat : Int) * 2 % 256))).set 3 (.int .u8 ((m3.toNat : Int) * 2 % 256 + 1))
          rw [Array.setIfInBounds_setIfInBounds, hd, bys_set2] at hst
          have HST := Lib.hid (show Blo ((wr.setCell ⟨w.heap.size + 1, 3, none⟩ (.int .u8 ((m3.toNat : Int) * 2 % 256))).setCell ⟨w.heap.size + 1, 3, none⟩ (.int .u8 ((m3.toNat : Int) * 2 % 256 + 1))) (w.heap.size + 1) 22 (bys (bst n 25)).toArray by rw [hnext, hd]; exact hst)
          have HB0' := Lib.hid ((HB0.out.far (p := ⟨w.heap.size + 1, 3, none⟩) (by simp) (.int .u8 ((m3.toNat : Int) * 2 % 256))).far (p := ⟨w.heap.size + 1, 3, none⟩) (by simp) (.int .u8 ((m3.toNat : Int) * 2 % 256 + 1)))
          have HK' := Lib.hid ((HK.out.setCell (p := ⟨w.heap.size + 1, 3, none⟩) (fun hl => absurd hl (by simp)) (.int .u8 ((m3.toNat : Int) * 2 % 256))).setCell (p := ⟨w.heap.size + 1, 3, none⟩) (fun hl => absurd hl (by simp)) (.int .u8 ((m3.toNat : Int) * 2 % 256 + 1)))
          clear hb1 hst hnext hmm hlen hd
          go_wp2
          go_roundw
          case rel => exact ⟨25, by omega, rfl, HB0'.out, HST.out, HK'.out⟩
          case measure => simp [intOf]
        · rw [if_neg (by exact hkn)] at hnext
          have hd := dbl0 m3
          have hst := hb1.set 3 (.int .u8 ((m3.toNat : Int) * 2 % 256))
          rw [hd, bys_set2] at hst
          have HST := Lib.hid (show Blo (wr.setCell ⟨w.heap.size + 1, 3, none⟩ (.int .u8 ((m3.toNat : Int) * 2 % 256))) (w.heap.size + 1) 22 (bys (bst n 25)).toArray by rw [hnext, hd]; exact hst)
          have HB0' := Lib.hid (HB0.out.far (p := ⟨w.heap.size + 1, 3, none⟩) (by simp) (.int .u8 ((m3.toNat : Int) * 2 % 256)))
          have HK' := Lib.hid (HK.out.setCell (p := ⟨w.heap.size + 1, 3, none⟩) (fun hl => absurd hl (by simp)) (.int .u8 ((m3.toNat : Int) * 2 % 256)))
          clear hb1 hst hnext hmm hlen hd
          go_wp2
          go_roundw
          case rel => exact ⟨25, by omega, rfl, HB0'.out, HST.out, HK'.out⟩
          case measure => simp [intOf]
      · rw [show ((25 : Nat) : Int) = 25 from rfl]
        have x0 := hb1.cell 3
        simp [bys] at x0
        have x1 := hb1.frozen 3
        by_cases hkn : (25 : Int) < n
        · rw [if_pos (by exact hkn)] at hnext
          have hd := dbl1 m3
          have hst := (hb1.set 3 (.int .u8 ((m3.toNat : Int) * 2 % 256))).set 3 (.int .u8 ((m3.toNat : Int) * 2 % 256 + 1))
          rw [Array.setIfInBounds_setIfInBounds, hd, bys_set2] at hst
          have HST := Lib.hid (show Blo ((wr.setCell ⟨w.heap.size + 1, 3, none⟩ (.int .u8 ((m3.toNat : Int) * 2 % 256))).setCell ⟨w.heap.size + 1, 3, none⟩ (.int .u8 ((m3.toNat : Int) * 2 % 256 + 1))) (w.heap.size + 1) 22 (bys (bst n 26)).toArray by rw [hnext, hd]; exact hst)
          have HB0' := Lib.hid ((HB0.out.far (p := ⟨w.heap.size + 1, 3, none⟩) (by simp) (.int .u8 ((m3.toNat : Int) * 2 % 256))).far (p := ⟨w.heap.size + 1, 3, none⟩) (by simp) (.int .u8 ((m3.toNat : Int) * 2 % 256 + 1)))
          have HK' := Lib.hid ((HK.out.setCell (p := ⟨w.heap.size + 1, 3, none⟩) (fun hl => absurd hl (by simp)) (.int .u8 ((m3.toNat : Int) * 2 % 256))).setCell (p := ⟨w.heap.size + 1, 3, none⟩) (fun hl => absurd hl (by simp)) (.int .u8 ((m3.toNat : Int) * 2 % 256 + 1)))
          clear hb1 hst hnext hmm hlen hd
          go_wp2
          go_roundw
          case rel => exact ⟨26, by omega, rfl, HB0'.out, HST.out, HK'.out⟩
          case measure => simp [intOf]
        · rw [if_neg (by exact hkn)] at hnext
          have hd := dbl0 m3
          have hst := hb1.set 3 (.int .u8 ((m3.toNat : Int) * 2 % 256))
          rw [hd, bys_set2] at hst
          have HST := Lib.hid (show Blo (wr.setCell ⟨w.heap.size + 1, 3, none⟩ (.int .u8 ((m3.toNat : Int) * 2 % 256))) (w.heap.size + 1) 22 (bys (bst n 26)).toArray by rw [hnext, hd]; exact hst)
          have HB0' := Lib.hid (HB0.out.far (p := ⟨w.heap.size + 1, 3, none⟩) (by simp) (.int .u8 ((m3.toNat : Int) * 2 % 256)))
          have HK' := Lib.hid (HK.out.setCell (p := ⟨w.heap.size + 1, 3, none⟩) (fun hl => absurd hl (by simp)) (.int .u8 ((m3.toNat : Int) * 2 % 256)))
          clear hb1 hst hnext hmm hlen hd
          go_wp2
          go_roundw
          case rel => exact ⟨26, by omega, rfl, HB0'.out, HST.out, HK'.out⟩
          case measure => simp [intOf]
      · rw [show ((26 : Nat) : Int) = 26 from rfl]
        have x0 := hb1.cell 3
        simp [bys] at x0
        have x1 := hb1.frozen 3
        by_cases hkn : (26 : Int) < n
        · rw [if_pos (by exact hkn)] at hnext
          have hd := dbl1 m3
          have hst := (hb1.set 3 (.int .u8 ((m3.toNat : Int) * 2 % 256))).set 3 (.int .u8 ((m3.toNat : Int) * 2 % 256 + 1))
          rw [Array.setIfInBounds_setIfInBounds, hd, bys_set2] at hst
          have HST := Lib.hid (show Blo ((wr.setCell ⟨w.heap.size + 1, 3, none⟩ (.int .u8 ((m3.toNat : Int) * 2 % 256))).setCell ⟨w.heap.size + 1, 3, none⟩ (.int .u8 ((m3.toNat : Int) * 2 % 256 + 1))) (w.heap.size + 1) 22 (bys (bst n 27)).toArray by rw [hnext, hd]; exact hst)
          have HB0' := Lib.hid ((HB0.out.far (p := ⟨w.heap.size + 1, 3, none⟩) (by simp) (.int .u8 ((m3.toNat : Int) * 2 % 256))).far (p := ⟨w.heap.size + 1, 3, none⟩) (by simp) (.int .u8 ((m3.toNat : Int) * 2 % 256 + 1)))
          have HK' := Lib.hid ((HK.out.setCell (p := ⟨w.heap.size + 1, 3, none⟩) (fun hl => absurd hl (by simp)) (.int .u8 ((m3.toNat : Int) * 2 % 256))).setCell (p := ⟨w.heap.size + 1, 3, none⟩) (fun hl => absurd hl (by simp)) (.int .u8 ((m3.toNat : Int) * 2 % 256 + 1)))
          clear hb1 hst hnext hmm hlen hd
          go_wp2
          go_roundw
          case rel => exact ⟨27, by omega, rfl, HB0'.out, HST.out, HK'.out⟩
          case measure => simp [intOf]
        · rw [if_neg (by exact hkn)] at hnext
          have hd := dbl0 m3
          have hst := hb1.set 3 (.int .u8 ((m3.toNat : Int) * 2 % 256))
          rw [hd, bys_set2] at hst
          have HST := Lib.hid (show Blo (wr.setCell ⟨w.heap.size + 1, 3, none⟩ (.int .u8 ((m3.toNat : Int) * 2 % 256))) (w.heap.size + 1) 22 (bys (bst n 27)).toArray by rw [hnext, hd]; exact hst)
          have HB0' := Lib.hid (HB0.out.far (p := ⟨w.heap.size + 1, 3, none⟩) (by simp) (.int .u8 ((m3.toNat : Int) * 2 % 256)))
          have HK' := Lib.hid (HK.out.setCell (p := ⟨w.heap.size + 1, 3, none⟩) (fun hl => absurd hl (by simp)) (.int .u8 ((m3.toNat : Int) * 2 % 256)))
          clear hb1 hst hnext hmm hlen hd
          go_wp2
          go_roundw
          case rel => exact ⟨27, by omega, rfl, HB0'.out, HST.out, HK'.out⟩
          case measure => simp [intOf]
      · rw [show ((27 : Nat) : Int) = 27 from rfl]
        have x0 := hb1.cell 3
        simp [bys] at x0
        have x1 := hb1.frozen 3
        by_cases hkn : (27 : Int) < n
        · rw [if_pos (by exact hkn)] at hnext
          have hd := dbl1 m3
          have hst := (hb1.set 3 (.int .u8 ((m3.toNat : Int) * 2 % 256))).set 3 (.int .u8 ((m3.toNat : Int) * 2 % 256 + 1))
          rw [Array.setIfInBounds_setIfInBounds, hd, bys_set2] at hst
          have HST := Lib.hid (show Blo ((wr.setCell ⟨w.heap.size + 1, 3, none⟩ (.int .u8 ((m3.toNat : Int) * 2 % 256))).setCell ⟨w.heap.size + 1, 3, none⟩ (.int .u8 ((m3.toNat : Int) * 2 % 256 + 1))) (w.heap.size + 1) 22 (bys (bst n 28)).toArray by rw [hnext, hd]; exact hst)
          have HB0' := Lib.hid ((HB0.out.far (p := ⟨w.heap.size + 1, 3, none⟩) (by simp) (.int .u8 ((m3.toNat : Int) * 2 % 256))).far (p := ⟨w.heap.size + 1, 3, none⟩) (by simp) (.int .u8 ((m3.toNat : Int) * 2 % 256 + 1)))
          have HK' := Lib.hid ((HK.out.setCell (p := ⟨w.heap.size + 1, 3, none⟩) (fun hl => absurd hl (by simp)) (.int .u8 ((m3.toNat : Int) * 2 % 256))).setCell (p := ⟨w.heap.size + 1, 3, none⟩) (fun hl => absurd hl (by simp)) (.int .u8 ((m3.toNat : Int) * 2 % 256 + 1)))
          clear hb1 hst hnext hmm hlen hd
          go_wp2
          go_roundw
          case rel => exact ⟨28, by omega, rfl, HB0'.out, HST.out, HK'.out⟩
          case measure => simp [intOf]
        · rw [if_neg (by exact hkn)] at hnext
          have hd := dbl0 m3
          have hst := hb1.set 3 (.int .u8 ((m3.toNat : Int) * 2 % 256))
          rw [hd, bys_set2] at hst
          have HST := Lib.hid (show Blo (wr.setCell ⟨w.heap.size + 1, 3, none⟩ (.int .u8 ((m3.toNat : Int) * 2 % 256))) (w.heap.size + 1) 22 (bys (bst n 28)).toArray by rw [hnext, hd]; exact hst)
          have HB0' := Lib.hid (HB0.out.far (p := ⟨w.heap.size + 1, 3, none⟩) (by simp) (.int .u8 ((m3.toNat : Int) * 2 % 256)))
          have HK' := Lib.hid (HK.out.setCell (p := ⟨w.heap.size + 1, 3, none⟩) (fun hl => absurd hl (by simp)) (.int .u8 ((m3.toNat : Int) * 2 % 256)))
          clear hb1 hst hnext hmm hlen hd
          go_wp2
          go_roundw
          case rel => exact ⟨28, by omega, rfl, HB0'.out, HST.out, HK'.out⟩
          case measure => simp [intOf]
      · rw [show ((28 : Nat) : Int) = 28 from rfl]
        have x0 := hb1.cell 3
        simp [bys] at x0
        have x1 := hb1.frozen 3
        by_cases hkn : (28 : Int) < n
        · rw [if_pos (by exact hkn)] at hnext
          have hd := dbl1 m3
          have hst := (hb1.set 3 (.int .u8 ((m3.toNat : Int) * 2 % 256))).set 3 (.int .u8 ((m3.toNat : Int) * 2 % 256 + 1))
          rw [Array.setIfInBounds_setIfInBounds, hd, bys_set2] at hst
          have HST := Lib.hid (show Blo ((wr.setCell ⟨w.heap.size + 1, 3, none⟩ (.int .u8 ((m3.toNat : Int) * 2 % 256))).setCell ⟨w.heap.size + 1, 3, none⟩ (.int .u8 ((m3.toNat : Int) * 2 % 256 + 1))) (w.heap.size + 1) 22 (bys (bst n 29)).toArray by rw [hnext, hd]; exact hst)
          have HB0' := Lib.hid ((HB0.out.far (p := ⟨w.heap.size + 1, 3, none⟩) (by simp) (.int .u8 ((m3.toNat : Int) * 2 % 256))).far (p := ⟨w.heap.size + 1, 3, none⟩) (by simp) (.int .u8 ((m3.toNat : Int) * 2 % 256 + 1)))
          have HK' := Lib.hid ((HK.out.setCell (p := ⟨w.heap.size + 1, 3, none⟩) (fun hl => absurd hl (by simp)) (.int .u8 ((m3.toNat : Int) * 2 % 256))).setCell (p := ⟨w.heap.size + 1, 3, none⟩) (fun hl => absurd hl (by simp)) (.int .u8 ((m3.toNat : Int) * 2 % 256 + 1)))
          clear hb1 hst hnext hmm hlen hd
          go_wp2
          go_roundw
          case rel => exact ⟨29, by omega, rfl, HB0'.out, HST.out, HK'.out⟩
          case measure => simp [intOf]
        · rw [if_neg (by exact hkn)] at hnext
          have hd := dbl0 m3
          have hst := hb1.set 3 (.int .u8 ((m3.toNat : Int) * 2 % 256))
          rw [hd, bys_set2] at hst
          have HST := Lib.hid (show Blo (wr.setCell ⟨w.heap.size + 1, 3, none⟩ (.int .u8 ((m3.toNat : Int) * 2 % 256))) (w.heap.size + 1) 22 (bys (bst n 29)).toArray by rw [hnext, hd]; exact hst)
          have HB0' := Lib.hid (HB0.out.far (p := ⟨w.heap.size + 1, 3, none⟩) (by simp) (.int .u8 ((m3.toNat : Int) * 2 % 256)))
          have HK' := Lib.hid (HK.out.setCell (p := ⟨w.heap.size + 1, 3, none⟩) (fun hl => absurd hl (by simp)) (.int .u8 ((m3.toNat : Int) * 2 % 256)))
          clear hb1 hst hnext hmm hlen hd
          go_wp2
          go_roundw
          case rel => exact ⟨29, by omega, rfl, HB0'.out, HST.out, HK'.out⟩
          case measure => simp [intOf]
      · rw [show ((29 : Nat) : Int) = 29 from rfl]
        have x0 := hb1.cell 3
        simp [bys] at x0
        have x1 := hb1.frozen 3
        by_cases hkn : (29 : Int) < n
        · rw [if_pos (by exact hkn)] at hnext
          have hd := dbl1 m3
          have hst := (hb1.set 3 (.int .u8 ((m3.toNat : Int) * 2 % 256))).set 3 (.int .u8 ((m3.toNat : Int) * 2 % 256 + 1))
          rw [Array.setIfInBounds_setIfInBounds, hd, bys_set2] at hst
          have HST := Lib.hid (show Blo ((wr.setCell ⟨w.heap.size + 1, 3, none⟩ (.int .u8 ((m3.toNat : Int) * 2 % 256))).setCell ⟨w.heap.size + 1, 3, none⟩ (.int .u8 ((m3.toNat : Int) * 2 % 256 + 1))) (w.heap.size + 1) 22 (bys (bst n 30)).toArray by rw [hnext, hd]; exact hst)
          have HB0' := Lib.hid ((HB0.out.far (p := ⟨w.heap.size + 1, 3, none⟩) (by simp) (.int .u8 ((m3.toNat : Int) * 2 % 256))).far (p := ⟨w.heap.size + 1, 3, none⟩) (by simp) (.int .u8 ((m3.toNat : Int) * 2 % 256 + 1)))
          have HK' := Lib.hid ((HK.out.setCell (p := ⟨w.heap.size + 1, 3, none⟩) (fun hl => absurd hl (by simp)) (.int .u8 ((m3.toNat : Int) * 2 % 256))).setCell (p := ⟨w.heap.size + 1, 3, none⟩) (fun hl => absurd hl (by simp)) (.int .u8 ((m3.toNat : Int) * 2 % 256 + 1)))
          clear hb1 hst hnext hmm hlen hd
          go_wp2
          go_roundw
          case rel => exact ⟨30, by omega, rfl, HB0'.out, HST.out, HK'.out⟩
          case measure => simp [intOf]
        · rw [if_neg (by exact hkn)] at hnext
          have hd := dbl0 m3
          have hst := hb1.set 3 (.int .u8 ((m3.toNat : Int) * 2 % 256))
          rw [hd, bys_set2] at hst
          have HST := Lib.hid (show Blo (wr.setCell ⟨w.heap.size + 1, 3, none⟩ (.int .u8 ((m3.toNat : Int) * 2 % 256))) (w.heap.size + 1) 22 (bys (bst n 30)).toArray by rw [hnext, hd]; exact hst)
          have HB0' := Lib.hid (HB0.out.far (p := ⟨w.heap.size + 1, 3, none⟩) (by simp) (.int .u8 ((m3.toNat : Int) * 2 % 256)))
          have HK' := Lib.hid (HK.out.setCell (p := ⟨w.heap.size + 1, 3, none⟩) (fun hl => absurd hl (by simp)) (.int .u8 ((m3.toNat : Int) * 2 % 256)))
          clear hb1 hst hnext hmm hlen hd
          go_wp2
          go_roundw
          case rel => exact ⟨30, by omega, rfl, HB0'.out, HST.out, HK'.out⟩
          case measure => simp [intOf]
      · rw [show ((30 : Nat) : Int) = 30 from rfl]
        have x0 := hb1.cell 3
        simp [bys] at x0
        have x1 := hb1.frozen 3
        by_cases hkn : (30 : Int) < n
        · rw [if_pos (by exact hkn)] at hnext
          have hd := dbl1 m3
          have hst := (hb1.set 3 (.int .u8 ((m3.toNat : Int) * 2 % 256))).set 3 (.int .u8 ((m3.toNat : Int) * 2 % 256 + 1))
          rw [Array.setIfInBounds_setIfInBounds, hd, bys_set2] at hst
          have HST := Lib.hid (show Blo ((wr.setCell ⟨w.heap.size + 1, 3, none⟩ (.int .u8 ((m3.toNat : Int) * 2 % 256))).setCell ⟨w.heap.size + 1, 3, none⟩ (.int .u8 ((m3.toNat : Int) * 2 % 256 + 1))) (w.heap.size + 1) 22 (bys (bst n 31)).toArray by rw [hnext, hd]; exact hst)
          have HB0' := Lib.hid ((HB0.out.far (p := ⟨w.heap.size + 1, 3, none⟩) (by simp) (.int .u8 ((m3.toNat : Int) * 2 % 256))).far (p := ⟨w.heap.size + 1, 3, none⟩) (by simp) (.int .u8 ((m3.toNat : Int) * 2 % 256 + 1)))
          have HK' := Lib.hid ((HK.out.setCell (p := ⟨w.heap.size + 1, 3, none⟩) (fun hl => absurd hl (by simp)) (.int .u8 ((m3.toNat : Int) * 2 % 256))).setCell (p := ⟨w.heap.size + 1, 3, none⟩) (fun hl => absurd hl (by simp)) (.int .u8 ((m3.toNat : Int) * 2 % 256 + 1)))
          clear hb1 hst hnext hmm hlen hd
          go_wp2
          go_roundw
          case rel => exact ⟨31, by omega, rfl, HB0'.out, HST.out, HK'.out⟩
          case measure => simp [intOf]
        · rw [if_neg (by exact hkn)] at hnext
          have hd := dbl0 m3
          have hst := hb1.set 3 (.int .u8 ((m3.toNat : Int) * 2 % 256))
          rw [hd, bys_set2] at hst
          have HST := Lib.hid (show Blo (wr.setCell ⟨w.heap.size + 1, 3, none⟩ (.int .u8 ((m3.toNat : Int) * 2 % 256))) (w.heap.size + 1) 22 (bys (bst n 31)).toArray by rw [hnext, hd]; exact hst)
          have HB0' := Lib.hid (HB0.out.far (p := ⟨w.heap.size + 1, 3, none⟩) (by simp) (.int .u8 ((m3.toNat : Int) * 2 % 256)))
          have HK' := Lib.hid (HK.out.setCell (p := ⟨w.heap.size + 1, 3, none⟩) (fun hl => absurd hl (by simp)) (.int .u8 ((m3.toNat : Int) * 2 % 256)))
          clear hb1 hst hnext hmm hlen hd
          go_wp2
          go_roundw
          case rel => exact ⟨31, by omega, rfl, HB0'.out, HST.out, HK'.out⟩
          case measure => simp [intOf]
      · rw [show ((31 : Nat) : Int) = 31 from rfl]
        have x0 := hb1.cell 3
        simp [bys] at x0
        have x1 := hb1.frozen 3
        by_cases hkn : (31 : Int) < n
        · rw [if_pos (by exact hkn)] at hnext
          have hd := dbl1 m3
          have hst := (hb1.set 3 (.int .u8 ((m3.toNat : Int) * 2 % 256))).set 3 (.int .u8 ((m3.toNat : Int) * 2 % 256 + 1))
          rw [Array.setIfInBounds_setIfInBounds, hd, bys_set2] at hst
          have HST := Lib.hid (show Blo ((wr.setCell ⟨w.heap.size + 1, 3, none⟩ (.int .u8 ((m3.toNat : Int) * 2 % 256))).setCell ⟨w.heap.size + 1, 3, none⟩ (.int .u8 ((m3.toNat : Int) * 2 % 256 + 1))) (w.heap.size + 1) 22 (bys (bst n 32)).toArray by rw [hnext, hd]; exact hst)
          have HB0' := Lib.hid ((HB0.out.far (p := ⟨w.heap.size + 1, 3, none⟩) (by simp) (.int .u8 ((m3.toNat : Int) * 2 % 256))).far (p := ⟨w.heap.size + 1, 3, none⟩) (by simp) (.int .u8 ((m3.toNat : Int) * 2 % 256 + 1)))
          have HK' := Lib.hid ((HK.out.setCell (p := ⟨w.heap.size + 1, 3, none⟩) (fun hl => absurd hl (by simp)) (.int .u8 ((m3.toNat : Int) * 2 % 256))).setCell (p := ⟨w.heap.size + 1, 3, none⟩) (fun hl => absurd hl (by simp)) (.int .u8 ((m3.toNat : Int) * 2 % 256 + 1)))
          clear hb1 hst hnext hmm hlen hd
          go_wp2
          go_roundw
          case rel => exact ⟨32, by omega, rfl, HB0'.out, HST.out, HK'.out⟩
          case measure => simp [intOf]
        · rw [if_neg (by exact hkn)] at hnext
          have hd := dbl0 m3
          have hst := hb1.set 3 (.int .u8 ((m3.toNat : Int) * 2 % 256))
          rw [hd, bys_set2] at hst
          have HST := Lib.hid (show Blo (wr.setCell ⟨w.heap.size + 1, 3, none⟩ (.int .u8 ((m3.toNat : Int) * 2 % 256))) (w.heap.size + 1) 22 (bys (bst n 32)).toArray by rw [hnext, hd]; exact hst)
          have HB0' := Lib.hid (HB0.out.far (p := ⟨w.heap.size + 1, 3, none⟩) (by simp) (.int .u8 ((m3.toNat : Int) * 2 % 256)))
          have HK' := Lib.hid (HK.out.setCell (p := ⟨w.heap.size + 1, 3, none⟩) (fun hl => absurd hl (by simp)) (.int .u8 ((m3.toNat : Int) * 2 % 256)))
          clear hb1 hst hnext hmm hlen hd
          go_wp2
          go_roundw
          case rel => exact ⟨32, by omega, rfl, HB0'.out, HST.out, HK'.out⟩
          case measure => simp [intOf]
      · rw [show ((32 : Nat) : Int) = 32 from rfl]
        have x0 := hb1.cell 4
        simp [bys] at x0
        have x1 := hb1.frozen 4
        by_cases hkn : (32 : Int) < n
        · rw [if_pos (by exact hkn)] at hnext
          have hd := dbl1 m4
          have hst := (hb1.set 4 (.int .u8 ((m4.toNat : Int) * 2 % 256))).set 4 (.int .u8 ((m4.toNat : Int) * 2 % 256 + 1))
          rw [Array.setIfInBounds_setIfInBounds, hd, bys_set2] at hst
          have HST := Lib.hid (show Blo ((wr.setCell ⟨w.heap.size + 1, 4, none⟩ (.int .u8 ((m4.toNat : Int) * 2 % 256))).setCell ⟨w.heap.size + 1, 4, none⟩ (.int .u8 ((m4.toNat : Int) * 2 % 256 + 1))) (w.heap.size + 1) 22 (bys (bst n 33)).toArray by rw [hnext, hd]; exact hst)
          have HB0' := Lib.hid ((HB0.out.far (p := ⟨w.heap.size + 1, 4, none⟩) (by simp) (.int .u8 ((m4.toNat : Int) * 2 % 256))).far (p := ⟨w.heap.size + 1, 4, none⟩) (by simp) (.int .u8 ((m4.toNat : Int) * 2 % 256 + 1)))
          have HK' := Lib.hid ((HK.out.setCell (p := ⟨w.heap.size + 1, 4, none⟩) (fun hl => absurd hl (by simp)) (.int .u8 ((m4.toNat : Int) * 2 % 256))).setCell (p := ⟨w.heap.size + 1, 4, none⟩) (fun hl => absurd hl (by simp)) (.int .u8 ((m4.toNat : Int) * 2 % 256 + 1)))
          clear hb1 hst hnext hmm hlen hd
          go_wp2
          go_roundw
          case rel => exact ⟨33, by omega, rfl, HB0'.out, HST.out, HK'.out⟩
          case measure => simp [intOf]
        · rw [if_neg (by exact hkn)] at hnext
          have hd := dbl0 m4
          have hst := hb1.set 4 (.int .u8 ((m4.toNat : Int) * 2 % 256))
          rw [hd, bys_set2] at hst
          have HST := Lib.hid (show Blo (wr.setCell ⟨w.heap.size + 1, 4, none⟩ (.int .u8 ((m4.toNat : Int) * 2 % 256))) (w.heap.size + 1) 22 (bys (bst n 33)).toArray by rw [hnext, hd]; exact hst)
          have HB0' := Lib.hid (HB0.out.far (p := ⟨w.heap.size + 1, 4, none⟩) (by simp) (.int .u8 ((m4.toNat : Int) * 2 % 256)))
          have HK' := Lib.hid (HK.out.setCell (p := ⟨w.heap.size + 1, 4, none⟩) (fun hl => absurd hl (by simp)) (.int .u8 ((m4.toNat : Int) * 2 % 256)))
          clear hb1 hst hnext hmm hlen hd
          go_wp2
          go_roundw
          case rel => exact ⟨33, by omega, rfl, HB0'.out, HST.out, HK'.out⟩
          case measure => simp [intOf]
      · rw [show ((33 : Nat) : Int) = 33 from rfl]
        have x0 := hb1.cell 4
        simp [bys] at x0
        have x1 := hb1.frozen 4
        by_cases hkn : (33 : Int) < n
        · rw [if_pos (by exact hkn)] at hnext
          have hd := dbl1 m4
          have hst := (hb1.set 4 (.int .u8 ((m4.toNat : Int) * 2 % 256))).set 4 (.int .u8 ((m4.toNat : Int) * 2 % 256 + 1))
          rw [Array.setIfInBounds_setIfInBounds, hd, bys_set2] at hst
          have HST := Lib.hid (show Blo ((wr.setCell ⟨w.heap.size + 1, 4, none⟩ (.int .u8 ((m4.toNat : Int) * 2 % 256))).setCell ⟨w.heap.size + 1, 4, none⟩ (.int .u8 ((m4.toNat : Int) * 2 % 256 + 1))) (w.heap.size + 1) 22 (bys (bst n 34)).toArray by rw [hnext, hd]; exact hst)
          have HB0' := Lib.hid ((HB0.out.far (p := ⟨w.heap.size + 1, 4, none⟩) (by simp) (.int .u8 ((m4.toNat : Int) * 2 % 256))).far (p := ⟨w.heap.size + 1, 4, none⟩) (by simp) (.int .u8 ((m4.toNat : Int) * 2 % 256 + 1)))
          have HK' := Lib.hid ((HK.out.setCell (p := ⟨w.heap.size + 1, 4, none⟩) (fun hl => absurd hl (by simp)) (.int .u8 ((m4.toNat : Int) * 2 % 256))).setCell (p := ⟨w.heap.size + 1, 4, none⟩) (fun hl => absurd hl (by simp)) (.int .u8 ((m4.toNat : Int) * 2 % 256 + 1)))
          clear hb1 hst hnext hmm hlen hd
          go_wp2
          go_roundw
          case rel => exact ⟨34, by omega, rfl, HB0'.out, HST.out, HK'.out⟩
          case measure => simp [intOf]
        · rw [if_neg (by exact hkn)] at hnext
          have hd := dbl0 m4
          have hst := hb1.set 4 (.int .u8 ((m4.toNat : Int) * 2 % 256))
          rw [hd, bys_set2] at hst
          have HST := Lib.hid (show Blo (wr.setCell ⟨w.heap.size + 1, 4, none⟩ (.int .u8 ((m4.toNat : Int) * 2 % 256))) (w.heap.size + 1) 22 (bys (bst n 34)).toArray by rw [hnext, hd]; exact hst)
          have HB0' := Lib.hid (HB0.out.far (p := ⟨w.heap.size + 1, 4, none⟩) (by simp) (.int .u8 ((m4.toNat : Int) * 2 % 256)))
          have HK' := Lib.hid (HK.out.setCell (p := ⟨w.heap.size + 1, 4, none⟩) (fun hl => absurd hl (by simp)) (.int .u8 ((m4.toNat : Int) * 2 % 256)))
          clear hb1 hst hnext hmm hlen hd
          go_wp2
          go_roundw
          case rel => exact ⟨34, by omega, rfl, HB0'.out, HST.out, HK'.out⟩
          case measure => simp [intOf]
      · rw [show ((34 : Nat) : Int) = 34 from rfl]
        have x0 := hb1.cell 4
        simp [bys] at x0
        have x1 := hb1.frozen 4
        by_cases hkn : (34 : Int) < n
        · rw [if_pos (by exact hkn)] at hnext
          have hd := dbl1 m4
          have hst := (hb1.set 4 (.int .u8 ((m4.toNat : Int) * 2 % 256))).set 4 (.int .u8 ((m4.toNat : Int) * 2 % 256 + 1))
          rw [Array.setIfInBounds_setIfInBounds, hd, bys_set2] at hst
          have HST := Lib.hid (show Blo ((wr.setCell ⟨w.heap.size + 1, 4, none⟩ (.int .u8 ((m4.toNat : Int) * 2 % 256))).setCell ⟨w.heap.size + 1, 4, none⟩ (.int .u8 ((m4.toNat : Int) * 2 % 256 + 1))) (w.heap.size + 1) 22 (bys (bst n 35)).toArray by rw [hnext, hd]; exact hst)
          have HB0' := Lib.hid ((HB0.out.far (p := ⟨w.heap.size + 1, 4, none⟩) (by simp) (.int .u8 ((m4.toNat : Int) * 2 % 256))).far (p := ⟨w.heap.size + 1, 4, none⟩) (by simp) (.int .u8 ((m4.toNat : Int) * 2 % 256 + 1)))
          have HK' := Lib.hid ((HK.out.setCell (p := ⟨w.heap.size + 1, 4, none⟩) (fun hl => absurd hl (by simp)) (.int .u8 ((m4.toNat : Int) * 2 % 256))).setCell (p := ⟨w.heap.size + 1, 4, none⟩) (fun hl => absurd hl (by simp)) (.int .u8 ((m4.toNat : Int) * 2 % 256 + 1)))
          clear hb1 hst hnext hmm hlen hd
          go_wp2
          go_roundw
          case rel => exact ⟨35, by omega, rfl, HB0'.out, HST.out, HK'.out⟩
          case measure => simp [intOf]
        · rw [if_neg (by exact hkn)] at hnext
          have hd := dbl0 m4
          have hst := hb1.set 4 (.int .u8 ((m4.toNat : Int) * 2 % 256))
          rw [hd, bys_set2] at hst
          have HST := Lib.hid (show Blo (wr.setCell ⟨w.heap.size + 1, 4, none⟩ (.int .u8 ((m4.toNat : Int) * 2 % 256))) (w.heap.size + 1) 22 (bys (bst n 35)).toArray by rw [hnext, hd]; exact hst)
          have HB0' := Lib.hid (HB0.out.far (p := ⟨w.heap.size + 1, 4, none⟩) (by simp) (.int .u8 ((m4.toNat : Int) * 2 % 256)))
          have HK' := Lib.hid (HK.out.setCell (p := ⟨w.heap.size + 1, 4, none⟩) (fun hl => absurd hl (by simp)) (.int .u8 ((m4.toNat : Int) * 2 % 256)))
          clear hb1 hst hnext hmm hlen hd
          go_wp2
          go_roundw
          case rel => exact ⟨35, by omega, rfl, HB0'.out, HST.out, HK'.out⟩
          case measure => simp [intOf]
      · rw [show ((35 : Nat) : Int) = 35 from rfl]
        have x0 := hb1.cell 4
        simp [bys] at x0
        have x1 := hb1.frozen 4
        by_cases hkn : (35 : Int) < n
        · rw [if_pos (by exact hkn)] at hnext
          have hd := dbl1 m4
          have hst := (hb1.set 4 (.int .u8 ((m4.toNat : Int) * 2 % 256))).set 4 (.int .u8 ((m4.toNat : Int) * 2 % 256 + 1))
          rw [Array.setIfInBounds_setIfInBounds, hd, bys_set2] at hst
          have HST := Lib.hid (show Blo ((wr.setCell ⟨w.heap.size + 1, 4, none⟩ (.int .u8 ((m4.toNat : Int) * 2 % 256))).setCell ⟨w.heap.size + 1, 4, none⟩ (.int .u8 ((m4.toNat : Int) * 2 % 256 + 1))) (w.heap.size + 1) 22 (bys (bst n 36)).toArray by rw [hnext, hd]; exact hst)
          have HB0' := Lib.hid ((HB0.out.far (p := ⟨w.heap.size + 1, 4, none⟩) (by simp) (.int .u8 ((m4.toNat : Int) * 2 % 256))).far (p := ⟨w.heap.size + 1, 4, none⟩) (by simp) (.int .u8 ((m4.toNat : Int) * 2 % 256 + 1)))
          have HK' := Lib.hid ((HK.out.setCell (p := ⟨w.heap.size + 1, 4, none⟩) (fun hl => absurd hl (by simp)) (.int .u8 ((m4.toNat : Int) * 2 % 256))).setCell (p := ⟨w.heap.size + 1, 4, none⟩) (fun hl => absurd hl (by simp)) (.int .u8 ((m4.toNat : Int) * 2 % 256 + 1)))
          clear hb1 hst hnext hmm hlen hd
          go_wp2
          go_roundw
          case rel => exact ⟨36, by omega, rfl, HB0'.out, HST.out, HK'.out⟩
          case measure => simp [intOf]
        · rw [if_neg (by exact hkn)] at hnext
          have hd := dbl0 m4
          have hst := hb1.set 4 (.int .u8 ((m4.toNat : Int) * 2 % 256))
          rw [hd, bys_set2] at hst
          have HST := Lib.hid (show Blo (wr.setCell ⟨w.heap.size + 1, 4, none⟩ (.int .u8 ((m4.toNat : Int) * 2 % 256))) (w.heap.size + 1) 22 (bys (bst n 36)).toArray by rw [hnext, hd]; exact hst)
          have HB0' := Lib.hid (HB0.out.far (p := ⟨w.heap.size + 1, 4, none⟩) (by simp) (.int .u8 ((m4.toNat : Int) * 2 % 256)))
          have HK' := Lib.hid (HK.out.setCell (p := ⟨w.heap.size + 1, 4, none⟩) (fun hl => absurd hl (by simp)) (.int .u8 ((m4.toNat : Int) * 2 % 256)))
          clear hb1 hst hnext hmm hlen hd
          go_wp2
          go_roundw
          case rel => exact ⟨36, by omega, rfl, HB0'.out, HST.out, HK'.out⟩
          case measure => simp [intOf]
      · rw [show ((36 : Nat) : Int) = 36 from rfl]
        have x0 := hb1.cell 4
        simp [bys] at x0
        have x1 := hb1.frozen 4
        by_cases hkn : (36 : Int) < n
        · rw [if_pos (by exact hkn)] at hnext
          have hd := dbl1 m4
          have hst := (hb1.set 4 (.int .u8 ((m4.toNat : Int) * 2 % 256))).set 4 (.int .u8 ((m4.toNat : Int) * 2 % 256 + 1))
          rw [Array.setIfInBounds_setIfInBounds, hd, bys_set2] at hst
          have HST := Lib.hid (show Blo ((wr.setCell ⟨w.heap.size + 1, 4, none⟩ (.int .u8 ((m4.toNat : Int) * 2 % 256))).setCell ⟨w.heap.size + 1, 4, none⟩ (.int .u8 ((m4.toNat : Int) * 2 % 256 + 1))) (w.heap.size + 1) 22 (bys (bst n 37)).toArray by rw [hnext, hd]; exact hst)
          have HB0' := Lib.hid ((HB0.out.far (p := ⟨w.heap.size + 1, 4, none⟩) (by simp) (.int .u8 ((m4.toNat : Int) * 2 % 256))).far (p := ⟨w.heap.size + 1, 4, none⟩) (by simp) (.int .u8 ((m4.toNat : Int) * 2 % 256 + 1)))
          have HK' := Lib.hid ((HK.out.setCell (p := ⟨w.heap.size + 1, 4, none⟩) (fun hl => absurd hl (by simp)) (.int .u8 ((m4.toNat : Int) * 2 % 256))).setCell (p := ⟨w.heap.size + 1, 4, none⟩) (fun hl => absurd hl (by simp)) (.int .u8 ((m4.toNat : Int) * 2 % 256 + 1)))
          clear hb1 hst hnext hmm hlen hd
          go_wp2
          go_roundw
          case rel => exact ⟨37, by omega, rfl, HB0'.out, HST.out, HK'.out⟩
          case measure => simp [intOf]
        · rw [if_neg (by exact hkn)] at hnext
          have hd := dbl0 m4
          have hst := hb1.set 4 (.int .u8 ((m4.toNat : Int) * 2 % 256))
          rw [hd, bys_set2] at hst
          have HST := Lib.hid (show Blo (wr.setCell ⟨w.heap.size + 1, 4, none⟩ (.int .u8 ((m4.toNat : Int) * 2 % 256))) (w.heap.size + 1) 22 (bys (bst n 37)).toArray by rw [hnext, hd]; exact hst)
          have HB0' := Lib.hid (HB0.out.far (p := ⟨w.heap.size + 1, 4, none⟩) (by simp) (.int .u8 ((m4.toNat : Int) * 2 % 256)))
          have HK' := Lib.hid (HK.out.setCell (p := ⟨w.heap.size + 1, 4, none⟩) (fun hl => absurd hl (by simp)) (.int .u8 ((m4.toNat : Int) * 2 % 256)))
          clear hb1 hst hnext hmm hlen hd
          go_wp2
          go_roundw
          case rel => exact ⟨37, by omega, rfl, HB0'.out, HST.out, HK'.out⟩
          case measure => simp [intOf]
      · rw [show ((37 : Nat) : Int) = 37 from rfl]
        have x0 := hb1.cell 4
        simp [bys] at x0
        have x1 := hb1.frozen 4
        by_cases hkn : (37 : Int) < n
        · rw [if_pos (by exact hkn)] at hnext
          have hd := dbl1 m4
          have hst := (hb1.set 4 (.int .u8 ((m4.toNat : Int) * 2 % 256))).set 4 (.int .u8 ((m4.toNat : Int) * 2 % 256 + 1))
          rw [Array.setIfInBounds_setIfInBounds, hd, bys_set2] at hst
          have HST := Lib.hid (show Blo ((wr.setCell ⟨w.heap.size + 1, 4, none⟩ (.int .u8 ((m4.toNat : Int) * 2 % 256))).setCell ⟨w.heap.size + 1, 4, none⟩ (.int .u8 ((m4.toNat : Int) * 2 % 256 + 1))) (w.heap.size + 1) 22 (bys (bst n 38)).toArray by rw [hnext, hd]; exact hst)
          have HB0' := Lib.hid ((HB0.out.far (p := ⟨w.heap.size + 1, 4, none⟩) (by simp) (.int .u8 ((m4.toNat : Int) * 2 % 256))).far (p := ⟨w.heap.size + 1, 4, none⟩) (by simp) (.int .u8 ((m4.toNat : Int) * 2 % 256 + 1)))
          have HK' := Lib.hid ((HK.out.setCell (p := ⟨w.heap.size + 1, 4, none⟩) (fun hl => absurd hl (by simp)) (.int .u8 ((m4.toNat : Int) * 2 % 256))).setCell (p := ⟨w.heap.size + 1, 4, none⟩) (fun hl => absurd hl (by simp)) (.int .u8 ((m4.toNat : Int) * 2 % 256 + 1)))
          clear hb1 hst hnext hmm hlen hd
          go_wp2
          go_roundw
          case rel => exact ⟨38, by omega, rfl, HB0'.out, HST.out, HK'.out⟩
          case measure => simp [intOf]
        · rw [if_neg (by exact hkn)] at hnext
          have hd := dbl0 m4
          have hst := hb1.set 4 (.int .u8 ((m4.toNat : Int) * 2 % 256))
          rw [hd, bys_set2] at hst
          have HST := Lib.hid (show Blo (wr.setCell ⟨w.heap.size + 1, 4, none⟩ (.int .u8 ((m4.toNat : Int) * 2 % 256))) (w.heap.size + 1) 22 (bys (bst n 38)).toArray by rw [hnext, hd]; exact hst)
          have HB0' := Lib.hid (HB0.out.far (p := ⟨w.heap.size + 1, 4, none⟩) (by simp) (.int .u8 ((m4.toNat : Int) * 2 % 256)))
          have HK' := Lib.hid (HK.out.setCell (p := ⟨w.heap.size + 1, 4, none⟩) (fun hl => absurd hl (by simp)) (.int .u8 ((m4.toNat : Int) * 2 % 256)))
          clear hb1 hst hnext hmm hlen hd
          go_wp2
          go_roundw
          case rel => exact ⟨38, by omega, rfl, HB0'.out, HST.out, HK'.out⟩
          case measure => simp [intOf]
      · rw [show ((38 : Nat) : Int) = 38 from rfl]
        have x0 := hb1.cell 4
        simp [bys] at x0
        have x1 := hb1.frozen 4
        by_cases hkn : (38 : Int) < n
        · rw [if_pos (by exact hkn)] at hnext
          have hd := dbl1 m4
          have hst := (hb1.set 4 (.int .u8 ((m4.toNat : Int) * 2 % 256))).set 4 (.int .u8 ((m4.toNat : Int) * 2 % 256 + 1))
          rw [Array.setIfInBounds_setIfInBounds, hd, bys_set2] at hst
          have HST := Lib.hid (show Blo ((wr.setCell ⟨w.heap.size + 1, 4, none⟩ (.int .u8 ((m4.toNat : Int) * 2 % 256))).setCell ⟨w.heap.size + 1, 4, none⟩ (.int .u8 ((m4.toNat : Int) * 2 % 256 + 1))) (w.heap.size + 1) 22 (bys (bst n 39)).toArray by rw [hnext, hd]; exact hst)
          have HB0' := Lib.hid ((HB0.out.far (p := ⟨w.heap.size + 1, 4, none⟩) (by simp) (.int .u8 ((m4.toNat : Int) * 2 % 256))).far (p := ⟨w.heap.size + 1, 4, none⟩) (by simp) (.int .u8 ((m4.toNat : Int) * 2 % 256 + 1)))
          have HK' := Lib.hid ((HK.out.setCell (p := ⟨w.heap.size + 1, 4, none⟩) (fun hl => absurd hl (by simp)) (.int .u8 ((m4.toNat : Int) * 2 % 256))).setCell (p := ⟨w.heap.size + 1, 4, none⟩) (fun hl => absurd hl (by simp)) (.int .u8 ((m4.toNat : Int) * 2 % 256 + 1)))
          clear hb1 hst hnext hmm hlen hd
          go_wp2
          go_roundw
          case rel => exact ⟨39, by omega, rfl, HB0'.out, HST.out, HK'.out⟩
          case measure => simp [intOf]
        · rw [if_neg (by exact hkn)] at hnext
          have hd := dbl0 m4
          have hst := hb1.set 4 (.int .u8 ((m4.toNat : Int) * 2 % 256))
          rw [hd, bys_set2] at hst
          have HST := Lib.hid (show Blo (wr.setCell ⟨w.heap.size + 1, 4, none⟩ (.int .u8 ((m4.toNat : Int) * 2 % 256))) (w.heap.size + 1) 22 (bys (bst n 39)).toArray by rw [hnext, hd]; exact hst)
          have HB0' := Lib.hid (HB0.out.far (p := ⟨w.heap.size + 1, 4, none⟩) (by simp) (.int .u8 ((m4.toNat : Int) * 2 % 256)))
          have HK' := Lib.hid (HK.out.setCell (p := ⟨w.heap.size + 1, 4, none⟩) (fun hl => absurd hl (by simp)) (.int .u8 ((m4.toNat : Int) * 2 % 256)))
          clear hb1 hst hnext hmm hlen hd
          go_wp2
          go_roundw
          case rel => exact ⟨39, by omega, rfl, HB0'.out, HST.out, HK'.out⟩
          case measure => simp [intOf]
      · rw [show ((39 : Nat) : Int) = 39 from rfl]
        have x0 := hb1.cell 4
        simp [bys] at x0
        have x1 := hb1.frozen 4
        by_cases hkn : (39 : Int) < n
        · rw [if_pos (by exact hkn)] at hnext
          have hd := dbl1 m4
          have hst := (hb1.set 4 (.int .u8 ((m4.toNat : Int) * 2 % 256))).set 4 (.int .u8 ((m4.toNat : Int) * 2 % 256 + 1))
          rw [Array.setIfInBounds_setIfInBounds, hd, bys_set2] at hst
          have HST := Lib.hid (show Blo ((wr.setCell ⟨w.heap.size + 1, 4, none⟩ (.int .u8 ((m4.toNat : Int) * 2 % 256))).setCell ⟨w.heap.size + 1, 4, none⟩ (.int .u8 ((m4.toNat : Int) * 2 % 256 + 1))) (w.heap.size + 1) 22 (bys (bst n 40)).toArray by rw [hnext, hd]; exact hst)
          have HB0' := Lib.hid ((HB0.out.far (p := ⟨w.heap.size + 1, 4, none⟩) (by simp) (.int .u8 ((m4.toNat : Int) * 2 % 256))).far (p := ⟨w.heap.size + 1, 4, none⟩) (by simp) (.int .u8 ((m4.toNat : Int) * 2 % 256 + 1)))
          have HK' := Lib.hid ((HK.out.setCell (p := ⟨w.heap.size + 1, 4, none⟩) (fun hl => absurd hl (by simp)) (.int .u8 ((m4.toNat : Int) * 2 % 256))).setCell (p := ⟨w.heap.size + 1, 4, none⟩) (fun hl => absurd hl (by simp)) (.int .u8 ((m4.toNat : Int) * 2 % 256 + 1)))
          clear hb1 hst hnext hmm hlen hd
          go_wp2
          go_roundw
          case rel => exact ⟨40, by omega, rfl, HB0'.out, HST.out, HK'.out⟩
          case measure => simp [intOf]
        · rw [if_neg (by exact hkn)] at hnext
          have hd := dbl0 m4
          have hst := hb1.set 4 (.int .u8 ((m4.toNat : Int) * 2 % 256))
          rw [hd, bys_set2] at hst
          have HST := Lib.hid (show Blo (wr.setCell ⟨w.heap.size + 1, 4, none⟩ (.int .u8 ((m4.toNat : Int) * 2 % 256))) (w.heap.size + 1) 22 (bys (bst n 40)).toArray by rw [hnext, hd]; exact hst)
          have HB0' := Lib.hid (HB0.out.far (p := ⟨w.heap.size + 1, 4, none⟩) (by simp) (.int .u8 ((m4.toNat : Int) * 2 % 256)))
          have HK' := Lib.hid (HK.out.setCell (p := ⟨w.heap.size + 1, 4, none⟩) (fun hl => absurd hl (by simp)) (.int .u8 ((m4.toNat : Int) * 2 % 256)))
          clear hb1 hst hnext hmm hlen hd
          go_wp2
          go_roundw
          case rel => exact ⟨40, by omega, rfl, HB0'.out, HST.out, HK'.out⟩
          case measure => simp [intOf]
      · rw [show ((40 : Nat) : Int) = 40 from rfl]
        have x0 := hb1.cell 5
        simp [bys] at x0
        have x1 := hb1.frozen 5
        by_cases hkn : (40 : Int) < n
        · rw [if_pos (by exact hkn)] at hnext
          have hd := dbl1 m5
          have hst := (hb1.set 5 (.int .u8 ((m5.toNat : Int) * 2 % 256))).set 5 (.int .u8 ((m5.toNat : Int) * 2 % 256 + 1))
          rw [Array.setIfInBounds_setIfInBounds, hd, bys_set2] at hst
          have HST := Lib.hid (show Blo ((wr.setCell ⟨w.heap.size + 1, 5, none⟩ (.int .u8 ((m5.toNat : Int) * 2 % 256))).setCell ⟨w.heap.size + 1, 5, none⟩ (.int .u8 ((m5.toNat : Int) * 2 % 256 + 1))) (w.heap.size + 1) 22 (bys (bst n 41)).toArray by rw [hnext, hd]; exact hst)
          have HB0' := Lib.hid ((HB0.out.far (p := ⟨w.heap.size + 1, 5, none⟩) (by simp) (.int .u8 ((m5.toNat : Int) * 2 % 256))).far (p := ⟨w.heap.size + 1, 5, none⟩) (by simp) (.int .u8 ((m5.toNat : Int) * 2 % 256 + 1)))
          have HK' := Lib.hid ((HK.out.setCell (p := ⟨w.heap.size + 1, 5, none⟩) (fun hl => absurd hl (by simp)) (.int .u8 ((m5.toNat : Int) * 2 % 256))).setCell (p := ⟨w.heap.size + 1, 5, none⟩) (fun hl => absurd hl (by simp)) (.int .u8 ((m5.toNat : Int) * 2 % 256 + 1)))
          clear hb1 hst hnext hmm hlen hd
          go_wp2
          go_roundw
          case rel => exact ⟨41, by omega, rfl, HB0'.out, HST.out, HK'.out⟩
          case measure => simp [intOf]
        · rw [if_neg (by exact hkn)] at hnext
          have hd := dbl0 m5
          have hst := hb1.set 5 (.int .u8 ((m5.toNat : Int) * 2 % 256))
          rw [hd, bys_set2] at hst
          have HST := Lib.hid (show Blo (wr.setCell ⟨w.heap.size + 1, 5, none⟩ (.int .u8 ((m5.toNat : Int) * 2 % 256))) (w.heap.size + 1) 22 (bys (bst n 41)).toArray by rw [hnext, hd]; exact hst)
          have HB0' := Lib.hid (HB0.out.far (p := ⟨w.heap.size + 1, 5, none⟩) (by simp) (.int .u8 ((m5.toNat : Int) * 2 % 256)))
          have HK' := Lib.hid (HK.out.setCell (p := ⟨w.heap.size + 1, 5, none⟩) (fun hl => absurd hl (by simp)) (.int .u8 ((m5.toNat : Int) * 2 % 256)))
          clear hb1 hst hnext hmm hlen hd
          go_wp2
          go_roundw
          case rel => exact ⟨41, by omega, rfl, HB0'.out, HST.out, HK'.out⟩
          case measure => simp [intOf]
      · rw [show ((41 : Nat) : Int) = 41 from rfl]
        have x0 := hb1.cell 5
        simp [bys] at x0
        have x1 := hb1.frozen 5
        by_cases hkn : (41 : Int) < n
        · rw [if_pos (by exact hkn)] at hnext
          have hd := dbl1 m5
          have hst := (hb1.set 5 (.int .u8 ((m5.toNat : Int) * 2 % 256))).set 5 (.int .u8 ((m5.toNat : Int) * 2 % 256 + 1))
          rw [Array.setIfInBounds_setIfInBounds, hd, bys_set2] at hst
          have HST := Lib.hid (show Blo ((wr.setCell ⟨w.heap.size + 1, 5, none⟩ (.int .u8 ((m5.toNat : Int) * 2 % 256))).setCell ⟨w.heap.size + 1, 5, none⟩ (.int .u8 ((m5.toNat : Int) * 2 % 256 + 1))) (w.heap.size + 1) 22 (bys (bst n 42)).toArray by rw [hnext, hd]; exact hst)
          have HB0' := Lib.hid ((HB0.out.far (p := ⟨w.heap.size + 1, 5, none⟩) (by simp) (.int .u8 ((m5.toNat : Int) * 2 % 256))).far (p := ⟨w.heap.size + 1, 5, none⟩) (by simp) (.int .u8 ((m5.toNat : Int) * 2 % 256 + 1)))
          have HK' := Lib.hid ((HK.out.setCell (p := ⟨w.heap.size + 1, 5, none⟩) (fun hl => absurd hl (by simp)) (.int .u8 ((m5.toNat : Int) * 2 % 256))).setCell (p := ⟨w.heap.size + 1, 5, none⟩) (fun hl => absurd hl (by simp)) (.int .u8 ((m5.toNat : Int) * 2 % 256 + 1)))
          clear hb1 hst hnext hmm hlen hd
          go_wp2
          go_roundw
          case rel => exact ⟨42, by omega, rfl, HB0'.out, HST.out, HK'.out⟩
          case measure => simp [intOf]
        · rw [if_neg (by exact hkn)] at hnext
          have hd := dbl0 m5
          have hst := hb1.set 5 (.int .u8 ((m5.toNat : Int) * 2 % 256))
          rw [hd, bys_set2] at hst
          have HST := Lib.hid (show Blo (wr.setCell ⟨w.heap.size + 1, 5, none⟩ (.int .u8 ((m5.toNat : Int) * 2 % 256))) (w.heap.size + 1) 22 (bys (bst n 42)).toArray by rw [hnext, hd]; exact hst)
          have HB0' := Lib.hid (HB0.out.far (p := ⟨w.heap.size + 1, 5, none⟩) (by simp) (.int .u8 ((m5.toNat : Int) * 2 % 256)))
          have HK' := Lib.hid (HK.out.setCell (p := ⟨w.heap.size + 1, 5, none⟩) (fun hl => absurd hl (by simp)) (.int .u8 ((m5.toNat : Int) * 2 % 256)))
          clear hb1 hst hnext hmm hlen hd
          go_wp2
          go_roundw
          case rel => exact ⟨42, by omega, rfl, HB0'.out, HST.out, HK'.out⟩
          case measure => simp [intOf]
      · rw [show ((42 : Nat) : Int) = 42 from rfl]
        have x0 := hb1.cell 5
        simp [bys] at x0
        have x1 := hb1.frozen 5
        by_cases hkn : (42 : Int) < n
        · rw [if_pos (by exact hkn)] at hnext
          have hd := dbl1 m5
          have hst := (hb1.set 5 (.int .u8 ((m5.toNat : Int) * 2 % 256))).set 5 (.int .u8 ((m5.toNat : Int) * 2 % 256 + 1))
          rw [Array.setIfInBounds_setIfInBounds, hd, bys_set2] at hst
          have HST := Lib.hid (show Blo ((wr.setCell ⟨w.heap.size + 1, 5, none⟩ (.int .u8 ((m5.toNat : Int) * 2 % 256))).setCell ⟨w.heap.size + 1, 5, none⟩ (.int .u8 ((m5.toNat : Int) * 2 % 256 + 1))) (w.heap.size + 1) 22 (bys (bst n 43)).toArray by rw [hnext, hd]; exact hst)
          have HB0' := Lib.hid ((HB0.out.far (p := ⟨w.heap.size + 1, 5, none⟩) (by simp) (.int .u8 ((m5.toNat : Int) * 2 % 256))).far (p := ⟨w.heap.size + 1, 5, none⟩) (by simp) (.int .u8 ((m5.toNat : Int) * 2 % 256 + 1)))
          have HK' := Lib.hid ((HK.out.setCell (p := ⟨w.heap.size + 1, 5, none⟩) (fun hl => absurd hl (by simp)) (.int .u8 ((m5.toNat : Int) * 2 % 256))).setCell (p := ⟨w.heap.size + 1, 5, none⟩) (fun hl => absurd hl (by simp)) (.int .u8 ((m5.toNat : Int) * 2 % 256 + 1)))
          clear hb1 hst hnext hmm hlen hd
          go_wp2
          go_roundw
          case rel => exact ⟨43, by omega, rfl, HB0'.out, HST.out, HK'.out⟩
          case measure => simp [intOf]
        · rw [if_neg (by exact hkn)] at hnext
          have hd := dbl0 m5
          have hst := hb1.set 5 (.int .u8 ((m5.toNat : Int) * 2 % 256))
          rw [hd, bys_set2] at hst
          have HST := Lib.hid (show Blo (wr.setCell ⟨w.heap.size + 1, 5, none⟩ (.int .u8 ((m5.toNat : Int) * 2 % 256))) (w.heap.size + 1) 22 (bys (bst n 43)).toArray by rw [hnext, hd]; exact hst)
          have HB0' := Lib.hid (HB0.out.far (p := ⟨w.heap.size + 1, 5, none⟩) (by simp) (.int .u8 ((m5.toNat : Int) * 2 % 256)))
          have HK' := Lib.hid (HK.out.setCell (p := ⟨w.heap.size + 1, 5, none⟩) (fun hl => absurd hl (by simp)) (.int .u8 ((m5.toNat : Int) * 2 % 256)))
          clear hb1 hst hnext hmm hlen hd
          go_wp2
          go_roundw
          case rel => exact ⟨43, by omega, rfl, HB0'.out, HST.out, HK'.out⟩
          case measure => simp [intOf]
      · rw [show ((43 : Nat) : Int) = 43 from rfl]
        have x0 := hb1.cell 5
        simp [bys] at x0
        have x1 := hb1.frozen 5
        by_cases hkn : (43 : Int) < n
        · rw [if_pos (by exact hkn)] at hnext
          have hd := dbl1 m5
          have hst := (hb1.set 5 (.int .u8 ((m5.toNat : Int) * 2 % 256))).set 5 (.int .u8 ((m5.toNat : Int) * 2 % 256 + 1))
          rw [Array.setIfInBounds_setIfInBounds, hd, bys_set2] at hst
          have HST := Lib.hid (show Blo ((wr.setCell ⟨w.heap.size + 1, 5, none⟩ (.int .u8 ((m5.toNat : Int) * 2 % 256))).setCell ⟨w.heap.size + 1, 5, none⟩ (.int .u8 ((m5.toNat : Int) * 2 % 256 + 1))) (w.heap.size + 1) 22 (bys (bst n 44)).toArray by rw [hnext, hd]; exact hst)
          have HB0' := Lib.hid ((HB0.out.far (p := ⟨w.heap.size + 1, 5, none⟩) (by simp) (.int .u8 ((m5.toNat : Int) * 2 % 256))).far (p := ⟨w.heap.size + 1, 5, none⟩) (by simp) (.int .u8 ((m5.toNat : Int) * 2 % 256 + 1)))
          have HK' := Lib.hid ((HK.out.setCell (p := ⟨w.heap.size + 1, 5, none⟩) (fun hl => absurd hl (by simp)) (.int .u8 ((m5.toNat : Int) * 2 % 256))).setCell (p := ⟨w.heap.size + 1, 5, none⟩) (fun hl => absurd hl (by simp)) (.int .u8 ((m5.toNat : Int) * 2 % 256 + 1)))
          clear hb1 hst hnext hmm hlen hd
          go_wp2
          go_roundw
          case rel => exact ⟨44, by omega, rfl, HB0'.out, HST.out, HK'.out⟩
          case measure => simp [intOf]
        · rw [if_neg (by exact hkn)] at hnext
          have hd := dbl0 m5
          have hst := hb1.set 5 (.int .u8 ((m5.toNat : Int) * 2 % 256))
          rw [hd, bys_set2] at hst
          have HST := Lib.hid (show Blo (wr.setCell ⟨w.heap.size + 1, 5, none⟩ (.int .u8 ((m5.toNat : Int) * 2 % 256))) (w.heap.size + 1) 22 (bys (bst n 44)).toArray by rw [hnext, hd]; exact hst)
          have HB0' := Lib.hid (HB0.out.far (p := ⟨w.heap.size + 1, 5, none⟩) (by simp) (.int .u8 ((m5.toNat : Int) * 2 % 256)))
          have HK' := Lib.hid (HK.out.setCell (p := ⟨w.heap.size + 1, 5, none⟩) (fun hl => absurd hl (by simp)) (.int .u8 ((m5.toNat : Int) * 2 % 256)))
          clear hb1 hst hnext hmm hlen hd
          go_wp2
          go_roundw
          case rel => exact ⟨44, by omega, rfl, HB0'.out, HST.out, HK'.out⟩
          case measure => simp [intOf]
      · rw [show ((44 : Nat) : Int) = 44 from rfl]
        have x0 := hb1.cell 5
        simp [bys] at x0
        have x1 := hb1.frozen 5
        by_cases hkn : (44 : Int) < n
        · rw [if_pos (by exact hkn)] at hnext
          have hd := dbl1 m5
          have hst := (hb1.set 5 (.int .u8 ((m5.toNat : Int) * 2 % 256))).set 5 (.int .u8 ((m5.toNat : Int) * 2 % 256 + 1))
          rw [Array.setIfInBounds_setIfInBounds, hd, bys_set2] at hst
          have HST := Lib.hid (show Blo ((wr.setCell ⟨w.heap.size + 1, 5, none⟩ (.int .u8 ((m5.toNat : Int) * 2 % 256))).setCell ⟨w.heap.size + 1, 5, none⟩ (.int .u8 ((m5.toNat : Int) * 2 % 256 + 1))) (w.heap.size + 1) 22 (bys (bst n 45)).toArray by rw [hnext, hd]; exact hst)
          have HB0' := Lib.hid ((HB0.out.far (p := ⟨w.heap.size + 1, 5, none⟩) (by simp) (.int .u8 ((m5.toNat : Int) * 2 % 256))).far (p := ⟨w.heap.size + 1, 5, none⟩) (by simp) (.int .u8 ((m5.toNat : Int) * 2 % 256 + 1)))
          have HK' := Lib.hid ((HK.out.setCell (p := ⟨w.heap.size + 1, 5, none⟩) (fun hl => absurd hl (by simp)) (.int .u8 ((m5.toNat : Int) * 2 % 256))).setCell (p := ⟨w.heap.size + 1, 5, none⟩) (fun hl => absurd hl (by simp)) (.int .u8 ((m5.toNat : Int) * 2 % 256 + 1)))
          clear hb1 hst hnext hmm hlen hd
          go_wp2
          go_roundw
          case rel => exact ⟨45, by omega, rfl, HB0'.out, HST.out, HK'.out⟩
          case measure => simp [intOf]
        · rw [if_neg (by exact hkn)] at hnext
          have hd := dbl0 m5
          have hst := hb1.set 5 (.int .u8 ((m5.toNat : Int) * 2 % 256))
          rw [hd, bys_set2] at hst
          have HST := Lib.hid (show Blo (wr.setCell ⟨w.heap.size + 1, 5, none⟩ (.int .u8 ((m5.toNat : Int) * 2 % 256))) (w.heap.size + 1) 22 (bys (bst n 45)).toArray by rw [hnext, hd]; exact hst)
          have HB0' := Lib.hid (HB0.out.far (p := ⟨w.heap.size + 1, 5, none⟩) (by simp) (.int .u8 ((m5.toNat : Int) * 2 % 256)))
          have HK' := Lib.hid (HK.out.setCell (p := ⟨w.heap.size + 1, 5, none⟩) (fun hl => absurd hl (by simp)) (.int .u8 ((m5.toNat : Int) * 2 % 256)))
          clear hb1 hst hnext hmm hlen hd
          go_wp2
          go_roundw
          case rel => exact ⟨45, by omega, rfl, HB0'.out, HST.out, HK'.out⟩
          case measure => simp [intOf]
      · rw [show ((45 : Nat) : Int) = 45 from rfl]
        have x0 := hb1.cell 5
        simp [bys] at x0
        have x1 := hb1.frozen 5
        by_cases hkn : (45 : Int) < n
        · rw [if_pos (by exact hkn)] at hnext
          have hd := dbl1 m5
          have hst := (hb1.set 5 (.int .u8 ((m5.toNat : Int) * 2 % 256))).set 5 (.int .u8 ((m5.toNat : Int) * 2 % 256 + 1))
          rw [Array.setIfInBounds_setIfInBounds, hd, bys_set2] at hst
          have HST := Lib.hid (show Blo ((wr.setCell ⟨w.heap.size + 1, 5, none⟩ (.int .u8 ((m5.toNat : Int) * 2 % 256))).setCell ⟨w.heap.size + 1, 5, none⟩ (.int .u8 ((m5.toNat : Int) * 2 % 256 + 1))) (w.heap.size + 1) 22 (bys (bst n 46)).toArray by rw [hnext, hd]; exact hst)
          have HB0' := Lib.hid ((HB0.out.far (p := ⟨w.heap.size + 1, 5, none⟩) (by simp) (.int .u8 ((m5.toNat : Int) * 2 % 256))).far (p := ⟨w.heap.size + 1, 5, none⟩) (by simp) (.int .u8 ((m5.toNat : Int) * 2 % 256 + 1)))
          have HK' := Lib.hid ((HK.out.setCell (p := ⟨w.heap.size + 1, 5, none⟩) (fun hl => absurd hl (by simp)) (.int .u8 ((m5.toNat : Int) * 2 % 256))).setCell (p := ⟨w.heap.size + 1, 5, none⟩) (fun hl => absurd hl (by simp)) (.int .u8 ((m5.toNat : Int) * 2 % 256 + 1)))
          clear hb1 hst hnext hmm hlen hd
          go_wp2
          go_roundw
          case rel => exact ⟨46, by omega, rfl, HB0'.out, HST.out, HK'.out⟩
          case measure => simp [intOf]
        · rw [if_neg (by exact hkn)] at hnext
          have hd := dbl0 m5
          have hst := hb1.set 5 (.int .u8 ((m5.toNat : Int) * 2 % 256))
          rw [hd, bys_set2] at hst
          have HST := Lib.hid (show Blo (wr.setCell ⟨w.heap.size + 1, 5, none⟩ (.int .u8 ((m5.toNat : Int) * 2 % 256))) (w.heap.size + 1) 22 (bys (bst n 46)).toArray by rw [hnext, hd]; exact hst)
          have HB0' := Lib.hid (HB0.out.far (p := ⟨w.heap.size + 1, 5, none⟩) (by simp) (.int .u8 ((m5.toNat : Int) * 2 % 256)))
          have HK' := Lib.hid (HK.out.setCell (p := ⟨w.heap.size + 1, 5, none⟩) (fun hl => absurd hl (by simp)) (.int .u8 ((m5.toNat : Int) * 2 % 256)))
          clear hb1 hst hnext hmm hlen hd
          go_wp2
          go_roundw
          case rel => exact ⟨46, by omega, rfl, HB0'.out, HST.out, HK'.out⟩
          case measure => simp [intOf]
      · rw [show ((46 : Nat) : Int) = 46 from rfl]
        have x0 := hb1.cell 5
        simp [bys] at x0
        have x1 := hb1.frozen 5
        by_cases hkn : (46 : Int) < n
        · rw [if_pos (by exact hkn)] at hnext
          have hd := dbl1 m5
          have hst := (hb1.set 5 (.int .u8 ((m5.toNat : Int) * 2 % 256))).set 5 (.int .u8 ((m5.toNat : Int) * 2 % 256 + 1))
          rw [Array.setIfInBounds_setIfInBounds, hd, bys_set2] at hst
          have HST := Lib.hid (show Blo ((wr.setCell ⟨w.heap.size + 1, 5, none⟩ (.int .u8 ((m5.toNat : Int) * 2 % 256))).setCell ⟨w.heap.size + 1, 5, none⟩ (.int .u8 ((m5.toNat : Int) * 2 % 256 + 1))) (w.heap.size + 1) 22 (bys (bst n 47)).toArray by rw [hnext, hd]; exact hst)
          have HB0' := Lib.hid ((HB0.out.far (p := ⟨w.heap.size + 1, 5, none⟩) (by simp) (.int .u8 ((m5.toNat : Int) * 2 % 256))).far (p := ⟨w.heap.size + 1, 5, none⟩) (by simp) (.int .u8 ((m5.toNat : Int) * 2 % 256 + 1)))
          have HK' := Lib.hid ((HK.out.setCell (p := ⟨w.heap.size + 1, 5, none⟩) (fun hl => absurd hl (by simp)) (.int .u8 ((m5.toNat : Int) * 2 % 256))).setCell (p := ⟨w.heap.size + 1, 5, none⟩) (fun hl => absurd hl (by simp)) (.int .u8 ((m5.toNat : Int) * 2 % 256 + 1)))
          clear hb1 hst hnext hmm hlen hd
          go_wp2
          go_roundw
          case rel => exact ⟨47, by omega, rfl, HB0'.out, HST.out, HK'.out⟩
          case measure => simp [intOf]
        · rw [if_neg (by exact hkn)] at hnext
          have hd := dbl0 m5
          have hst := hb1.set 5 (.int .u8 ((m5.toNat : Int) * 2 % 256))
          rw [hd, bys_set2] at hst
          have HST := Lib.hid (show Blo (wr.setCell ⟨w.heap.size + 1, 5, none⟩ (.int .u8 ((m5.toNat : Int) * 2 % 256))) (w.heap.size + 1) 22 (bys (bst n 47)).toArray by rw [hnext, hd]; exact hst)
          have HB0' := Lib.hid (HB0.out.far (p := ⟨w.heap.size + 1, 5, none⟩) (by simp) (.int .u8 ((m5.toNat : Int) * 2 % 256)))
          have HK' := Lib.hid (HK.out.setCell (p := ⟨w.heap.size + 1, 5, none⟩) (fun hl => absurd hl (by simp)) (.int .u8 ((m5.toNat : Int) * 2 % 256)))
          clear hb1 hst hnext hmm hlen hd
          go_wp2
          go_roundw
          case rel => exact ⟨47, by omega, rfl, HB0'.out, HST.out, HK'.out⟩
          case measure => simp [intOf]
      · rw [show ((47 : Nat) : Int) = 47 from rfl]
        have x0 := hb1.cell 5
        simp [bys] at x0
        have x1 := hb1.frozen 5
        by_cases hkn : (47 : Int) < n
        · rw [if_pos (by exact hkn)] at hnext
          have hd := dbl1 m5
          have hst := (hb1.set 5 (.int .u8 ((m5.toNat : Int) * 2 % 256))).set 5 (.int .u8 ((m5.toNat : Int) * 2 % 256 + 1))
          rw [Array.setIfInBounds_setIfInBounds, hd, bys_set2] at hst
          have HST := Lib.hid (show Blo ((wr.setCell ⟨w.heap.size + 1, 5, none⟩ (.int .u8 ((m5.toNat : Int) * 2 % 256))).setCell ⟨w.heap.size + 1, 5, none⟩ (.int .u8 ((m5.toNat : Int) * 2 % 256 + 1))) (w.heap.size + 1) 22 (bys (bst n 48)).toArray by rw [hnext, hd]; exact hst)
          have HB0' := Lib.hid ((HB0.out.far (p := ⟨w.heap.size + 1, 5, none⟩) (by simp) (.int .u8 ((m5.toNat : Int) * 2 % 256))).far (p := ⟨w.heap.size + 1, 5, none⟩) (by simp) (.int .u8 ((m5.toNat : Int) * 2 % 256 + 1)))
          have HK' := Lib.hid ((HK.out.setCell (p := ⟨w.heap.size + 1, 5, none⟩) (fun hl => absurd hl (by simp)) (.int .u8 ((m5.toNat : Int) * 2 % 256))).setCell (p := ⟨w.heap.size + 1, 5, none⟩) (fun hl => absurd hl (by simp)) (.int .u8 ((m5.toNat : Int) * 2 % 256 + 1)))
          clear hb1 hst hnext hmm hlen hd
          go_wp2
          go_roundw
          case rel => exact ⟨48, by omega, rfl, HB0'.out, HST.out, HK'.out⟩
          case measure => simp [intOf]
        · rw [if_neg (by exact hkn)] at hnext
          have hd := dbl0 m5
          have hst := hb1.set 5 (.int .u8 ((m5.toNat : Int) * 2 % 256))
          rw [hd, bys_set2] at hst
          have HST := Lib.hid (show Blo (wr.setCell ⟨w.heap.size + 1, 5, none⟩ (.int .u8 ((m5.toNat : Int) * 2 % 256))) (w.heap.size + 1) 22 (bys (bst n 48)).toArray by rw [hnext, hd]; exact hst)
          have HB0' := Lib.hid (HB0.out.far (p := ⟨w.heap.size + 1, 5, none⟩) (by simp) (.int .u8 ((m5.toNat : Int) * 2 % 256)))
          have HK' := Lib.hid (HK.out.setCell (p := ⟨w.heap.size + 1, 5, none⟩) (fun hl => absurd hl (by simp)) (.int .u8 ((m5.toNat : Int) * 2 % 256)))
          clear hb1 hst hnext hmm hlen hd
          go_wp2
          go_roundw
          case rel => exact ⟨48, by omega, rfl, HB0'.out, HST.out, HK'.out⟩
          case measure => simp [intOf]
    · obtain rfl : k = 48 := by omega
      have hlen := bst_len n 48
      have hb1 := HB1.out
      have hm2 := HM.out
      obtain ⟨m0, m1, m2, m3, m4, m5, hmm⟩ := six (bst n 48) hlen
      rw [hmm] at hb1 hm2
      have HG := Lib.hid hm2
      have x0 := hb1.cell 0
      have x1 := hb1.cell 1
      have x2 := hb1.cell 2
      have x3 := hb1.cell 3
      have x4 := hb1.cell 4
      have x5 := hb1.cell 5
      simp [bys] at x0 x1 x2 x3 x4 x5
      have y0 := HB0.out.cell 0
      have z0 := HB0.out.frozen 0
      have y1 := HB0.out.cell 1
      have z1 := HB0.out.frozen 1
      have y2 := HB0.out.cell 2
      have z2 := HB0.out.frozen 2
      have y3 := HB0.out.cell 3
      have z3 := HB0.out.frozen 3
      have y4 := HB0.out.cell 4
      have z4 := HB0.out.frozen 4
      have y5 := HB0.out.cell 5
      have z5 := HB0.out.frozen 5
      simp at y0 y1 y2 y3 y4 y5
      clear hb1 hm2 hlen hmm
      go_wp2
      refine bodyPost_ret (v := .agg #[.int .u8 (m0.toNat : Int), .int .u8 (m1.toNat : Int), .int .u8 (m2.toNat : Int), .int .u8 (m3.toNat : Int), .int .u8 (m4.toNat : Int), .int .u8 (m5.toNat : Int)]) (by simp [results, Tryd.results19, go_sem, y0, y1, y2, y3, y4, y5]) rfl ⟨by rw [← HG.out]; rfl, ?_⟩
      exact HK.out.fresh (((((((Kept.refl (fun i => w.heap.size ≤ i) wr).put (Nat.le_refl _) _).put (Nat.le_refl _) _).put (Nat.le_refl _) _).put (Nat.le_refl _) _).put (Nat.le_refl _) _).put (Nat.le_refl _) _) (fun i hi => hi)
theorem RBits_int (n : Int) (hn0 : 0 ≤ n) (hn : n ≤ 48) (w : World) :
    Calls Tryd.prog 19 #[.int .i64 n] w fun r w' => r = .returned (mv (maskL n.toNat)) ∧ Kept Nil w w' :=
  RBits_gen n _ (by
    have hmk := bst_mask ⟨n.toNat, by omega⟩
    simp only at hmk
    rw [Int.toNat_of_nonneg hn0] at hmk
    exact hmk) w
theorem bst_low (n : Int) (hn : n ≤ 0) : ∀ i, bst n i = bst 0 i
  | 0 => rfl
  | i + 1 => by
    unfold bst
    rw [bst_low n hn i, if_neg (by omega), if_neg (by omega)]
theorem bst_high (n : Int) (hn : 48 ≤ n) : ∀ i, i ≤ 48 → bst n i = bst 48 i
  | 0, _ => rfl
  | i + 1, h => by
    unfold bst
    rw [bst_high n hn i (by omega), if_pos (by omega), if_pos (by omega)]
theorem RBits_at (n : Int) (k : Nat) (hk : k ≤ 48) (hn : (n < 0 ∧ k = 0) ∨ (48 < n ∧ k = 48) ∨ n = (k : Int)) (w : World) :
    Calls Tryd.prog 19 #[.int .i64 n] w fun r w' => r = .returned (mv (maskL k)) ∧ Kept Nil w w' :=
  RBits_gen n _ (by
    have hmk := bst_mask ⟨k, by omega⟩
    simp only at hmk
    rcases hn with ⟨h1, rfl⟩ | ⟨h1, rfl⟩ | rfl
    · rw [bst_low n (by omega)]; exact hmk
    · rw [bst_high n (by omega) 48 (by omega)]; exact hmk
    · exact hmk) w
theorem RBits_yes (n : Nat) (hn : n ≤ 48) (w : World) :
    Calls Tryd.prog 19 #[.int .i64 (n : Int)] w fun r w' => r = .returned (mv (maskL n)) ∧ Kept Nil w w' := RBits_int (n : Int) (by omega) (by omega) w
end Go.Proofs.YtjfffddaiefggabDoor
