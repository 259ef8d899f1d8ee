/- Contract of mac.ParsePattern, of any text. -/
import Derived.Test.YtifoepglhlpoiaaDoorMacR
namespace Go.Proofs.YtifoepglhlpoiaaDoor
open Go.RowKit Go.Sort Go.BigFrame
set_option linter.unusedVariables false

theorem mv0 : mv [0, 0, 0, 0, 0, 0] = .agg #[.int .u8 0, .int .u8 0, .int .u8 0, .int .u8 0, .int .u8 0, .int .u8 0] := rfl
theorem strCutN (s : ByteArray) (c : UInt8) (hi : Lib.indexByte s.data.toList c = -1) (w : World) :
    Calls Tryd.prog 39 #[.string s, .string ⟨#[c]⟩] w fun e w' => e = .returned (.tuple #[.string s, .string ⟨#[]⟩, .bool false]) ∧ w = w' := by
  have HC := Lib.hid (cutNone s c hi)
  clear hi
  go_enter Tryd.func39, Tryd.ntmps39
  go_wp2_with fail
  refine (HC.out _).mono ?_
  rintro e w1 ⟨rfl, rfl⟩
  go_wp2
  go_ret3
  exact ⟨rfl, rfl⟩
set_option maxHeartbeats 8000000 in
set_option maxRecDepth 100000 in
theorem PPat_any (s : ByteArray) (hm : s.size ≤ 1000) (w : World) (hS : Syn w) :
    Calls Tryd.prog 29 #[.string s] w fun e' w' => e' = .returned (puX (ppt s.data.toList)) ∧ Kept Nil w w' := by
  have hlen : s.data.toList.length = s.size := by rw [Lib.size_eq]
  generalize hpe : puX (ppt s.data.toList) = pe
  have HPE := Lib.hid hpe
  have HZ := Lib.hid (Blo.new w 26 #[.int .u8 0, .int .u8 0, .int .u8 0, .int .u8 0, .int .u8 0, .int .u8 0, .int .u8 0, .int .u8 0, .int .u8 0, .int .u8 0, .int .u8 0, .int .u8 0])
  have HB := Lib.hid (Bits_at 48 48 (by omega) (.inr (.inr rfl)))
  have HS := Lib.hid hS
  clear hpe hS
  by_cases hi : Lib.indexByte s.data.toList 47 = -1
  · have HC := Lib.hid (strCutN s 47 hi)
    have hp := fun w hS => Parse_any s hm w hS
    rcases hr : prs s.data.toList with _ | bs
    · rw [hr] at hp
      have hfin : pe = .tuple #[pv [0, 0, 0, 0, 0, 0] [0, 0, 0, 0, 0, 0], .int .i64 5] := by
        rw [← HPE.out]
        unfold ppt
        rw [if_pos hi, hr]
        rfl
      have HFIN := Lib.hid hfin
      have HP := Lib.hid hp
      clear hp hr hfin hi hlen hm
      go_enter Tryd.func29, Tryd.ntmps29
      go_wp2_with fail
      refine (HC.out _).mono ?_
      rintro e' w1 ⟨rfl, rfl⟩
      have HZ1 := HZ
      have HK1 := Lib.hid ((Kept.refl Nil w).alloc (.cells #[.int .u8 0, .int .u8 0, .int .u8 0, .int .u8 0, .int .u8 0, .int .u8 0, .int .u8 0, .int .u8 0, .int .u8 0, .int .u8 0, .int .u8 0, .int .u8 0] 26))
      go_wp2_with fail
      refine (HP.out _ (HS.out.kept HK1.out)).mono ?_
      rintro e' w2 ⟨rfl, hk2⟩
      rw [puP, mv0]
      have HZ2 := Lib.hid (HZ1.out.kept hk2 (fun hf => hf))
      have HK2 := Lib.hid (HK1.out.then hk2)
      clear hk2
      go_upto_region 4 with (fail)
      obtain ⟨W, hW⟩ : ∃ W, W = w2.alloc (.cells #[.int .u8 0, .int .u8 0, .int .u8 0, .int .u8 0, .int .u8 0, .int .u8 0] 24) := ⟨_, rfl⟩
      rw [← hW]
      have hz3 : Blo W w.heap.size 26 #[.int .u8 0, .int .u8 0, .int .u8 0, .int .u8 0, .int .u8 0, .int .u8 0, .int .u8 0, .int .u8 0, .int .u8 0, .int .u8 0, .int .u8 0, .int .u8 0] := by rw [hW]; exact HZ2.out.alloc _
      have HK3 : Hid (Kept Nil w W) := by unfold Hid; rw [hW]; exact HK2.out.alloc _
      clear hW
      have y0 := hz3.cell 0
      have z0 := hz3.frozen 0
      have y1 := hz3.cell 1
      have z1 := hz3.frozen 1
      have y2 := hz3.cell 2
      have z2 := hz3.frozen 2
      have y3 := hz3.cell 3
      have z3 := hz3.frozen 3
      have y4 := hz3.cell 4
      have z4 := hz3.frozen 4
      have y5 := hz3.cell 5
      have z5 := hz3.frozen 5
      have y6 := hz3.cell 6
      have z6 := hz3.frozen 6
      have y7 := hz3.cell 7
      have z7 := hz3.frozen 7
      have y8 := hz3.cell 8
      have z8 := hz3.frozen 8
      have y9 := hz3.cell 9
      have z9 := hz3.frozen 9
      have y10 := hz3.cell 10
      have z10 := hz3.frozen 10
      have y11 := hz3.cell 11
      have z11 := hz3.frozen 11
      simp at y0 y1 y2 y3 y4 y5 y6 y7 y8 y9 y10 y11
      clear hz3
      go_wp2
      refine bodyPost_ret (v := .tuple #[.agg #[.int .u8 0, .int .u8 0, .int .u8 0, .int .u8 0, .int .u8 0, .int .u8 0, .int .u8 0, .int .u8 0, .int .u8 0, .int .u8 0, .int .u8 0, .int .u8 0], .int .i64 5]) (by simp [results, Tryd.results29, go_sem, y0, y1, y2, y3, y4, y5, y6, y7, y8, y9, y10, y11]) rfl ⟨?_, ?_⟩
      · rw [HFIN.out]
        rfl
      · exact HK3.out.fresh (((((((((((((Kept.refl (fun i => w.heap.size ≤ i) W).put (Nat.le_refl _) _).put (Nat.le_refl _) _).put (Nat.le_refl _) _).put (Nat.le_refl _) _).put (Nat.le_refl _) _).put (Nat.le_refl _) _).put (Nat.le_refl _) _).put (Nat.le_refl _) _).put (Nat.le_refl _) _).put (Nat.le_refl _) _).put (Nat.le_refl _) _).put (Nat.le_refl _) _) (fun i hi => hi)
    · rw [hr] at hp
      obtain ⟨a0, a1, a2, a3, a4, a5, rfl⟩ := six bs (prs_len _ _ hr)
      have hfin : pe = .tuple #[pv (andL [a0, a1, a2, a3, a4, a5] [255, 255, 255, 255, 255, 255]) [255, 255, 255, 255, 255, 255], .int .i64 0] := by
        rw [← HPE.out]
        unfold ppt
        rw [if_pos hi, hr]
        simp only
        rw [if_pos hi]
        rfl
      have HFIN := Lib.hid hfin
      have HP := Lib.hid hp
      have hmk := Masked_yes a0 a1 a2 a3 a4 a5 255 255 255 255 255 255
      have hmk2 : ∀ w, Calls Tryd.prog 20 #[.agg #[.int .u8 (a0.toNat : Int), .int .u8 (a1.toNat : Int), .int .u8 (a2.toNat : Int), .int .u8 (a3.toNat : Int), .int .u8 (a4.toNat : Int), .int .u8 (a5.toNat : Int)], .agg #[.int .u8 255, .int .u8 255, .int .u8 255, .int .u8 255, .int .u8 255, .int .u8 255]] w fun r w' => r = .returned (mv (andL [a0, a1, a2, a3, a4, a5] [255, 255, 255, 255, 255, 255])) ∧ Kept Nil w w' := hmk
      obtain ⟨x0, x1, x2, x3, x4, x5, hx⟩ := six (andL [a0, a1, a2, a3, a4, a5] [255, 255, 255, 255, 255, 255]) rfl
      rw [hx] at hmk2
      simp only [mv6] at hmk2
      have HX := Lib.hid hx
      have HMK := Lib.hid hmk2
      clear hp hr hfin hi hlen hm hmk hmk2 hx
      go_enter Tryd.func29, Tryd.ntmps29
      go_wp2_with fail
      refine (HC.out _).mono ?_
      rintro e' w1 ⟨rfl, rfl⟩
      have HZ1 := HZ
      have HK1 := Lib.hid ((Kept.refl Nil w).alloc (.cells #[.int .u8 0, .int .u8 0, .int .u8 0, .int .u8 0, .int .u8 0, .int .u8 0, .int .u8 0, .int .u8 0, .int .u8 0, .int .u8 0, .int .u8 0, .int .u8 0] 26))
      go_wp2_with fail
      refine (HP.out _ (HS.out.kept HK1.out)).mono ?_
      rintro e' w2 ⟨rfl, hk2⟩
      rw [puP, mv6]
      have HZ2 := Lib.hid (HZ1.out.kept hk2 (fun hf => hf))
      have HK2 := Lib.hid (HK1.out.then hk2)
      clear hk2
      go_wp2_with fail
      refine (HB.out _).mono ?_
      rintro e' w3 ⟨rfl, hk3⟩
      rw [mask48, mv6]
      have HK3 := Lib.hid ((HK2.out.alloc _).then hk3)
      have HZ3 := Lib.hid ((HZ2.out.alloc _).kept hk3 (fun hf => hf))
      have HA3 := Lib.hid ((Blo.new w2 24 #[.int .u8 (a0.toNat : Int), .int .u8 (a1.toNat : Int), .int .u8 (a2.toNat : Int), .int .u8 (a3.toNat : Int), .int .u8 (a4.toNat : Int), .int .u8 (a5.toNat : Int)]).kept hk3 (fun hf => hf))
      have hs2 : w2.heap.size < w3.heap.size := by have := hk3.size; simp at this; omega
      have hs0 : w.heap.size < w2.heap.size := HZ2.out.lt
      have H9 := Lib.hid (Blo.new w3 24 #[.int .u8 255, .int .u8 255, .int .u8 255, .int .u8 255, .int .u8 255, .int .u8 255])
      clear hk3
      generalize hg7 : w2.heap.size = g7 at *
      go_upto_region 10 with (fail)
      generalize hg9 : w3.heap.size = g9 at *
      have hbA := HA3.out.alloc (.cells #[.int .u8 255, .int .u8 255, .int .u8 255, .int .u8 255, .int .u8 255, .int .u8 255] 24)
      have hbZ := HZ3.out.alloc (.cells #[.int .u8 255, .int .u8 255, .int .u8 255, .int .u8 255, .int .u8 255, .int .u8 255] 24)
      have hbM := H9.out
      have hKW := HK3.out.alloc (.cells #[.int .u8 255, .int .u8 255, .int .u8 255, .int .u8 255, .int .u8 255, .int .u8 255] 24)
      have HBA := Lib.hid hbA
      have HBM := Lib.hid hbM
      have HBZ := Lib.hid hbZ
      have HKW := Lib.hid hKW
      clear hbA hbM hbZ hKW
      have n7 : g7 ≠ w.heap.size := by omega
      have n9 : g9 ≠ w.heap.size := by omega
      generalize hg2 : w.heap.size = g2 at *
      refine wp_region_own3 (One g2) (upd noOwn g2 (false, #[.int .u8 0, .int .u8 0, .int .u8 0, .int .u8 0, .int .u8 0, .int .u8 0, .int .u8 0, .int .u8 0, .int .u8 0, .int .u8 0, .int .u8 0, .int .u8 0], 26)) (fun _ => #[]) 5 (fun _ => .int .i64 0) (by kernel_rfl) (by kernel_rfl) (by kernel_rfl) (holds_one HBZ.out) ?_
      apply Exists.intro
      refine And.intro ?hq ?ht
      case hq =>
        intro V hV
        have k7 := HBA.out.kept hV (fun hf => n7 hf)
        have k9 := HBM.out.kept hV (fun hf => n9 hf)
        have ca0 := k7.gcell 0
        have ca1 := k7.gcell 1
        have ca2 := k7.gcell 2
        have ca3 := k7.gcell 3
        have ca4 := k7.gcell 4
        have ca5 := k7.gcell 5
        simp at ca0 ca1 ca2 ca3 ca4 ca5
        have cm0 := k9.gcell 0
        have cm1 := k9.gcell 1
        have cm2 := k9.gcell 2
        have cm3 := k9.gcell 3
        have cm4 := k9.gcell 4
        have cm5 := k9.gcell 5
        simp at cm0 cm1 cm2 cm3 cm4 cm5
        clear k7 k9
        dsimp only [List.take]
        repeat (go_big_quiet_step (first | (with_reducible exact quietK (HMK.out _))))
        exact wpQuiet_nil rfl
      case ht =>
        intro vs hvs
        dsimp only [List.drop]
        refine sLex_store 26 (.tmp 2) (.tmp 40) rfl rfl rfl g2 #[.int .u8 0, .int .u8 0, .int .u8 0, .int .u8 0, .int .u8 0, .int .u8 0, .int .u8 0, .int .u8 0, .int .u8 0, .int .u8 0, .int .u8 0, .int .u8 0] #[.int .u8 (x0.toNat : Int), .int .u8 (x1.toNat : Int), .int .u8 (x2.toNat : Int), .int .u8 (x3.toNat : Int), .int .u8 (x4.toNat : Int), .int .u8 (x5.toNat : Int), .int .u8 255, .int .u8 255, .int .u8 255, .int .u8 255, .int .u8 255, .int .u8 255] (by rfl) (by simp [upd]) (by rfl) rfl (by kernel_rfl) (by simp [Value.oneCell']) ?_
        refine sLex_assign (.const (.int .i64 0)) rfl rfl (hvs _ (by simp)) ?_
        intro w' hh
        have hb2 := (hh.own g2 true #[.int .u8 (x0.toNat : Int), .int .u8 (x1.toNat : Int), .int .u8 (x2.toNat : Int), .int .u8 (x3.toNat : Int), .int .u8 (x4.toNat : Int), .int .u8 (x5.toNat : Int), .int .u8 255, .int .u8 255, .int .u8 255, .int .u8 255, .int .u8 255, .int .u8 255] 26 (by simp [upd])).2
        have hkk := Lib.hid hh.kept
        have y0 := hb2.cell 0
        have z0 := hb2.frozen 0
        have y1 := hb2.cell 1
        have z1 := hb2.frozen 1
        have y2 := hb2.cell 2
        have z2 := hb2.frozen 2
        have y3 := hb2.cell 3
        have z3 := hb2.frozen 3
        have y4 := hb2.cell 4
        have z4 := hb2.frozen 4
        have y5 := hb2.cell 5
        have z5 := hb2.frozen 5
        have y6 := hb2.cell 6
        have z6 := hb2.frozen 6
        have y7 := hb2.cell 7
        have z7 := hb2.frozen 7
        have y8 := hb2.cell 8
        have z8 := hb2.frozen 8
        have y9 := hb2.cell 9
        have z9 := hb2.frozen 9
        have y10 := hb2.cell 10
        have z10 := hb2.frozen 10
        have y11 := hb2.cell 11
        have z11 := hb2.frozen 11
        simp at y0 y1 y2 y3 y4 y5 y6 y7 y8 y9 y10 y11
        clear hb2
        go_wp2
        refine bodyPost_ret (v := .tuple #[.agg #[.int .u8 (x0.toNat : Int), .int .u8 (x1.toNat : Int), .int .u8 (x2.toNat : Int), .int .u8 (x3.toNat : Int), .int .u8 (x4.toNat : Int), .int .u8 (x5.toNat : Int), .int .u8 255, .int .u8 255, .int .u8 255, .int .u8 255, .int .u8 255, .int .u8 255], .int .i64 0]) (by simp [results, Tryd.results29, go_sem, y0, y1, y2, y3, y4, y5, y6, y7, y8, y9, y10, y11]) rfl ⟨?_, ?_⟩
        · rw [HFIN.out, HX.out]
          rfl
        · exact HKW.out.fresh hkk.out (fun i hi => by cases hi; omega)
  · obtain ⟨i, hi2, hi3⟩ : ∃ i : Nat, Lib.indexByte s.data.toList 47 = (i : Int) ∧ i < s.size := by
      have := indexByte_lt s.data.toList 47
      exact ⟨(Lib.indexByte s.data.toList 47).toNat, by omega, by omega⟩
    have HC := Lib.hid (strCut s 47 i (by omega) hi2)
    have hl1 : (s.extract 0 i).data.toList = s.data.toList.take i := by rw [Lib.extract_data]; simp
    have hl2 : (s.extract (i + 1) s.size).data.toList = s.data.toList.drop (i + 1) := by rw [Lib.extract_data]; exact List.take_of_length_le (by rw [List.length_drop]; omega)
    have hp := fun w hS => Parse_any (s.extract 0 i) (by rw [ByteArray.size_extract]; omega) w hS
    have hpm := fun w hS => parseMask_any (s.extract (i + 1) s.size) (by rw [ByteArray.size_extract]; omega) w hS
    simp only [hl1] at hp
    simp only [hl2] at hpm
    rcases hr : prs (s.data.toList.take i) with _ | bs
    · rw [hr] at hp
      have hfin : pe = .tuple #[pv [0, 0, 0, 0, 0, 0] [0, 0, 0, 0, 0, 0], .int .i64 5] := by
        rw [← HPE.out]
        unfold ppt
        rw [if_neg hi, hi2, Int.toNat_natCast, hr]
        rfl
      have HFIN := Lib.hid hfin
      have HP := Lib.hid hp
      clear hp hpm hr hfin hi hi2 hlen hl1 hl2
      go_enter Tryd.func29, Tryd.ntmps29
      go_wp2_with fail
      refine (HC.out _).mono ?_
      rintro e' w1 ⟨rfl, q, hw1⟩
      have hk1 : Kept Nil w w1 := by rw [hw1]; exact ((Kept.refl Nil w).alloc _).drewN q
      have HZ1 : Hid (Blo w1 w.heap.size 26 #[.int .u8 0, .int .u8 0, .int .u8 0, .int .u8 0, .int .u8 0, .int .u8 0, .int .u8 0, .int .u8 0, .int .u8 0, .int .u8 0, .int .u8 0, .int .u8 0]) := by unfold Hid; rw [hw1]; exact HZ.out.heap rfl
      have HK1 := Lib.hid hk1
      clear hw1 hk1 HZ
      go_wp2_with fail
      refine (HP.out _ (HS.out.kept HK1.out)).mono ?_
      rintro e' w2 ⟨rfl, hk2⟩
      rw [puP, mv0]
      have HZ2 := Lib.hid (HZ1.out.kept hk2 (fun hf => hf))
      have HK2 := Lib.hid (HK1.out.then hk2)
      clear hk2
      go_upto_region 4 with (fail)
      obtain ⟨W, hW⟩ : ∃ W, W = w2.alloc (.cells #[.int .u8 0, .int .u8 0, .int .u8 0, .int .u8 0, .int .u8 0, .int .u8 0] 24) := ⟨_, rfl⟩
      rw [← hW]
      have hz3 : Blo W w.heap.size 26 #[.int .u8 0, .int .u8 0, .int .u8 0, .int .u8 0, .int .u8 0, .int .u8 0, .int .u8 0, .int .u8 0, .int .u8 0, .int .u8 0, .int .u8 0, .int .u8 0] := by rw [hW]; exact HZ2.out.alloc _
      have HK3 : Hid (Kept Nil w W) := by unfold Hid; rw [hW]; exact HK2.out.alloc _
      clear hW
      have y0 := hz3.cell 0
      have z0 := hz3.frozen 0
      have y1 := hz3.cell 1
      have z1 := hz3.frozen 1
      have y2 := hz3.cell 2
      have z2 := hz3.frozen 2
      have y3 := hz3.cell 3
      have z3 := hz3.frozen 3
      have y4 := hz3.cell 4
      have z4 := hz3.frozen 4
      have y5 := hz3.cell 5
      have z5 := hz3.frozen 5
      have y6 := hz3.cell 6
      have z6 := hz3.frozen 6
      have y7 := hz3.cell 7
      have z7 := hz3.frozen 7
      have y8 := hz3.cell 8
      have z8 := hz3.frozen 8
      have y9 := hz3.cell 9
      have z9 := hz3.frozen 9
      have y10 := hz3.cell 10
      have z10 := hz3.frozen 10
      have y11 := hz3.cell 11
      have z11 := hz3.frozen 11
      simp at y0 y1 y2 y3 y4 y5 y6 y7 y8 y9 y10 y11
      clear hz3
      go_wp2
      refine bodyPost_ret (v := .tuple #[.agg #[.int .u8 0, .int .u8 0, .int .u8 0, .int .u8 0, .int .u8 0, .int .u8 0, .int .u8 0, .int .u8 0, .int .u8 0, .int .u8 0, .int .u8 0, .int .u8 0], .int .i64 5]) (by simp [results, Tryd.results29, go_sem, y0, y1, y2, y3, y4, y5, y6, y7, y8, y9, y10, y11]) rfl ⟨?_, ?_⟩
      · rw [HFIN.out]
        rfl
      · exact HK3.out.fresh (((((((((((((Kept.refl (fun i => w.heap.size ≤ i) W).put (Nat.le_refl _) _).put (Nat.le_refl _) _).put (Nat.le_refl _) _).put (Nat.le_refl _) _).put (Nat.le_refl _) _).put (Nat.le_refl _) _).put (Nat.le_refl _) _).put (Nat.le_refl _) _).put (Nat.le_refl _) _).put (Nat.le_refl _) _).put (Nat.le_refl _) _).put (Nat.le_refl _) _) (fun i hi => hi)
    · rw [hr] at hp
      obtain ⟨a0, a1, a2, a3, a4, a5, rfl⟩ := six bs (prs_len _ _ hr)
      have HP := Lib.hid hp
      rcases hq : pmk (s.data.toList.drop (i + 1)) with ee | ms
      · rw [hq] at hpm
        have hfin : pe = .tuple #[pv [0, 0, 0, 0, 0, 0] [0, 0, 0, 0, 0, 0], .int .i64 (ee : Int)] := by
          rw [← HPE.out]
          unfold ppt
          rw [if_neg hi, hi2, Int.toNat_natCast, hr]
          simp only
          rw [if_neg (by omega), hq]
          rfl
        have HFIN := Lib.hid hfin
        have hee : ee = 5 ∨ ee = 24 := by
          unfold pmk at hq
          split at hq
          · split at hq <;> cases hq
            exact .inl rfl
          · split at hq
            · cases hq; exact .inl rfl
            · split at hq
              · cases hq; exact .inl rfl
              · split at hq <;> cases hq
                exact .inr rfl
        have hee2 : ((ee : Int) == 0) = false := by rw [beq_eq_false_iff_ne]; omega
        have HM := Lib.hid hpm
        clear hp hpm hr hfin hi hi2 hlen hl1 hl2 hq hee
        go_enter Tryd.func29, Tryd.ntmps29
        go_wp2_with fail
        refine (HC.out _).mono ?_
        rintro e' w1 ⟨rfl, q, hw1⟩
        have hk1 : Kept Nil w w1 := by rw [hw1]; exact ((Kept.refl Nil w).alloc _).drewN q
        have HZ1 : Hid (Blo w1 w.heap.size 26 #[.int .u8 0, .int .u8 0, .int .u8 0, .int .u8 0, .int .u8 0, .int .u8 0, .int .u8 0, .int .u8 0, .int .u8 0, .int .u8 0, .int .u8 0, .int .u8 0]) := by unfold Hid; rw [hw1]; exact HZ.out.heap rfl
        have HK1 := Lib.hid hk1
        clear hw1 hk1 HZ
        go_wp2_with fail
        refine (HP.out _ (HS.out.kept HK1.out)).mono ?_
        rintro e' w2 ⟨rfl, hk2⟩
        rw [puP, mv6]
        have HZ2 := Lib.hid (HZ1.out.kept hk2 (fun hf => hf))
        have HK2 := Lib.hid (HK1.out.then hk2)
        clear hk2
        go_wp2_with fail
        refine (HB.out _).mono ?_
        rintro e' w3 ⟨rfl, hk3⟩
        rw [mask48, mv6]
        have HK3 := Lib.hid ((HK2.out.alloc _).then hk3)
        have HZ3 := Lib.hid ((HZ2.out.alloc _).kept hk3 (fun hf => hf))
        have HA3 := Lib.hid ((Blo.new w2 24 #[.int .u8 (a0.toNat : Int), .int .u8 (a1.toNat : Int), .int .u8 (a2.toNat : Int), .int .u8 (a3.toNat : Int), .int .u8 (a4.toNat : Int), .int .u8 (a5.toNat : Int)]).kept hk3 (fun hf => hf))
        have hs2 : w2.heap.size < w3.heap.size := by have := hk3.size; simp at this; omega
        have hs0 : w.heap.size < w2.heap.size := HZ2.out.lt
        have H9 := Lib.hid (Blo.new w3 24 #[.int .u8 255, .int .u8 255, .int .u8 255, .int .u8 255, .int .u8 255, .int .u8 255])
        clear hk3
        generalize hg7 : w2.heap.size = g7 at *
        go_wp2_with fail
        refine (HM.out _ (HS.out.kept (HK3.out.alloc _))).mono ?_
        rintro e' w4 ⟨rfl, hk4⟩
        rw [puE, mv0]
        have HK4 := Lib.hid ((HK3.out.alloc (.cells #[.int .u8 255, .int .u8 255, .int .u8 255, .int .u8 255, .int .u8 255, .int .u8 255] 24)).then hk4)
        have hz4 := (HZ3.out.alloc (.cells #[.int .u8 255, .int .u8 255, .int .u8 255, .int .u8 255, .int .u8 255, .int .u8 255] 24)).kept hk4 (fun hf => hf)
        have h94 := H9.out.kept hk4 (fun hf => hf)
        have hsz : w.heap.size < w3.heap.size := by omega
        have y0 := h94.cell 0
        have z0 := h94.frozen 0
        have y1 := h94.cell 1
        have z1 := h94.frozen 1
        have y2 := h94.cell 2
        have z2 := h94.frozen 2
        have y3 := h94.cell 3
        have z3 := h94.frozen 3
        have y4 := h94.cell 4
        have z4 := h94.frozen 4
        have y5 := h94.cell 5
        have z5 := h94.frozen 5
        simp at y0 y1 y2 y3 y4 y5
        have HZ4 := Lib.hid hz4
        generalize hg9 : w3.heap.size = g9 at *
        clear hk4 hz4 h94
        go_upto_region 9 with (fail)
        obtain ⟨W, hW⟩ : ∃ W, W = ((((((w4.setCell ⟨g9, 0, none⟩ (.int .u8 0)).setCell ⟨g9, 1, none⟩ (.int .u8 0)).setCell ⟨g9, 2, none⟩ (.int .u8 0)).setCell ⟨g9, 3, none⟩ (.int .u8 0)).setCell ⟨g9, 4, none⟩ (.int .u8 0)).setCell ⟨g9, 5, none⟩ (.int .u8 0)) := ⟨_, rfl⟩
        rw [← hW]
        have hbZ : Blo W w.heap.size 26 #[.int .u8 0, .int .u8 0, .int .u8 0, .int .u8 0, .int .u8 0, .int .u8 0, .int .u8 0, .int .u8 0, .int .u8 0, .int .u8 0, .int .u8 0, .int .u8 0] := by rw [hW]; exact ((((((HZ4.out.far (by simp; omega) _).far (by simp; omega) _).far (by simp; omega) _).far (by simp; omega) _).far (by simp; omega) _).far (by simp; omega) _)
        have HKW : Hid (Kept Nil w W) := by unfold Hid; rw [hW]; exact HK4.out.fresh (((((((Kept.refl (fun i => w.heap.size ≤ i) w4).put (by omega) _).put (by omega) _).put (by omega) _).put (by omega) _).put (by omega) _).put (by omega) _) (fun i hi => hi)
        clear hW y0 y1 y2 y3 y4 y5 z0 z1 z2 z3 z4 z5
        have u0 := hbZ.cell 0
        have v0 := hbZ.frozen 0
        have u1 := hbZ.cell 1
        have v1 := hbZ.frozen 1
        have u2 := hbZ.cell 2
        have v2 := hbZ.frozen 2
        have u3 := hbZ.cell 3
        have v3 := hbZ.frozen 3
        have u4 := hbZ.cell 4
        have v4 := hbZ.frozen 4
        have u5 := hbZ.cell 5
        have v5 := hbZ.frozen 5
        have u6 := hbZ.cell 6
        have v6 := hbZ.frozen 6
        have u7 := hbZ.cell 7
        have v7 := hbZ.frozen 7
        have u8 := hbZ.cell 8
        have v8 := hbZ.frozen 8
        have u9 := hbZ.cell 9
        have v9 := hbZ.frozen 9
        have u10 := hbZ.cell 10
        have v10 := hbZ.frozen 10
        have u11 := hbZ.cell 11
        have v11 := hbZ.frozen 11
        simp at u0 u1 u2 u3 u4 u5 u6 u7 u8 u9 u10 u11
        clear hbZ
        go_wp2
        refine bodyPost_ret (v := .tuple #[.agg #[.int .u8 0, .int .u8 0, .int .u8 0, .int .u8 0, .int .u8 0, .int .u8 0, .int .u8 0, .int .u8 0, .int .u8 0, .int .u8 0, .int .u8 0, .int .u8 0], .int .i64 (ee : Int)]) (by simp [results, Tryd.results29, go_sem, u0, u1, u2, u3, u4, u5, u6, u7, u8, u9, u10, u11]) rfl ⟨?_, ?_⟩
        · rw [HFIN.out]
          rfl
        · exact HKW.out.fresh (((((((((((((Kept.refl (fun i => w.heap.size ≤ i) W).put (Nat.le_refl _) _).put (Nat.le_refl _) _).put (Nat.le_refl _) _).put (Nat.le_refl _) _).put (Nat.le_refl _) _).put (Nat.le_refl _) _).put (Nat.le_refl _) _).put (Nat.le_refl _) _).put (Nat.le_refl _) _).put (Nat.le_refl _) _).put (Nat.le_refl _) _).put (Nat.le_refl _) _) (fun i hi => hi)
      · rw [hq] at hpm
        obtain ⟨m0, m1, m2, m3, m4, m5, rfl⟩ := six ms (pmk_len _ _ hq)
        have hfin : pe = .tuple #[pv (andL [a0, a1, a2, a3, a4, a5] [m0, m1, m2, m3, m4, m5]) [m0, m1, m2, m3, m4, m5], .int .i64 0] := by
          rw [← HPE.out]
          unfold ppt
          rw [if_neg hi, hi2, Int.toNat_natCast, hr]
          simp only
          rw [if_neg (by omega), hq]
          rfl
        have HFIN := Lib.hid hfin
        have hmk := Masked_yes a0 a1 a2 a3 a4 a5 m0 m1 m2 m3 m4 m5
        have hmk2 : ∀ w, Calls Tryd.prog 20 #[.agg #[.int .u8 (a0.toNat : Int), .int .u8 (a1.toNat : Int), .int .u8 (a2.toNat : Int), .int .u8 (a3.toNat : Int), .int .u8 (a4.toNat : Int), .int .u8 (a5.toNat : Int)], .agg #[.int .u8 (m0.toNat : Int), .int .u8 (m1.toNat : Int), .int .u8 (m2.toNat : Int), .int .u8 (m3.toNat : Int), .int .u8 (m4.toNat : Int), .int .u8 (m5.toNat : Int)]] w fun r w' => r = .returned (mv (andL [a0, a1, a2, a3, a4, a5] [m0, m1, m2, m3, m4, m5])) ∧ Kept Nil w w' := hmk
        obtain ⟨x0, x1, x2, x3, x4, x5, hx⟩ := six (andL [a0, a1, a2, a3, a4, a5] [m0, m1, m2, m3, m4, m5]) rfl
        rw [hx] at hmk2
        simp only [mv6] at hmk2
        have HX := Lib.hid hx
        have HMK := Lib.hid hmk2
        have HM := Lib.hid hpm
        clear hp hpm hr hfin hi hi2 hlen hl1 hl2 hq hmk hmk2 hx
        go_enter Tryd.func29, Tryd.ntmps29
        go_wp2_with fail
        refine (HC.out _).mono ?_
        rintro e' w1 ⟨rfl, q, hw1⟩
        have hk1 : Kept Nil w w1 := by rw [hw1]; exact ((Kept.refl Nil w).alloc _).drewN q
        have HZ1 : Hid (Blo w1 w.heap.size 26 #[.int .u8 0, .int .u8 0, .int .u8 0, .int .u8 0, .int .u8 0, .int .u8 0, .int .u8 0, .int .u8 0, .int .u8 0, .int .u8 0, .int .u8 0, .int .u8 0]) := by unfold Hid; rw [hw1]; exact HZ.out.heap rfl
        have HK1 := Lib.hid hk1
        clear hw1 hk1 HZ
        go_wp2_with fail
        refine (HP.out _ (HS.out.kept HK1.out)).mono ?_
        rintro e' w2 ⟨rfl, hk2⟩
        rw [puP, mv6]
        have HZ2 := Lib.hid (HZ1.out.kept hk2 (fun hf => hf))
        have HK2 := Lib.hid (HK1.out.then hk2)
        clear hk2
        go_wp2_with fail
        refine (HB.out _).mono ?_
        rintro e' w3 ⟨rfl, hk3⟩
        rw [mask48, mv6]
        have HK3 := Lib.hid ((HK2.out.alloc _).then hk3)
        have HZ3 := Lib.hid ((HZ2.out.alloc _).kept hk3 (fun hf => hf))
        have HA3 := Lib.hid ((Blo.new w2 24 #[.int .u8 (a0.toNat : Int), .int .u8 (a1.toNat : Int), .int .u8 (a2.toNat : Int), .int .u8 (a3.toNat : Int), .int .u8 (a4.toNat : Int), .int .u8 (a5.toNat : Int)]).kept hk3 (fun hf => hf))
        have hs2 : w2.heap.size < w3.heap.size := by have := hk3.size; simp at this; omega
        have hs0 : w.heap.size < w2.heap.size := HZ2.out.lt
        have H9 := Lib.hid (Blo.new w3 24 #[.int .u8 255, .int .u8 255, .int .u8 255, .int .u8 255, .int .u8 255, .int .u8 255])
        clear hk3
        generalize hg7 : w2.heap.size = g7 at *
        go_wp2_with fail
        refine (HM.out _ (HS.out.kept (HK3.out.alloc _))).mono ?_
        rintro e' w4 ⟨rfl, hk4⟩
        rw [puE, mv6]
        have HK4 := Lib.hid ((HK3.out.alloc (.cells #[.int .u8 255, .int .u8 255, .int .u8 255, .int .u8 255, .int .u8 255, .int .u8 255] 24)).then hk4)
        have hz4 := (HZ3.out.alloc (.cells #[.int .u8 255, .int .u8 255, .int .u8 255, .int .u8 255, .int .u8 255, .int .u8 255] 24)).kept hk4 (fun hf => hf)
        have ha4 := (HA3.out.alloc (.cells #[.int .u8 255, .int .u8 255, .int .u8 255, .int .u8 255, .int .u8 255, .int .u8 255] 24)).kept hk4 (fun hf => hf)
        have h94 := H9.out.kept hk4 (fun hf => hf)
        have hsz : w.heap.size < w3.heap.size := by omega
        have y0 := h94.cell 0
        have z0 := h94.frozen 0
        have y1 := h94.cell 1
        have z1 := h94.frozen 1
        have y2 := h94.cell 2
        have z2 := h94.frozen 2
        have y3 := h94.cell 3
        have z3 := h94.frozen 3
        have y4 := h94.cell 4
        have z4 := h94.frozen 4
        have y5 := h94.cell 5
        have z5 := h94.frozen 5
        simp at y0 y1 y2 y3 y4 y5
        have HZ4 := Lib.hid hz4
        have HA4 := Lib.hid ha4
        have H94 := Lib.hid h94
        clear hk4 hz4 ha4 h94
        generalize hg9 : w3.heap.size = g9 at *
        go_upto_region 10 with (fail)
        obtain ⟨W, hW⟩ : ∃ W, W = ((((((w4.setCell ⟨g9, 0, none⟩ (.int .u8 (m0.toNat : Int))).setCell ⟨g9, 1, none⟩ (.int .u8 (m1.toNat : Int))).setCell ⟨g9, 2, none⟩ (.int .u8 (m2.toNat : Int))).setCell ⟨g9, 3, none⟩ (.int .u8 (m3.toNat : Int))).setCell ⟨g9, 4, none⟩ (.int .u8 (m4.toNat : Int))).setCell ⟨g9, 5, none⟩ (.int .u8 (m5.toNat : Int))) := ⟨_, rfl⟩
        rw [← hW]
        have hbA : Blo W g7 24 #[.int .u8 (a0.toNat : Int), .int .u8 (a1.toNat : Int), .int .u8 (a2.toNat : Int), .int .u8 (a3.toNat : Int), .int .u8 (a4.toNat : Int), .int .u8 (a5.toNat : Int)] := by rw [hW]; exact ((((((HA4.out.far (by simp; omega) _).far (by simp; omega) _).far (by simp; omega) _).far (by simp; omega) _).far (by simp; omega) _).far (by simp; omega) _)
        have hbZ : Blo W w.heap.size 26 #[.int .u8 0, .int .u8 0, .int .u8 0, .int .u8 0, .int .u8 0, .int .u8 0, .int .u8 0, .int .u8 0, .int .u8 0, .int .u8 0, .int .u8 0, .int .u8 0] := by rw [hW]; exact ((((((HZ4.out.far (by simp; omega) _).far (by simp; omega) _).far (by simp; omega) _).far (by simp; omega) _).far (by simp; omega) _).far (by simp; omega) _)
        have hbM : Blo W g9 24 #[.int .u8 (m0.toNat : Int), .int .u8 (m1.toNat : Int), .int .u8 (m2.toNat : Int), .int .u8 (m3.toNat : Int), .int .u8 (m4.toNat : Int), .int .u8 (m5.toNat : Int)] := by rw [hW]; exact ((((((H94.out.set 0 _).set 1 _).set 2 _).set 3 _).set 4 _).set 5 _)
        have hKW : Kept Nil w W := by rw [hW]; exact HK4.out.fresh (((((((Kept.refl (fun i => w.heap.size ≤ i) w4).put (by omega) _).put (by omega) _).put (by omega) _).put (by omega) _).put (by omega) _).put (by omega) _) (fun i hi => hi)
        clear hW y0 y1 y2 y3 y4 y5 z0 z1 z2 z3 z4 z5
        have HBA := Lib.hid hbA
        have HBM := Lib.hid hbM
        have HBZ := Lib.hid hbZ
        have HKW := Lib.hid hKW
        clear hbA hbM hbZ hKW
        have n7 : g7 ≠ w.heap.size := by omega
        have n9 : g9 ≠ w.heap.size := by omega
        generalize hg2 : w.heap.size = g2 at *
        refine wp_region_own3 (One g2) (upd noOwn g2 (false, #[.int .u8 0, .int .u8 0, .int .u8 0, .int .u8 0, .int .u8 0, .int .u8 0, .int .u8 0, .int .u8 0, .int .u8 0, .int .u8 0, .int .u8 0, .int .u8 0], 26)) (fun _ => #[]) 5 (fun _ => .int .i64 0) (by kernel_rfl) (by kernel_rfl) (by kernel_rfl) (holds_one HBZ.out) ?_
        apply Exists.intro
        refine And.intro ?hq ?ht
        case hq =>
          intro V hV
          have k7 := HBA.out.kept hV (fun hf => n7 hf)
          have k9 := HBM.out.kept hV (fun hf => n9 hf)
          have ca0 := k7.gcell 0
          have ca1 := k7.gcell 1
          have ca2 := k7.gcell 2
          have ca3 := k7.gcell 3
          have ca4 := k7.gcell 4
          have ca5 := k7.gcell 5
          simp at ca0 ca1 ca2 ca3 ca4 ca5
          have cm0 := k9.gcell 0
          have cm1 := k9.gcell 1
          have cm2 := k9.gcell 2
          have cm3 := k9.gcell 3
          have cm4 := k9.gcell 4
          have cm5 := k9.gcell 5
          simp at cm0 cm1 cm2 cm3 cm4 cm5
          clear k7 k9
          dsimp only [List.take]
          repeat (go_big_quiet_step (first | (with_reducible exact quietK (HMK.out _))))
          exact wpQuiet_nil rfl
        case ht =>
          intro vs hvs
          dsimp only [List.drop]
          refine sLex_store 26 (.tmp 2) (.tmp 40) rfl rfl rfl g2 #[.int .u8 0, .int .u8 0, .int .u8 0, .int .u8 0, .int .u8 0, .int .u8 0, .int .u8 0, .int .u8 0, .int .u8 0, .int .u8 0, .int .u8 0, .int .u8 0] #[.int .u8 (x0.toNat : Int), .int .u8 (x1.toNat : Int), .int .u8 (x2.toNat : Int), .int .u8 (x3.toNat : Int), .int .u8 (x4.toNat : Int), .int .u8 (x5.toNat : Int), .int .u8 (m0.toNat : Int), .int .u8 (m1.toNat : Int), .int .u8 (m2.toNat : Int), .int .u8 (m3.toNat : Int), .int .u8 (m4.toNat : Int), .int .u8 (m5.toNat : Int)] (by rfl) (by simp [upd]) (by rfl) rfl (by kernel_rfl) (by simp [Value.oneCell']) ?_
          refine sLex_assign (.const (.int .i64 0)) rfl rfl (hvs _ (by simp)) ?_
          intro w' hh
          have hb2 := (hh.own g2 true #[.int .u8 (x0.toNat : Int), .int .u8 (x1.toNat : Int), .int .u8 (x2.toNat : Int), .int .u8 (x3.toNat : Int), .int .u8 (x4.toNat : Int), .int .u8 (x5.toNat : Int), .int .u8 (m0.toNat : Int), .int .u8 (m1.toNat : Int), .int .u8 (m2.toNat : Int), .int .u8 (m3.toNat : Int), .int .u8 (m4.toNat : Int), .int .u8 (m5.toNat : Int)] 26 (by simp [upd])).2
          have hkk := Lib.hid hh.kept
          have y0 := hb2.cell 0
          have z0 := hb2.frozen 0
          have y1 := hb2.cell 1
          have z1 := hb2.frozen 1
          have y2 := hb2.cell 2
          have z2 := hb2.frozen 2
          have y3 := hb2.cell 3
          have z3 := hb2.frozen 3
          have y4 := hb2.cell 4
          have z4 := hb2.frozen 4
          have y5 := hb2.cell 5
          have z5 := hb2.frozen 5
          have y6 := hb2.cell 6
          have z6 := hb2.frozen 6
          have y7 := hb2.cell 7
          have z7 := hb2.frozen 7
          have y8 := hb2.cell 8
          have z8 := hb2.frozen 8
          have y9 := hb2.cell 9
          have z9 := hb2.frozen 9
          have y10 := hb2.cell 10
          have z10 := hb2.frozen 10
          have y11 := hb2.cell 11
          have z11 := hb2.frozen 11
          simp at y0 y1 y2 y3 y4 y5 y6 y7 y8 y9 y10 y11
          clear hb2
          go_wp2
          refine bodyPost_ret (v := .tuple #[.agg #[.int .u8 (x0.toNat : Int), .int .u8 (x1.toNat : Int), .int .u8 (x2.toNat : Int), .int .u8 (x3.toNat : Int), .int .u8 (x4.toNat : Int), .int .u8 (x5.toNat : Int), .int .u8 (m0.toNat : Int), .int .u8 (m1.toNat : Int), .int .u8 (m2.toNat : Int), .int .u8 (m3.toNat : Int), .int .u8 (m4.toNat : Int), .int .u8 (m5.toNat : Int)], .int .i64 0]) (by simp [results, Tryd.results29, go_sem, y0, y1, y2, y3, y4, y5, y6, y7, y8, y9, y10, y11]) rfl ⟨?_, ?_⟩
          · rw [HFIN.out, HX.out]
            rfl
          · exact HKW.out.fresh hkk.out (fun i hi => by cases hi; omega)

end Go.Proofs.YtifoepglhlpoiaaDoor
