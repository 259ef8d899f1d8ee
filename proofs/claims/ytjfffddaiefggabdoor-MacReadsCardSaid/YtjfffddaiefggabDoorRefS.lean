/- Contract of tollref02.ParsePattern, of any text: what mac's comes to. -/
import Derived.Test.YtjfffddaiefggabDoorRefSM
import Derived.Test.YtjfffddaiefggabDoorRegO
import Derived.Test.YtjfffddaiefggabDoorMaskM
import Derived.Deep.DeepCutAuto
namespace Go.Proofs.YtjfffddaiefggabDoor
open Go.RowKit Go.Sort Go.BigFrame
set_option linter.unusedVariables false

theorem mv00 : mv [0, 0, 0, 0, 0, 0] = .agg #[.int .u8 0, .int .u8 0, .int .u8 0, .int .u8 0, .int .u8 0, .int .u8 0] := rfl
theorem size_of_list (s : ByteArray) : s.data.toList.length = s.size := by rw [Lib.size_eq]
theorem digv_no (d : UInt8) (h : ¬ (48 ≤ d.toNat ∧ d.toNat ≤ 57)) : ¬ digv d < 10 := by
  unfold digv
  rw [if_neg h]
  split <;> omega
theorem digv_yes (d : UInt8) (h : 48 ≤ d.toNat ∧ d.toNat ≤ 57) : digv d = d.toNat - 48 := by
  unfold digv
  rw [if_pos h]
set_option maxHeartbeats 16000000 in
set_option maxRecDepth 100000 in
theorem RPPat_any (s : ByteArray) (hm : s.size ≤ 1000) (w : World) :
    Calls Tryd.prog 30 #[.string s] w fun e' w' => e' = .returned (puX (ppt s.data.toList)) ∧ Kept Nil w w' := by
  have hlen := size_of_list s
  generalize hpe : puX (ppt s.data.toList) = pe
  have HPE := Lib.hid hpe
  have HZ := Lib.hid (Blo.new w 28 #[.int .u8 0, .int .u8 0, .int .u8 0, .int .u8 0, .int .u8 0, .int .u8 0, .int .u8 0, .int .u8 0, .int .u8 0, .int .u8 0, .int .u8 0, .int .u8 0])
  clear hpe
  by_cases h17 : s.size < 17
  · have hfin : pe = .tuple #[pv [0, 0, 0, 0, 0, 0] [0, 0, 0, 0, 0, 0], .int .i64 5] := by
      rw [← HPE.out, ppt_none _ (by unfold prs; rw [if_neg (by rw [List.length_take]; omega)])]
      rfl
    have HFIN := Lib.hid hfin
    have hc : ((s.size : Int) < 17) := by omega
    clear hfin hlen hm h17
    go_enter Tryd.func30, Tryd.ntmps30
    go_wp2
    refine bodyPost_ret (v := .tuple #[.agg #[.int .u8 0, .int .u8 0, .int .u8 0, .int .u8 0, .int .u8 0, .int .u8 0, .int .u8 0, .int .u8 0, .int .u8 0, .int .u8 0, .int .u8 0, .int .u8 0], .int .i64 5]) (by simp [results, Tryd.results30, go_sem]) rfl ⟨by rw [HFIN.out]; rfl, (Kept.refl Nil w).alloc _⟩
  · have hge : ¬ ((s.size : Int) < 17) := by omega
    have hl1 : (s.extract 0 17).data.toList = s.data.toList.take 17 := by rw [Lib.extract_data]; simp
    have hp := fun w => RParse_any (s.extract 0 17) (by rw [ByteArray.size_extract]; omega) w
    simp only [hl1] at hp
    have h17i : (17 : Int) ≤ (s.size : Int) := by omega
    rcases hr : prs (s.data.toList.take 17) with _ | bs
    · rw [hr] at hp
      have hfin : pe = .tuple #[pv [0, 0, 0, 0, 0, 0] [0, 0, 0, 0, 0, 0], .int .i64 5] := by
        rw [← HPE.out, ppt_none _ hr]
        rfl
      have HFIN := Lib.hid hfin
      have HP := Lib.hid hp
      clear hp hr hfin hlen hm h17 hl1
      go_enter Tryd.func30, Tryd.ntmps30
      go_wp2_with fail
      refine (HP.out _).mono ?_
      rintro e' w2 ⟨rfl, hk2⟩
      rw [puP, mv00]
      have HZ2 := Lib.hid (HZ.out.kept hk2 (fun hf => hf))
      have HK2 := Lib.hid (((Kept.refl Nil w).alloc (.cells #[.int .u8 0, .int .u8 0, .int .u8 0, .int .u8 0, .int .u8 0, .int .u8 0, .int .u8 0, .int .u8 0, .int .u8 0, .int .u8 0, .int .u8 0, .int .u8 0] 28)).then hk2)
      have hs2 : w.heap.size < w2.heap.size := HZ2.out.lt
      clear hk2
      go_upto_region 5 with (fail)
      obtain ⟨W, hW⟩ : ∃ W, W = w2.alloc (.cells #[.int .u8 0, .int .u8 0, .int .u8 0, .int .u8 0, .int .u8 0, .int .u8 0] 22) := ⟨_, rfl⟩
      rw [← hW]
      have hz3 : Blo W w.heap.size 28 #[.int .u8 0, .int .u8 0, .int .u8 0, .int .u8 0, .int .u8 0, .int .u8 0, .int .u8 0, .int .u8 0, .int .u8 0, .int .u8 0, .int .u8 0, .int .u8 0] := by rw [hW]; exact HZ2.out.alloc _
      have HK3 : Hid (Kept Nil w W) := by unfold Hid; rw [hW]; exact HK2.out.alloc _
      clear hW
      have y0 := hz3.cell 0
      have z0 := hz3.frozen 0
      have y1 := hz3.cell 1
      have z1 := hz3.frozen 1
      have y2 := hz3.cell 2
      have z2 := hz3.frozen 2
      have y3 := hz3.cell 3
      have z3 := hz3.frozen 3
      have y4 := hz3.cell 4
      have z4 := hz3.frozen 4
      have y5 := hz3.cell 5
      have z5 := hz3.frozen 5
      have y6 := hz3.cell 6
      have z6 := hz3.frozen 6
      have y7 := hz3.cell 7
      have z7 := hz3.frozen 7
      have y8 := hz3.cell 8
      have z8 := hz3.frozen 8
      have y9 := hz3.cell 9
      have z9 := hz3.frozen 9
      have y10 := hz3.cell 10
      have z10 := hz3.frozen 10
      have y11 := hz3.cell 11
      have z11 := hz3.frozen 11
      simp at y0 y1 y2 y3 y4 y5 y6 y7 y8 y9 y10 y11
      clear hz3
      go_wp2
      refine bodyPost_ret (v := .tuple #[.agg #[.int .u8 0, .int .u8 0, .int .u8 0, .int .u8 0, .int .u8 0, .int .u8 0, .int .u8 0, .int .u8 0, .int .u8 0, .int .u8 0, .int .u8 0, .int .u8 0], .int .i64 5]) (by simp [results, Tryd.results30, go_sem, y0, y1, y2, y3, y4, y5, y6, y7, y8, y9, y10, y11]) rfl ⟨?_, ?_⟩
      · rw [HFIN.out]
        rfl
      · exact HK3.out.fresh (((((((((((((Kept.refl (fun i => w.heap.size ≤ i) W).put (Nat.le_refl _) _).put (Nat.le_refl _) _).put (Nat.le_refl _) _).put (Nat.le_refl _) _).put (Nat.le_refl _) _).put (Nat.le_refl _) _).put (Nat.le_refl _) _).put (Nat.le_refl _) _).put (Nat.le_refl _) _).put (Nat.le_refl _) _).put (Nat.le_refl _) _).put (Nat.le_refl _) _) (fun i hi => hi)
    · rw [hr] at hp
      obtain ⟨a0, a1, a2, a3, a4, a5, rfl⟩ := six bs (prs_len _ _ hr)
      have HP := Lib.hid hp
      clear hp hl1
      by_cases he : s.size = 17
      · have hfin : pe = .tuple #[pv (andL [a0, a1, a2, a3, a4, a5] [255, 255, 255, 255, 255, 255]) [255, 255, 255, 255, 255, 255], .int .i64 0] := by
          rw [← HPE.out, ppt_bare _ _ hr (by omega)]
          rfl
        have HFIN := Lib.hid hfin
        have hand : andL [a0, a1, a2, a3, a4, a5] [255, 255, 255, 255, 255, 255] = [a0, a1, a2, a3, a4, a5] := by simp [andL, and_all]
        have HX := Lib.hid hand
        have hb48 : ∀ w, Calls Tryd.prog 19 #[.int .i64 48] w fun r w' => r = .returned (.agg #[.int .u8 255, .int .u8 255, .int .u8 255, .int .u8 255, .int .u8 255, .int .u8 255]) ∧ Kept Nil w w' := fun w => by
          have h := RBits_yes 48 (by omega) w
          rw [mask48] at h
          exact h
        have HB := Lib.hid hb48
        have heq : ((s.size : Int) == 17) = true := by rw [beq_iff_eq]; omega
        clear hr hfin hlen hm h17 hand hb48 he
        go_enter Tryd.func30, Tryd.ntmps30
        go_wp2_with fail
        refine (HP.out _).mono ?_
        rintro e' w2 ⟨rfl, hk2⟩
        rw [puP, mv6]
        have HZ2 := Lib.hid (HZ.out.kept hk2 (fun hf => hf))
        have HK2 := Lib.hid (((Kept.refl Nil w).alloc (.cells #[.int .u8 0, .int .u8 0, .int .u8 0, .int .u8 0, .int .u8 0, .int .u8 0, .int .u8 0, .int .u8 0, .int .u8 0, .int .u8 0, .int .u8 0, .int .u8 0] 28)).then hk2)
        have hs2 : w.heap.size < w2.heap.size := HZ2.out.lt
        clear hk2
        go_upto_region 7 with (fail)
        obtain ⟨W, hW⟩ : ∃ W, W = w2.alloc (.cells #[.int .u8 (a0.toNat : Int), .int .u8 (a1.toNat : Int), .int .u8 (a2.toNat : Int), .int .u8 (a3.toNat : Int), .int .u8 (a4.toNat : Int), .int .u8 (a5.toNat : Int)] 22) := ⟨_, rfl⟩
        rw [← hW]
        have hbZ : Blo W w.heap.size 28 #[.int .u8 0, .int .u8 0, .int .u8 0, .int .u8 0, .int .u8 0, .int .u8 0, .int .u8 0, .int .u8 0, .int .u8 0, .int .u8 0, .int .u8 0, .int .u8 0] := by rw [hW]; exact HZ2.out.alloc _
        have hKW : Kept Nil w W := by rw [hW]; exact HK2.out.alloc _
        have ba : Blo W w2.heap.size 22 #[.int .u8 (a0.toNat : Int), .int .u8 (a1.toNat : Int), .int .u8 (a2.toNat : Int), .int .u8 (a3.toNat : Int), .int .u8 (a4.toNat : Int), .int .u8 (a5.toNat : Int)] := by rw [hW]; exact Blo.new w2 _ _
        clear hW
        have HBZ := Lib.hid hbZ
        have HKW := Lib.hid hKW
        have Hba := Lib.hid ba
        have nba : w2.heap.size ≠ w.heap.size := by omega
        clear hbZ hKW ba
        generalize h9ba : w2.heap.size = qba at *
        generalize hg2 : w.heap.size = g2 at *
        refine wp_region_own3 (One g2) (upd noOwn g2 (false, #[.int .u8 0, .int .u8 0, .int .u8 0, .int .u8 0, .int .u8 0, .int .u8 0, .int .u8 0, .int .u8 0, .int .u8 0, .int .u8 0, .int .u8 0, .int .u8 0], 28)) (fun _ => #[]) 3 (fun _ => .int .i64 0) (by kernel_rfl) (by kernel_rfl) (by kernel_rfl) (holds_one HBZ.out) ?_
        apply Exists.intro
        refine And.intro ?hq ?ht
        case hq =>
          intro V hV
          have kk0 := Hba.out.kept hV (fun hf => nba hf)
          have ca0 := kk0.gcell 0
          have ca1 := kk0.gcell 1
          have ca2 := kk0.gcell 2
          have ca3 := kk0.gcell 3
          have ca4 := kk0.gcell 4
          have ca5 := kk0.gcell 5
          simp at ca0 ca1 ca2 ca3 ca4 ca5
          clear kk0
          dsimp only [List.take]
          repeat (go_big_quiet_step (first | (with_reducible exact quietK (HB.out _))))
          exact wpQuiet_nil rfl
        case ht =>
          intro vs hvs
          dsimp only [List.drop]
          refine sLex_store 28 (.tmp 2) (.tmp 30) rfl rfl rfl g2 #[.int .u8 0, .int .u8 0, .int .u8 0, .int .u8 0, .int .u8 0, .int .u8 0, .int .u8 0, .int .u8 0, .int .u8 0, .int .u8 0, .int .u8 0, .int .u8 0] #[.int .u8 (a0.toNat : Int), .int .u8 (a1.toNat : Int), .int .u8 (a2.toNat : Int), .int .u8 (a3.toNat : Int), .int .u8 (a4.toNat : Int), .int .u8 (a5.toNat : Int), .int .u8 255, .int .u8 255, .int .u8 255, .int .u8 255, .int .u8 255, .int .u8 255] (by rfl) (by simp [upd]) (by rfl) rfl (by kernel_rfl) (by simp [Value.oneCell']) ?_
          refine sLex_assign (.const (.int .i64 0)) rfl rfl (hvs _ (by simp)) ?_
          intro w' hh
          have hb2 := (hh.own g2 true #[.int .u8 (a0.toNat : Int), .int .u8 (a1.toNat : Int), .int .u8 (a2.toNat : Int), .int .u8 (a3.toNat : Int), .int .u8 (a4.toNat : Int), .int .u8 (a5.toNat : Int), .int .u8 255, .int .u8 255, .int .u8 255, .int .u8 255, .int .u8 255, .int .u8 255] 28 (by simp [upd])).2
          have hkk := Lib.hid hh.kept
          have y0 := hb2.cell 0
          have z0 := hb2.frozen 0
          have y1 := hb2.cell 1
          have z1 := hb2.frozen 1
          have y2 := hb2.cell 2
          have z2 := hb2.frozen 2
          have y3 := hb2.cell 3
          have z3 := hb2.frozen 3
          have y4 := hb2.cell 4
          have z4 := hb2.frozen 4
          have y5 := hb2.cell 5
          have z5 := hb2.frozen 5
          have y6 := hb2.cell 6
          have z6 := hb2.frozen 6
          have y7 := hb2.cell 7
          have z7 := hb2.frozen 7
          have y8 := hb2.cell 8
          have z8 := hb2.frozen 8
          have y9 := hb2.cell 9
          have z9 := hb2.frozen 9
          have y10 := hb2.cell 10
          have z10 := hb2.frozen 10
          have y11 := hb2.cell 11
          have z11 := hb2.frozen 11
          simp at y0 y1 y2 y3 y4 y5 y6 y7 y8 y9 y10 y11
          clear hb2
          go_wp2
          refine bodyPost_ret (v := .tuple #[.agg #[.int .u8 (a0.toNat : Int), .int .u8 (a1.toNat : Int), .int .u8 (a2.toNat : Int), .int .u8 (a3.toNat : Int), .int .u8 (a4.toNat : Int), .int .u8 (a5.toNat : Int), .int .u8 255, .int .u8 255, .int .u8 255, .int .u8 255, .int .u8 255, .int .u8 255], .int .i64 0]) (by simp [results, Tryd.results30, go_sem, y0, y1, y2, y3, y4, y5, y6, y7, y8, y9, y10, y11]) rfl ⟨?_, ?_⟩
          · rw [HFIN.out, HX.out]
            rfl
          · exact HKW.out.fresh hkk.out (fun i hi => by cases hi; omega)
      · have hne : ((s.size : Int) == 17) = false := by rw [beq_eq_false_iff_ne]; omega
        have hgt : 17 < s.data.toList.length := by omega
        have hix := fun w => idxS s 17 _ (getD_some s.data.toList 17 hgt) w
        by_cases hc : s.data.toList.getD 17 0 = 47
        · have hsl := ppt_slash _ _ hr hgt hc
          rw [hc] at hix
          have hi2 : ∀ w, (Instr.index 9 (.string s) (.int .i64 17)).run Tryd.prog w = .ok (.int .u8 47) w := hix
          have hl2 : (s.extract 18 s.size).data.toList = s.data.toList.drop 18 := by rw [Lib.extract_data]; exact List.take_of_length_le (by rw [List.length_drop]; omega)
          have hsz2 : (s.extract 18 s.size).size = s.size - 18 := by rw [ByteArray.size_extract]; omega
          clear hix hc
          have hlen2 := size_of_list (s.extract 18 s.size)
          rw [hl2] at hlen2
          have hgti : (17 : Int) < (s.size : Int) := by omega
          have h18 : (18 : Int) ≤ (s.size : Int) := by omega
          by_cases k0 : s.size ≤ 18
          · have hd0 : s.data.toList.drop 18 = [] := List.eq_nil_of_length_eq_zero (by omega)
            have hfin : pe = .tuple #[pv [0, 0, 0, 0, 0, 0] [0, 0, 0, 0, 0, 0], .int .i64 5] := by
              rw [← HPE.out, hsl, hd0]
              rfl
            have HFIN := Lib.hid hfin
            have hk0 : (s.size : Int) ≤ 18 := by omega
            clear hr hfin hlen hm h17 he hgt hsl hl2 hsz2 hlen2 hd0 k0
            go_enter Tryd.func30, Tryd.ntmps30
            go_wp2_with fail
            refine (HP.out _).mono ?_
            rintro e' w2 ⟨rfl, hk2⟩
            rw [puP, mv6]
            have HZ2 := Lib.hid (HZ.out.kept hk2 (fun hf => hf))
            have HK2 := Lib.hid (((Kept.refl Nil w).alloc (.cells #[.int .u8 0, .int .u8 0, .int .u8 0, .int .u8 0, .int .u8 0, .int .u8 0, .int .u8 0, .int .u8 0, .int .u8 0, .int .u8 0, .int .u8 0, .int .u8 0] 28)).then hk2)
            have hs2 : w.heap.size < w2.heap.size := HZ2.out.lt
            clear hk2
            go_upto_region 12 with (fail)
            obtain ⟨W, hW⟩ : ∃ W, W = w2.alloc (.cells #[.int .u8 (a0.toNat : Int), .int .u8 (a1.toNat : Int), .int .u8 (a2.toNat : Int), .int .u8 (a3.toNat : Int), .int .u8 (a4.toNat : Int), .int .u8 (a5.toNat : Int)] 22) := ⟨_, rfl⟩
            rw [← hW]
            have hz3 : Blo W w.heap.size 28 #[.int .u8 0, .int .u8 0, .int .u8 0, .int .u8 0, .int .u8 0, .int .u8 0, .int .u8 0, .int .u8 0, .int .u8 0, .int .u8 0, .int .u8 0, .int .u8 0] := by rw [hW]; exact HZ2.out.alloc _
            have HK3 : Hid (Kept Nil w W) := by unfold Hid; rw [hW]; exact HK2.out.alloc _
            clear hW
            have y0 := hz3.cell 0
            have z0 := hz3.frozen 0
            have y1 := hz3.cell 1
            have z1 := hz3.frozen 1
            have y2 := hz3.cell 2
            have z2 := hz3.frozen 2
            have y3 := hz3.cell 3
            have z3 := hz3.frozen 3
            have y4 := hz3.cell 4
            have z4 := hz3.frozen 4
            have y5 := hz3.cell 5
            have z5 := hz3.frozen 5
            have y6 := hz3.cell 6
            have z6 := hz3.frozen 6
            have y7 := hz3.cell 7
            have z7 := hz3.frozen 7
            have y8 := hz3.cell 8
            have z8 := hz3.frozen 8
            have y9 := hz3.cell 9
            have z9 := hz3.frozen 9
            have y10 := hz3.cell 10
            have z10 := hz3.frozen 10
            have y11 := hz3.cell 11
            have z11 := hz3.frozen 11
            simp at y0 y1 y2 y3 y4 y5 y6 y7 y8 y9 y10 y11
            clear hz3
            go_wp2
            refine bodyPost_ret (v := .tuple #[.agg #[.int .u8 0, .int .u8 0, .int .u8 0, .int .u8 0, .int .u8 0, .int .u8 0, .int .u8 0, .int .u8 0, .int .u8 0, .int .u8 0, .int .u8 0, .int .u8 0], .int .i64 5]) (by simp [results, Tryd.results30, go_sem, y0, y1, y2, y3, y4, y5, y6, y7, y8, y9, y10, y11]) rfl ⟨?_, ?_⟩
            · rw [HFIN.out]
              rfl
            · exact HK3.out.fresh (((((((((((((Kept.refl (fun i => w.heap.size ≤ i) W).put (Nat.le_refl _) _).put (Nat.le_refl _) _).put (Nat.le_refl _) _).put (Nat.le_refl _) _).put (Nat.le_refl _) _).put (Nat.le_refl _) _).put (Nat.le_refl _) _).put (Nat.le_refl _) _).put (Nat.le_refl _) _).put (Nat.le_refl _) _).put (Nat.le_refl _) _).put (Nat.le_refl _) _) (fun i hi => hi)
          · by_cases k2 : 20 < s.size
            · have hr1 := fun w => RParse_any (s.extract 18 s.size) (by omega) w
              simp only [hl2] at hr1
              have hk2 : (20 : Int) < (s.size : Int) := by omega
              rcases hq : prs (s.data.toList.drop 18) with _ | ms
              · rw [hq] at hr1
                have hfin : pe = .tuple #[pv [0, 0, 0, 0, 0, 0] [0, 0, 0, 0, 0, 0], .int .i64 5] := by
                  rw [← HPE.out, hsl]
                  unfold pmk
                  rw [if_pos (by omega), hq]
                  rfl
                have HFIN := Lib.hid hfin
                have HR := Lib.hid hr1
                clear hr hfin hlen hm h17 he hgt hsl hl2 hsz2 hlen2 k0 k2 hq hr1
                go_enter Tryd.func30, Tryd.ntmps30
                go_wp2_with fail
                refine (HP.out _).mono ?_
                rintro e' w2 ⟨rfl, hk2⟩
                rw [puP, mv6]
                have HZ2 := Lib.hid (HZ.out.kept hk2 (fun hf => hf))
                have HK2 := Lib.hid (((Kept.refl Nil w).alloc (.cells #[.int .u8 0, .int .u8 0, .int .u8 0, .int .u8 0, .int .u8 0, .int .u8 0, .int .u8 0, .int .u8 0, .int .u8 0, .int .u8 0, .int .u8 0, .int .u8 0] 28)).then hk2)
                have hs2 : w.heap.size < w2.heap.size := HZ2.out.lt
                clear hk2
                go_wp2_with fail
                refine (HR.out _).mono ?_
                rintro e' w3 ⟨rfl, hk3⟩
                rw [puP, mv00]
                have HZ3 := Lib.hid ((HZ2.out.alloc (.cells #[.int .u8 (a0.toNat : Int), .int .u8 (a1.toNat : Int), .int .u8 (a2.toNat : Int), .int .u8 (a3.toNat : Int), .int .u8 (a4.toNat : Int), .int .u8 (a5.toNat : Int)] 22)).kept hk3 (fun hf => hf))
                have HA3 := Lib.hid ((Blo.new w2 22 #[.int .u8 (a0.toNat : Int), .int .u8 (a1.toNat : Int), .int .u8 (a2.toNat : Int), .int .u8 (a3.toNat : Int), .int .u8 (a4.toNat : Int), .int .u8 (a5.toNat : Int)]).kept hk3 (fun hf => hf))
                have HK3' := Lib.hid ((HK2.out.alloc (.cells #[.int .u8 (a0.toNat : Int), .int .u8 (a1.toNat : Int), .int .u8 (a2.toNat : Int), .int .u8 (a3.toNat : Int), .int .u8 (a4.toNat : Int), .int .u8 (a5.toNat : Int)] 22)).then hk3)
                have hs3 : w2.heap.size < w3.heap.size := HA3.out.lt
                clear hk3
                go_upto_region 16 with (fail)
                obtain ⟨W, hW⟩ : ∃ W, W = w3.alloc (.cells #[.int .u8 0, .int .u8 0, .int .u8 0, .int .u8 0, .int .u8 0, .int .u8 0] 22) := ⟨_, rfl⟩
                rw [← hW]
                have hz3 : Blo W w.heap.size 28 #[.int .u8 0, .int .u8 0, .int .u8 0, .int .u8 0, .int .u8 0, .int .u8 0, .int .u8 0, .int .u8 0, .int .u8 0, .int .u8 0, .int .u8 0, .int .u8 0] := by rw [hW]; exact HZ3.out.alloc _
                have HK3 : Hid (Kept Nil w W) := by unfold Hid; rw [hW]; exact HK3'.out.alloc _
                clear hW
                have y0 := hz3.cell 0
                have z0 := hz3.frozen 0
                have y1 := hz3.cell 1
                have z1 := hz3.frozen 1
                have y2 := hz3.cell 2
                have z2 := hz3.frozen 2
                have y3 := hz3.cell 3
                have z3 := hz3.frozen 3
                have y4 := hz3.cell 4
                have z4 := hz3.frozen 4
                have y5 := hz3.cell 5
                have z5 := hz3.frozen 5
                have y6 := hz3.cell 6
                have z6 := hz3.frozen 6
                have y7 := hz3.cell 7
                have z7 := hz3.frozen 7
                have y8 := hz3.cell 8
                have z8 := hz3.frozen 8
                have y9 := hz3.cell 9
                have z9 := hz3.frozen 9
                have y10 := hz3.cell 10
                have z10 := hz3.frozen 10
                have y11 := hz3.cell 11
                have z11 := hz3.frozen 11
                simp at y0 y1 y2 y3 y4 y5 y6 y7 y8 y9 y10 y11
                clear hz3
                go_wp2
                refine bodyPost_ret (v := .tuple #[.agg #[.int .u8 0, .int .u8 0, .int .u8 0, .int .u8 0, .int .u8 0, .int .u8 0, .int .u8 0, .int .u8 0, .int .u8 0, .int .u8 0, .int .u8 0, .int .u8 0], .int .i64 5]) (by simp [results, Tryd.results30, go_sem, y0, y1, y2, y3, y4, y5, y6, y7, y8, y9, y10, y11]) rfl ⟨?_, ?_⟩
                · rw [HFIN.out]
                  rfl
                · exact HK3.out.fresh (((((((((((((Kept.refl (fun i => w.heap.size ≤ i) W).put (Nat.le_refl _) _).put (Nat.le_refl _) _).put (Nat.le_refl _) _).put (Nat.le_refl _) _).put (Nat.le_refl _) _).put (Nat.le_refl _) _).put (Nat.le_refl _) _).put (Nat.le_refl _) _).put (Nat.le_refl _) _).put (Nat.le_refl _) _).put (Nat.le_refl _) _).put (Nat.le_refl _) _) (fun i hi => hi)
              · rw [hq] at hr1
                obtain ⟨m0, m1, m2, m3, m4, m5, rfl⟩ := six ms (prs_len _ _ hq)
                have hfin : pe = .tuple #[pv (andL [a0, a1, a2, a3, a4, a5] [m0, m1, m2, m3, m4, m5]) [m0, m1, m2, m3, m4, m5], .int .i64 0] := by
                  rw [← HPE.out, hsl]
                  unfold pmk
                  rw [if_pos (by omega), hq]
                  rfl
                have HFIN := Lib.hid hfin
                have HR := Lib.hid hr1
                have hmk := RMasked_yes a0 a1 a2 a3 a4 a5 m0 m1 m2 m3 m4 m5
                have hmk2 : ∀ w, Calls Tryd.prog 21 #[.agg #[.int .u8 (a0.toNat : Int), .int .u8 (a1.toNat : Int), .int .u8 (a2.toNat : Int), .int .u8 (a3.toNat : Int), .int .u8 (a4.toNat : Int), .int .u8 (a5.toNat : Int)], .agg #[.int .u8 (m0.toNat : Int), .int .u8 (m1.toNat : Int), .int .u8 (m2.toNat : Int), .int .u8 (m3.toNat : Int), .int .u8 (m4.toNat : Int), .int .u8 (m5.toNat : Int)]] w fun r w' => r = .returned (mv (andL [a0, a1, a2, a3, a4, a5] [m0, m1, m2, m3, m4, m5])) ∧ Kept Nil w w' := hmk
                obtain ⟨x0, x1, x2, x3, x4, x5, hx⟩ := six (andL [a0, a1, a2, a3, a4, a5] [m0, m1, m2, m3, m4, m5]) rfl
                rw [hx] at hmk2
                simp only [mv6] at hmk2
                have HX := Lib.hid hx
                have HMK := Lib.hid hmk2
                clear hmk hmk2 hx
                clear hr hfin hlen hm h17 he hgt hsl hl2 hsz2 hlen2 k0 k2 hq hr1
                go_enter Tryd.func30, Tryd.ntmps30
                go_wp2_with fail
                refine (HP.out _).mono ?_
                rintro e' w2 ⟨rfl, hk2⟩
                rw [puP, mv6]
                have HZ2 := Lib.hid (HZ.out.kept hk2 (fun hf => hf))
                have HK2 := Lib.hid (((Kept.refl Nil w).alloc (.cells #[.int .u8 0, .int .u8 0, .int .u8 0, .int .u8 0, .int .u8 0, .int .u8 0, .int .u8 0, .int .u8 0, .int .u8 0, .int .u8 0, .int .u8 0, .int .u8 0] 28)).then hk2)
                have hs2 : w.heap.size < w2.heap.size := HZ2.out.lt
                clear hk2
                go_wp2_with fail
                refine (HR.out _).mono ?_
                rintro e' w3 ⟨rfl, hk3⟩
                rw [puP, mv6]
                have HZ3 := Lib.hid ((HZ2.out.alloc (.cells #[.int .u8 (a0.toNat : Int), .int .u8 (a1.toNat : Int), .int .u8 (a2.toNat : Int), .int .u8 (a3.toNat : Int), .int .u8 (a4.toNat : Int), .int .u8 (a5.toNat : Int)] 22)).kept hk3 (fun hf => hf))
                have HA3 := Lib.hid ((Blo.new w2 22 #[.int .u8 (a0.toNat : Int), .int .u8 (a1.toNat : Int), .int .u8 (a2.toNat : Int), .int .u8 (a3.toNat : Int), .int .u8 (a4.toNat : Int), .int .u8 (a5.toNat : Int)]).kept hk3 (fun hf => hf))
                have HK3' := Lib.hid ((HK2.out.alloc (.cells #[.int .u8 (a0.toNat : Int), .int .u8 (a1.toNat : Int), .int .u8 (a2.toNat : Int), .int .u8 (a3.toNat : Int), .int .u8 (a4.toNat : Int), .int .u8 (a5.toNat : Int)] 22)).then hk3)
                have hs3 : w2.heap.size < w3.heap.size := HA3.out.lt
                clear hk3
                go_upto_region 17 with (fail)
                obtain ⟨W, hW⟩ : ∃ W, W = w3.alloc (.cells #[.int .u8 (m0.toNat : Int), .int .u8 (m1.toNat : Int), .int .u8 (m2.toNat : Int), .int .u8 (m3.toNat : Int), .int .u8 (m4.toNat : Int), .int .u8 (m5.toNat : Int)] 22) := ⟨_, rfl⟩
                rw [← hW]
                have hbZ : Blo W w.heap.size 28 #[.int .u8 0, .int .u8 0, .int .u8 0, .int .u8 0, .int .u8 0, .int .u8 0, .int .u8 0, .int .u8 0, .int .u8 0, .int .u8 0, .int .u8 0, .int .u8 0] := by rw [hW]; exact HZ3.out.alloc _
                have hKW : Kept Nil w W := by rw [hW]; exact HK3'.out.alloc _
                have ba : Blo W w2.heap.size 22 #[.int .u8 (a0.toNat : Int), .int .u8 (a1.toNat : Int), .int .u8 (a2.toNat : Int), .int .u8 (a3.toNat : Int), .int .u8 (a4.toNat : Int), .int .u8 (a5.toNat : Int)] := by rw [hW]; exact HA3.out.alloc _
                have bm : Blo W w3.heap.size 22 #[.int .u8 (m0.toNat : Int), .int .u8 (m1.toNat : Int), .int .u8 (m2.toNat : Int), .int .u8 (m3.toNat : Int), .int .u8 (m4.toNat : Int), .int .u8 (m5.toNat : Int)] := by rw [hW]; exact Blo.new w3 _ _
                clear hW
                have HBZ := Lib.hid hbZ
                have HKW := Lib.hid hKW
                have Hba := Lib.hid ba
                have nba : w2.heap.size ≠ w.heap.size := by omega
                have Hbm := Lib.hid bm
                have nbm : w3.heap.size ≠ w.heap.size := by omega
                clear hbZ hKW ba bm
                generalize h9ba : w2.heap.size = qba at *
                generalize h9bm : w3.heap.size = qbm at *
                generalize hg2 : w.heap.size = g2 at *
                refine wp_region_own3 (One g2) (upd noOwn g2 (false, #[.int .u8 0, .int .u8 0, .int .u8 0, .int .u8 0, .int .u8 0, .int .u8 0, .int .u8 0, .int .u8 0, .int .u8 0, .int .u8 0, .int .u8 0, .int .u8 0], 28)) (fun _ => #[]) 5 (fun _ => .int .i64 0) (by kernel_rfl) (by kernel_rfl) (by kernel_rfl) (holds_one HBZ.out) ?_
                apply Exists.intro
                refine And.intro ?hq ?ht
                case hq =>
                  intro V hV
                  have kk0 := Hba.out.kept hV (fun hf => nba hf)
                  have ca0 := kk0.gcell 0
                  have ca1 := kk0.gcell 1
                  have ca2 := kk0.gcell 2
                  have ca3 := kk0.gcell 3
                  have ca4 := kk0.gcell 4
                  have ca5 := kk0.gcell 5
                  simp at ca0 ca1 ca2 ca3 ca4 ca5
                  clear kk0
                  have kk1 := Hbm.out.kept hV (fun hf => nbm hf)
                  have cb0 := kk1.gcell 0
                  have cb1 := kk1.gcell 1
                  have cb2 := kk1.gcell 2
                  have cb3 := kk1.gcell 3
                  have cb4 := kk1.gcell 4
                  have cb5 := kk1.gcell 5
                  simp at cb0 cb1 cb2 cb3 cb4 cb5
                  clear kk1
                  dsimp only [List.take]
                  repeat (go_big_quiet_step (first | (with_reducible exact quietK (HMK.out _))))
                  exact wpQuiet_nil rfl
                case ht =>
                  intro vs hvs
                  dsimp only [List.drop]
                  refine sLex_store 28 (.tmp 2) (.tmp 57) rfl rfl rfl g2 #[.int .u8 0, .int .u8 0, .int .u8 0, .int .u8 0, .int .u8 0, .int .u8 0, .int .u8 0, .int .u8 0, .int .u8 0, .int .u8 0, .int .u8 0, .int .u8 0] #[.int .u8 (x0.toNat : Int), .int .u8 (x1.toNat : Int), .int .u8 (x2.toNat : Int), .int .u8 (x3.toNat : Int), .int .u8 (x4.toNat : Int), .int .u8 (x5.toNat : Int), .int .u8 (m0.toNat : Int), .int .u8 (m1.toNat : Int), .int .u8 (m2.toNat : Int), .int .u8 (m3.toNat : Int), .int .u8 (m4.toNat : Int), .int .u8 (m5.toNat : Int)] (by rfl) (by simp [upd]) (by rfl) rfl (by kernel_rfl) (by simp [Value.oneCell']) ?_
                  refine sLex_assign (.const (.int .i64 0)) rfl rfl (hvs _ (by simp)) ?_
                  intro w' hh
                  have hb2 := (hh.own g2 true #[.int .u8 (x0.toNat : Int), .int .u8 (x1.toNat : Int), .int .u8 (x2.toNat : Int), .int .u8 (x3.toNat : Int), .int .u8 (x4.toNat : Int), .int .u8 (x5.toNat : Int), .int .u8 (m0.toNat : Int), .int .u8 (m1.toNat : Int), .int .u8 (m2.toNat : Int), .int .u8 (m3.toNat : Int), .int .u8 (m4.toNat : Int), .int .u8 (m5.toNat : Int)] 28 (by simp [upd])).2
                  have hkk := Lib.hid hh.kept
                  have y0 := hb2.cell 0
                  have z0 := hb2.frozen 0
                  have y1 := hb2.cell 1
                  have z1 := hb2.frozen 1
                  have y2 := hb2.cell 2
                  have z2 := hb2.frozen 2
                  have y3 := hb2.cell 3
                  have z3 := hb2.frozen 3
                  have y4 := hb2.cell 4
                  have z4 := hb2.frozen 4
                  have y5 := hb2.cell 5
                  have z5 := hb2.frozen 5
                  have y6 := hb2.cell 6
                  have z6 := hb2.frozen 6
                  have y7 := hb2.cell 7
                  have z7 := hb2.frozen 7
                  have y8 := hb2.cell 8
                  have z8 := hb2.frozen 8
                  have y9 := hb2.cell 9
                  have z9 := hb2.frozen 9
                  have y10 := hb2.cell 10
                  have z10 := hb2.frozen 10
                  have y11 := hb2.cell 11
                  have z11 := hb2.frozen 11
                  simp at y0 y1 y2 y3 y4 y5 y6 y7 y8 y9 y10 y11
                  clear hb2
                  go_wp2
                  refine bodyPost_ret (v := .tuple #[.agg #[.int .u8 (x0.toNat : Int), .int .u8 (x1.toNat : Int), .int .u8 (x2.toNat : Int), .int .u8 (x3.toNat : Int), .int .u8 (x4.toNat : Int), .int .u8 (x5.toNat : Int), .int .u8 (m0.toNat : Int), .int .u8 (m1.toNat : Int), .int .u8 (m2.toNat : Int), .int .u8 (m3.toNat : Int), .int .u8 (m4.toNat : Int), .int .u8 (m5.toNat : Int)], .int .i64 0]) (by simp [results, Tryd.results30, go_sem, y0, y1, y2, y3, y4, y5, y6, y7, y8, y9, y10, y11]) rfl ⟨?_, ?_⟩
                  · rw [HFIN.out, HX.out]
                    rfl
                  · exact HKW.out.fresh hkk.out (fun i hi => by cases hi; omega)
            · by_cases k1 : s.size = 19
              · obtain ⟨d, hd0⟩ : ∃ d, s.data.toList.drop 18 = [d] := by
                  match hq : s.data.toList.drop 18, hlen2 with
                  | [d], _ => exact ⟨d, rfl⟩
                  | [], h9 => simp at h9; omega
                  | _ :: _ :: _, h9 => simp at h9; omega
                have hj := fun w => idxS (s.extract 18 s.size) 0 d (by rw [hl2, hd0]; rfl) w
                have hj0 : ∀ w, (Instr.index 9 (.string (s.extract 18 s.size)) (.int .i64 0)).run Tryd.prog w = .ok (.int .u8 (d.toNat : Int)) w := hj
                have hk1 : (s.size : Int) ≤ 19 := by omega
                have hk0 : (18 : Int) < (s.size : Int) := by omega
                by_cases hdig : 48 ≤ d.toNat ∧ d.toNat ≤ 57
                · obtain ⟨q1, q2⟩ := hdig
                  obtain ⟨n, hn⟩ : ∃ n, n = d.toNat - 48 := ⟨_, rfl⟩
                  have hfin : pe = .tuple #[pv (andL [a0, a1, a2, a3, a4, a5] (maskL n)) (maskL n), .int .i64 0] := by
                    rw [← HPE.out, hsl, hd0]
                    have hnum : numB 10 0 [d] = some n := by
                      simp only [numB]
                      rw [digv_yes d ⟨q1, q2⟩, if_pos (by omega), hn]
                      simp
                    unfold pmk
                    rw [if_neg (by simp), if_neg (by simp), hnum]
                    simp only
                    rw [if_neg (by omega)]
                    rfl
                  have q3 : (48 : Int) ≤ (d.toNat : Int) := by omega
                  have q4 : (d.toNat : Int) ≤ 57 := by omega
                  have hbb := RBits_int ((d.toNat : Int) - 48) (by omega) (by omega)
                  rw [show ((d.toNat : Int) - 48).toNat = n by omega] at hbb
                  obtain ⟨m0, m1, m2, m3, m4, m5, hmm⟩ := six (maskL n) rfl
                  rw [hmm] at hbb hfin
                  simp only [mv6] at hbb
                  have HB := Lib.hid hbb
                  have HFIN := Lib.hid hfin
                  have hmk := RMasked_yes a0 a1 a2 a3 a4 a5 m0 m1 m2 m3 m4 m5
                  have hmk2 : ∀ w, Calls Tryd.prog 21 #[.agg #[.int .u8 (a0.toNat : Int), .int .u8 (a1.toNat : Int), .int .u8 (a2.toNat : Int), .int .u8 (a3.toNat : Int), .int .u8 (a4.toNat : Int), .int .u8 (a5.toNat : Int)], .agg #[.int .u8 (m0.toNat : Int), .int .u8 (m1.toNat : Int), .int .u8 (m2.toNat : Int), .int .u8 (m3.toNat : Int), .int .u8 (m4.toNat : Int), .int .u8 (m5.toNat : Int)]] w fun r w' => r = .returned (mv (andL [a0, a1, a2, a3, a4, a5] [m0, m1, m2, m3, m4, m5])) ∧ Kept Nil w w' := hmk
                  obtain ⟨x0, x1, x2, x3, x4, x5, hx⟩ := six (andL [a0, a1, a2, a3, a4, a5] [m0, m1, m2, m3, m4, m5]) rfl
                  rw [hx] at hmk2
                  simp only [mv6] at hmk2
                  have HX := Lib.hid hx
                  have HMK := Lib.hid hmk2
                  clear hmk hmk2 hx
                  clear hr hfin hlen hm h17 he hgt hsl hl2 hsz2 hlen2 k0 k2 k1 hd0 hj hbb hmm hn
                  go_enter Tryd.func30, Tryd.ntmps30
                  go_wp2_with fail
                  refine (HP.out _).mono ?_
                  rintro e' w2 ⟨rfl, hk2⟩
                  rw [puP, mv6]
                  have HZ2 := Lib.hid (HZ.out.kept hk2 (fun hf => hf))
                  have HK2 := Lib.hid (((Kept.refl Nil w).alloc (.cells #[.int .u8 0, .int .u8 0, .int .u8 0, .int .u8 0, .int .u8 0, .int .u8 0, .int .u8 0, .int .u8 0, .int .u8 0, .int .u8 0, .int .u8 0, .int .u8 0] 28)).then hk2)
                  have hs2 : w.heap.size < w2.heap.size := HZ2.out.lt
                  clear hk2
                  go_wp2_with fail
                  refine wp_loop_rounds 2 ?_
                  rw [rounds_succ]
                  go_wp2_with fail
                  rw [rounds_succ]
                  go_upto_region 27 with (fail)
                  obtain ⟨W, hW⟩ : ∃ W, W = w2.alloc (.cells #[.int .u8 (a0.toNat : Int), .int .u8 (a1.toNat : Int), .int .u8 (a2.toNat : Int), .int .u8 (a3.toNat : Int), .int .u8 (a4.toNat : Int), .int .u8 (a5.toNat : Int)] 22) := ⟨_, rfl⟩
                  rw [← hW]
                  have hbZ : Blo W w.heap.size 28 #[.int .u8 0, .int .u8 0, .int .u8 0, .int .u8 0, .int .u8 0, .int .u8 0, .int .u8 0, .int .u8 0, .int .u8 0, .int .u8 0, .int .u8 0, .int .u8 0] := by rw [hW]; exact HZ2.out.alloc _
                  have hKW : Kept Nil w W := by rw [hW]; exact HK2.out.alloc _
                  have ba : Blo W w2.heap.size 22 #[.int .u8 (a0.toNat : Int), .int .u8 (a1.toNat : Int), .int .u8 (a2.toNat : Int), .int .u8 (a3.toNat : Int), .int .u8 (a4.toNat : Int), .int .u8 (a5.toNat : Int)] := by rw [hW]; exact Blo.new w2 _ _
                  clear hW
                  have HBZ := Lib.hid hbZ
                  have HKW := Lib.hid hKW
                  have Hba := Lib.hid ba
                  have nba : w2.heap.size ≠ w.heap.size := by omega
                  clear hbZ hKW ba
                  generalize h9ba : w2.heap.size = qba at *
                  generalize hg2 : w.heap.size = g2 at *
                  refine wp_region_own3 (One g2) (upd noOwn g2 (false, #[.int .u8 0, .int .u8 0, .int .u8 0, .int .u8 0, .int .u8 0, .int .u8 0, .int .u8 0, .int .u8 0, .int .u8 0, .int .u8 0, .int .u8 0, .int .u8 0], 28)) (fun _ => #[]) 7 (fun _ => .int .i64 0) (by kernel_rfl) (by kernel_rfl) (by kernel_rfl) (holds_one HBZ.out) ?_
                  apply Exists.intro
                  refine And.intro ?hq ?ht
                  case hq =>
                    intro V hV
                    have kk0 := Hba.out.kept hV (fun hf => nba hf)
                    have ca0 := kk0.gcell 0
                    have ca1 := kk0.gcell 1
                    have ca2 := kk0.gcell 2
                    have ca3 := kk0.gcell 3
                    have ca4 := kk0.gcell 4
                    have ca5 := kk0.gcell 5
                    simp at ca0 ca1 ca2 ca3 ca4 ca5
                    clear kk0
                    dsimp only [List.take]
                    repeat (go_big_quiet_step (first | (with_reducible exact quietK (HB.out _)) | (with_reducible exact quietK (HMK.out _))))
                    exact wpQuiet_nil rfl
                  case ht =>
                    intro vs hvs
                    dsimp only [List.drop]
                    refine sLex_store 28 (.tmp 2) (.tmp 92) rfl rfl rfl g2 #[.int .u8 0, .int .u8 0, .int .u8 0, .int .u8 0, .int .u8 0, .int .u8 0, .int .u8 0, .int .u8 0, .int .u8 0, .int .u8 0, .int .u8 0, .int .u8 0] #[.int .u8 (x0.toNat : Int), .int .u8 (x1.toNat : Int), .int .u8 (x2.toNat : Int), .int .u8 (x3.toNat : Int), .int .u8 (x4.toNat : Int), .int .u8 (x5.toNat : Int), .int .u8 (m0.toNat : Int), .int .u8 (m1.toNat : Int), .int .u8 (m2.toNat : Int), .int .u8 (m3.toNat : Int), .int .u8 (m4.toNat : Int), .int .u8 (m5.toNat : Int)] (by rfl) (by simp [upd]) (by rfl) rfl (by kernel_rfl) (by simp [Value.oneCell']) ?_
                    refine sLex_assign (.const (.int .i64 0)) rfl rfl (hvs _ (by simp)) ?_
                    intro w' hh
                    have hb2 := (hh.own g2 true #[.int .u8 (x0.toNat : Int), .int .u8 (x1.toNat : Int), .int .u8 (x2.toNat : Int), .int .u8 (x3.toNat : Int), .int .u8 (x4.toNat : Int), .int .u8 (x5.toNat : Int), .int .u8 (m0.toNat : Int), .int .u8 (m1.toNat : Int), .int .u8 (m2.toNat : Int), .int .u8 (m3.toNat : Int), .int .u8 (m4.toNat : Int), .int .u8 (m5.toNat : Int)] 28 (by simp [upd])).2
                    have hkk := Lib.hid hh.kept
                    have y0 := hb2.cell 0
                    have z0 := hb2.frozen 0
                    have y1 := hb2.cell 1
                    have z1 := hb2.frozen 1
                    have y2 := hb2.cell 2
                    have z2 := hb2.frozen 2
                    have y3 := hb2.cell 3
                    have z3 := hb2.frozen 3
                    have y4 := hb2.cell 4
                    have z4 := hb2.frozen 4
                    have y5 := hb2.cell 5
                    have z5 := hb2.frozen 5
                    have y6 := hb2.cell 6
                    have z6 := hb2.frozen 6
                    have y7 := hb2.cell 7
                    have z7 := hb2.frozen 7
                    have y8 := hb2.cell 8
                    have z8 := hb2.frozen 8
                    have y9 := hb2.cell 9
                    have z9 := hb2.frozen 9
                    have y10 := hb2.cell 10
                    have z10 := hb2.frozen 10
                    have y11 := hb2.cell 11
                    have z11 := hb2.frozen 11
                    simp at y0 y1 y2 y3 y4 y5 y6 y7 y8 y9 y10 y11
                    clear hb2
                    go_wp2
                    refine bodyPost_ret (v := .tuple #[.agg #[.int .u8 (x0.toNat : Int), .int .u8 (x1.toNat : Int), .int .u8 (x2.toNat : Int), .int .u8 (x3.toNat : Int), .int .u8 (x4.toNat : Int), .int .u8 (x5.toNat : Int), .int .u8 (m0.toNat : Int), .int .u8 (m1.toNat : Int), .int .u8 (m2.toNat : Int), .int .u8 (m3.toNat : Int), .int .u8 (m4.toNat : Int), .int .u8 (m5.toNat : Int)], .int .i64 0]) (by simp [results, Tryd.results30, go_sem, y0, y1, y2, y3, y4, y5, y6, y7, y8, y9, y10, y11]) rfl ⟨?_, ?_⟩
                    · rw [HFIN.out, HX.out]
                      rfl
                    · exact HKW.out.fresh hkk.out (fun i hi => by cases hi; omega)
                · have hfin : pe = .tuple #[pv [0, 0, 0, 0, 0, 0] [0, 0, 0, 0, 0, 0], .int .i64 5] := by
                    rw [← HPE.out, hsl, hd0]
                    have hnum : numB 10 0 [d] = none := by
                      simp only [numB]
                      rw [if_neg (digv_no d hdig)]
                    unfold pmk
                    rw [if_neg (by simp), if_neg (by simp), hnum]
                    rfl
                  have HFIN := Lib.hid hfin
                  clear hr hfin hlen hm h17 he hgt hsl hl2 hsz2 hlen2 k0 k2 k1 hd0 hj
                  by_cases hlo : (d.toNat : Int) < 48
                  · clear hdig
                    go_enter Tryd.func30, Tryd.ntmps30
                    go_wp2_with fail
                    refine (HP.out _).mono ?_
                    rintro e' w2 ⟨rfl, hk2⟩
                    rw [puP, mv6]
                    have HZ2 := Lib.hid (HZ.out.kept hk2 (fun hf => hf))
                    have HK2 := Lib.hid (((Kept.refl Nil w).alloc (.cells #[.int .u8 0, .int .u8 0, .int .u8 0, .int .u8 0, .int .u8 0, .int .u8 0, .int .u8 0, .int .u8 0, .int .u8 0, .int .u8 0, .int .u8 0, .int .u8 0] 28)).then hk2)
                    have hs2 : w.heap.size < w2.heap.size := HZ2.out.lt
                    clear hk2
                    go_wp2_with fail
                    refine wp_loop_rounds 2 ?_
                    rw [rounds_succ]
                    go_upto_region 23 with (fail)
                    obtain ⟨W, hW⟩ : ∃ W, W = w2.alloc (.cells #[.int .u8 (a0.toNat : Int), .int .u8 (a1.toNat : Int), .int .u8 (a2.toNat : Int), .int .u8 (a3.toNat : Int), .int .u8 (a4.toNat : Int), .int .u8 (a5.toNat : Int)] 22) := ⟨_, rfl⟩
                    rw [← hW]
                    have hz3 : Blo W w.heap.size 28 #[.int .u8 0, .int .u8 0, .int .u8 0, .int .u8 0, .int .u8 0, .int .u8 0, .int .u8 0, .int .u8 0, .int .u8 0, .int .u8 0, .int .u8 0, .int .u8 0] := by rw [hW]; exact HZ2.out.alloc _
                    have HK3 : Hid (Kept Nil w W) := by unfold Hid; rw [hW]; exact HK2.out.alloc _
                    clear hW
                    have y0 := hz3.cell 0
                    have z0 := hz3.frozen 0
                    have y1 := hz3.cell 1
                    have z1 := hz3.frozen 1
                    have y2 := hz3.cell 2
                    have z2 := hz3.frozen 2
                    have y3 := hz3.cell 3
                    have z3 := hz3.frozen 3
                    have y4 := hz3.cell 4
                    have z4 := hz3.frozen 4
                    have y5 := hz3.cell 5
                    have z5 := hz3.frozen 5
                    have y6 := hz3.cell 6
                    have z6 := hz3.frozen 6
                    have y7 := hz3.cell 7
                    have z7 := hz3.frozen 7
                    have y8 := hz3.cell 8
                    have z8 := hz3.frozen 8
                    have y9 := hz3.cell 9
                    have z9 := hz3.frozen 9
                    have y10 := hz3.cell 10
                    have z10 := hz3.frozen 10
                    have y11 := hz3.cell 11
                    have z11 := hz3.frozen 11
                    simp at y0 y1 y2 y3 y4 y5 y6 y7 y8 y9 y10 y11
                    clear hz3
                    go_wp2
                    refine bodyPost_ret (v := .tuple #[.agg #[.int .u8 0, .int .u8 0, .int .u8 0, .int .u8 0, .int .u8 0, .int .u8 0, .int .u8 0, .int .u8 0, .int .u8 0, .int .u8 0, .int .u8 0, .int .u8 0], .int .i64 5]) (by simp [results, Tryd.results30, go_sem, y0, y1, y2, y3, y4, y5, y6, y7, y8, y9, y10, y11]) rfl ⟨?_, ?_⟩
                    · rw [HFIN.out]
                      rfl
                    · exact HK3.out.fresh (((((((((((((Kept.refl (fun i => w.heap.size ≤ i) W).put (Nat.le_refl _) _).put (Nat.le_refl _) _).put (Nat.le_refl _) _).put (Nat.le_refl _) _).put (Nat.le_refl _) _).put (Nat.le_refl _) _).put (Nat.le_refl _) _).put (Nat.le_refl _) _).put (Nat.le_refl _) _).put (Nat.le_refl _) _).put (Nat.le_refl _) _).put (Nat.le_refl _) _) (fun i hi => hi)
                  · have hhi : (57 : Int) < (d.toNat : Int) := by omega
                    clear hdig
                    go_enter Tryd.func30, Tryd.ntmps30
                    go_wp2_with fail
                    refine (HP.out _).mono ?_
                    rintro e' w2 ⟨rfl, hk2⟩
                    rw [puP, mv6]
                    have HZ2 := Lib.hid (HZ.out.kept hk2 (fun hf => hf))
                    have HK2 := Lib.hid (((Kept.refl Nil w).alloc (.cells #[.int .u8 0, .int .u8 0, .int .u8 0, .int .u8 0, .int .u8 0, .int .u8 0, .int .u8 0, .int .u8 0, .int .u8 0, .int .u8 0, .int .u8 0, .int .u8 0] 28)).then hk2)
                    have hs2 : w.heap.size < w2.heap.size := HZ2.out.lt
                    clear hk2
                    go_wp2_with fail
                    refine wp_loop_rounds 2 ?_
                    rw [rounds_succ]
                    go_upto_region 23 with (fail)
                    obtain ⟨W, hW⟩ : ∃ W, W = w2.alloc (.cells #[.int .u8 (a0.toNat : Int), .int .u8 (a1.toNat : Int), .int .u8 (a2.toNat : Int), .int .u8 (a3.toNat : Int), .int .u8 (a4.toNat : Int), .int .u8 (a5.toNat : Int)] 22) := ⟨_, rfl⟩
                    rw [← hW]
                    have hz3 : Blo W w.heap.size 28 #[.int .u8 0, .int .u8 0, .int .u8 0, .int .u8 0, .int .u8 0, .int .u8 0, .int .u8 0, .int .u8 0, .int .u8 0, .int .u8 0, .int .u8 0, .int .u8 0] := by rw [hW]; exact HZ2.out.alloc _
                    have HK3 : Hid (Kept Nil w W) := by unfold Hid; rw [hW]; exact HK2.out.alloc _
                    clear hW
                    have y0 := hz3.cell 0
                    have z0 := hz3.frozen 0
                    have y1 := hz3.cell 1
                    have z1 := hz3.frozen 1
                    have y2 := hz3.cell 2
                    have z2 := hz3.frozen 2
                    have y3 := hz3.cell 3
                    have z3 := hz3.frozen 3
                    have y4 := hz3.cell 4
                    have z4 := hz3.frozen 4
                    have y5 := hz3.cell 5
                    have z5 := hz3.frozen 5
                    have y6 := hz3.cell 6
                    have z6 := hz3.frozen 6
                    have y7 := hz3.cell 7
                    have z7 := hz3.frozen 7
                    have y8 := hz3.cell 8
                    have z8 := hz3.frozen 8
                    have y9 := hz3.cell 9
                    have z9 := hz3.frozen 9
                    have y10 := hz3.cell 10
                    have z10 := hz3.frozen 10
                    have y11 := hz3.cell 11
                    have z11 := hz3.frozen 11
                    simp at y0 y1 y2 y3 y4 y5 y6 y7 y8 y9 y10 y11
                    clear hz3
                    go_wp2
                    refine bodyPost_ret (v := .tuple #[.agg #[.int .u8 0, .int .u8 0, .int .u8 0, .int .u8 0, .int .u8 0, .int .u8 0, .int .u8 0, .int .u8 0, .int .u8 0, .int .u8 0, .int .u8 0, .int .u8 0], .int .i64 5]) (by simp [results, Tryd.results30, go_sem, y0, y1, y2, y3, y4, y5, y6, y7, y8, y9, y10, y11]) rfl ⟨?_, ?_⟩
                    · rw [HFIN.out]
                      rfl
                    · exact HK3.out.fresh (((((((((((((Kept.refl (fun i => w.heap.size ≤ i) W).put (Nat.le_refl _) _).put (Nat.le_refl _) _).put (Nat.le_refl _) _).put (Nat.le_refl _) _).put (Nat.le_refl _) _).put (Nat.le_refl _) _).put (Nat.le_refl _) _).put (Nat.le_refl _) _).put (Nat.le_refl _) _).put (Nat.le_refl _) _).put (Nat.le_refl _) _).put (Nat.le_refl _) _) (fun i hi => hi)
              · obtain ⟨d, f, hd0⟩ : ∃ d f, s.data.toList.drop 18 = [d, f] := by
                  match hq : s.data.toList.drop 18, hlen2 with
                  | [d, f], _ => exact ⟨d, f, rfl⟩
                  | [], h9 => simp at h9; omega
                  | [_], h9 => simp at h9; omega
                  | _ :: _ :: _ :: _, h9 => simp at h9; omega
                have hj := fun w => idxS (s.extract 18 s.size) 0 d (by rw [hl2, hd0]; rfl) w
                have hj0 : ∀ w, (Instr.index 9 (.string (s.extract 18 s.size)) (.int .i64 0)).run Tryd.prog w = .ok (.int .u8 (d.toNat : Int)) w := hj
                have hi := fun w => idxS (s.extract 18 s.size) 1 f (by rw [hl2, hd0]; rfl) w
                have hi0 : ∀ w, (Instr.index 9 (.string (s.extract 18 s.size)) (.int .i64 1)).run Tryd.prog w = .ok (.int .u8 (f.toNat : Int)) w := hi
                have hk1 : (s.size : Int) ≤ 20 := by omega
                have hk0 : (19 : Int) < (s.size : Int) := by omega
                by_cases hdig : 48 ≤ d.toNat ∧ d.toNat ≤ 57
                · obtain ⟨q1, q2⟩ := hdig
                  have q3 : (48 : Int) ≤ (d.toNat : Int) := by omega
                  have q4 : (d.toNat : Int) ≤ 57 := by omega
                  by_cases hfig : 48 ≤ f.toNat ∧ f.toNat ≤ 57
                  · obtain ⟨p1, p2⟩ := hfig
                    have p3 : (48 : Int) ≤ (f.toNat : Int) := by omega
                    have p4 : (f.toNat : Int) ≤ 57 := by omega
                    obtain ⟨n, hn⟩ : ∃ n, n = (d.toNat - 48) * 10 + (f.toNat - 48) := ⟨_, rfl⟩
                    have hnum : numB 10 0 [d, f] = some n := by
                      simp only [numB]
                      rw [digv_yes d ⟨q1, q2⟩, digv_yes f ⟨p1, p2⟩, if_pos (by omega), if_pos (by omega), hn]
                      simp
                    by_cases h48 : 48 < n
                    · have hfin : pe = .tuple #[pv [0, 0, 0, 0, 0, 0] [0, 0, 0, 0, 0, 0], .int .i64 24] := by
                        rw [← HPE.out, hsl, hd0]
                        unfold pmk
                        rw [if_neg (by simp), if_neg (by simp), hnum]
                        simp only
                        rw [if_pos h48]
                        rfl
                      have HFIN := Lib.hid hfin
                      have h48i : (48 : Int) < 10 * ((d.toNat : Int) - 48) + ((f.toNat : Int) - 48) := by omega
                      clear hr hfin hlen hm h17 he hgt hsl hl2 hsz2 hlen2 k0 k2 k1 hd0 hj hi hn hnum h48
                      go_enter Tryd.func30, Tryd.ntmps30
                      go_wp2_with fail
                      refine (HP.out _).mono ?_
                      rintro e' w2 ⟨rfl, hk2⟩
                      rw [puP, mv6]
                      have HZ2 := Lib.hid (HZ.out.kept hk2 (fun hf => hf))
                      have HK2 := Lib.hid (((Kept.refl Nil w).alloc (.cells #[.int .u8 0, .int .u8 0, .int .u8 0, .int .u8 0, .int .u8 0, .int .u8 0, .int .u8 0, .int .u8 0, .int .u8 0, .int .u8 0, .int .u8 0, .int .u8 0] 28)).then hk2)
                      have hs2 : w.heap.size < w2.heap.size := HZ2.out.lt
                      clear hk2
                      go_wp2_with fail
                      refine wp_loop_rounds 3 ?_
                      rw [rounds_succ]
                      go_wp2_with fail
                      rw [rounds_succ]
                      go_wp2_with fail
                      rw [rounds_succ]
                      go_upto_region 26 with (fail)
                      obtain ⟨W, hW⟩ : ∃ W, W = w2.alloc (.cells #[.int .u8 (a0.toNat : Int), .int .u8 (a1.toNat : Int), .int .u8 (a2.toNat : Int), .int .u8 (a3.toNat : Int), .int .u8 (a4.toNat : Int), .int .u8 (a5.toNat : Int)] 22) := ⟨_, rfl⟩
                      rw [← hW]
                      have hz3 : Blo W w.heap.size 28 #[.int .u8 0, .int .u8 0, .int .u8 0, .int .u8 0, .int .u8 0, .int .u8 0, .int .u8 0, .int .u8 0, .int .u8 0, .int .u8 0, .int .u8 0, .int .u8 0] := by rw [hW]; exact HZ2.out.alloc _
                      have HK3 : Hid (Kept Nil w W) := by unfold Hid; rw [hW]; exact HK2.out.alloc _
                      clear hW
                      have y0 := hz3.cell 0
                      have z0 := hz3.frozen 0
                      have y1 := hz3.cell 1
                      have z1 := hz3.frozen 1
                      have y2 := hz3.cell 2
                      have z2 := hz3.frozen 2
                      have y3 := hz3.cell 3
                      have z3 := hz3.frozen 3
                      have y4 := hz3.cell 4
                      have z4 := hz3.frozen 4
                      have y5 := hz3.cell 5
                      have z5 := hz3.frozen 5
                      have y6 := hz3.cell 6
                      have z6 := hz3.frozen 6
                      have y7 := hz3.cell 7
                      have z7 := hz3.frozen 7
                      have y8 := hz3.cell 8
                      have z8 := hz3.frozen 8
                      have y9 := hz3.cell 9
                      have z9 := hz3.frozen 9
                      have y10 := hz3.cell 10
                      have z10 := hz3.frozen 10
                      have y11 := hz3.cell 11
                      have z11 := hz3.frozen 11
                      simp at y0 y1 y2 y3 y4 y5 y6 y7 y8 y9 y10 y11
                      clear hz3
                      go_wp2
                      refine bodyPost_ret (v := .tuple #[.agg #[.int .u8 0, .int .u8 0, .int .u8 0, .int .u8 0, .int .u8 0, .int .u8 0, .int .u8 0, .int .u8 0, .int .u8 0, .int .u8 0, .int .u8 0, .int .u8 0], .int .i64 24]) (by simp [results, Tryd.results30, go_sem, y0, y1, y2, y3, y4, y5, y6, y7, y8, y9, y10, y11]) rfl ⟨?_, ?_⟩
                      · rw [HFIN.out]
                        rfl
                      · exact HK3.out.fresh (((((((((((((Kept.refl (fun i => w.heap.size ≤ i) W).put (Nat.le_refl _) _).put (Nat.le_refl _) _).put (Nat.le_refl _) _).put (Nat.le_refl _) _).put (Nat.le_refl _) _).put (Nat.le_refl _) _).put (Nat.le_refl _) _).put (Nat.le_refl _) _).put (Nat.le_refl _) _).put (Nat.le_refl _) _).put (Nat.le_refl _) _).put (Nat.le_refl _) _) (fun i hi => hi)
                    · have hfin : pe = .tuple #[pv (andL [a0, a1, a2, a3, a4, a5] (maskL n)) (maskL n), .int .i64 0] := by
                        rw [← HPE.out, hsl, hd0]
                        unfold pmk
                        rw [if_neg (by simp), if_neg (by simp), hnum]
                        simp only
                        rw [if_neg h48]
                        rfl
                      have h48i : 10 * ((d.toNat : Int) - 48) + ((f.toNat : Int) - 48) ≤ 48 := by omega
                      have hbb := RBits_int (10 * ((d.toNat : Int) - 48) + ((f.toNat : Int) - 48)) (by omega) h48i
                      rw [show (10 * ((d.toNat : Int) - 48) + ((f.toNat : Int) - 48)).toNat = n by omega] at hbb
                      obtain ⟨m0, m1, m2, m3, m4, m5, hmm⟩ := six (maskL n) rfl
                      rw [hmm] at hbb hfin
                      simp only [mv6] at hbb
                      have HB := Lib.hid hbb
                      have HFIN := Lib.hid hfin
                      have hmk := RMasked_yes a0 a1 a2 a3 a4 a5 m0 m1 m2 m3 m4 m5
                      have hmk2 : ∀ w, Calls Tryd.prog 21 #[.agg #[.int .u8 (a0.toNat : Int), .int .u8 (a1.toNat : Int), .int .u8 (a2.toNat : Int), .int .u8 (a3.toNat : Int), .int .u8 (a4.toNat : Int), .int .u8 (a5.toNat : Int)], .agg #[.int .u8 (m0.toNat : Int), .int .u8 (m1.toNat : Int), .int .u8 (m2.toNat : Int), .int .u8 (m3.toNat : Int), .int .u8 (m4.toNat : Int), .int .u8 (m5.toNat : Int)]] w fun r w' => r = .returned (mv (andL [a0, a1, a2, a3, a4, a5] [m0, m1, m2, m3, m4, m5])) ∧ Kept Nil w w' := hmk
                      obtain ⟨x0, x1, x2, x3, x4, x5, hx⟩ := six (andL [a0, a1, a2, a3, a4, a5] [m0, m1, m2, m3, m4, m5]) rfl
                      rw [hx] at hmk2
                      simp only [mv6] at hmk2
                      have HX := Lib.hid hx
                      have HMK := Lib.hid hmk2
                      clear hmk hmk2 hx
                      clear hr hfin hlen hm h17 he hgt hsl hl2 hsz2 hlen2 k0 k2 k1 hd0 hj hi hn hnum h48 hbb hmm
                      go_enter Tryd.func30, Tryd.ntmps30
                      go_wp2_with fail
                      refine (HP.out _).mono ?_
                      rintro e' w2 ⟨rfl, hk2⟩
                      rw [puP, mv6]
                      have HZ2 := Lib.hid (HZ.out.kept hk2 (fun hf => hf))
                      have HK2 := Lib.hid (((Kept.refl Nil w).alloc (.cells #[.int .u8 0, .int .u8 0, .int .u8 0, .int .u8 0, .int .u8 0, .int .u8 0, .int .u8 0, .int .u8 0, .int .u8 0, .int .u8 0, .int .u8 0, .int .u8 0] 28)).then hk2)
                      have hs2 : w.heap.size < w2.heap.size := HZ2.out.lt
                      clear hk2
                      go_wp2_with fail
                      refine wp_loop_rounds 3 ?_
                      rw [rounds_succ]
                      go_wp2_with fail
                      rw [rounds_succ]
                      go_wp2_with fail
                      rw [rounds_succ]
                      go_upto_region 27 with (fail)
                      obtain ⟨W, hW⟩ : ∃ W, W = w2.alloc (.cells #[.int .u8 (a0.toNat : Int), .int .u8 (a1.toNat : Int), .int .u8 (a2.toNat : Int), .int .u8 (a3.toNat : Int), .int .u8 (a4.toNat : Int), .int .u8 (a5.toNat : Int)] 22) := ⟨_, rfl⟩
                      rw [← hW]
                      have hbZ : Blo W w.heap.size 28 #[.int .u8 0, .int .u8 0, .int .u8 0, .int .u8 0, .int .u8 0, .int .u8 0, .int .u8 0, .int .u8 0, .int .u8 0, .int .u8 0, .int .u8 0, .int .u8 0] := by rw [hW]; exact HZ2.out.alloc _
                      have hKW : Kept Nil w W := by rw [hW]; exact HK2.out.alloc _
                      have ba : Blo W w2.heap.size 22 #[.int .u8 (a0.toNat : Int), .int .u8 (a1.toNat : Int), .int .u8 (a2.toNat : Int), .int .u8 (a3.toNat : Int), .int .u8 (a4.toNat : Int), .int .u8 (a5.toNat : Int)] := by rw [hW]; exact Blo.new w2 _ _
                      clear hW
                      have HBZ := Lib.hid hbZ
                      have HKW := Lib.hid hKW
                      have Hba := Lib.hid ba
                      have nba : w2.heap.size ≠ w.heap.size := by omega
                      clear hbZ hKW ba
                      generalize h9ba : w2.heap.size = qba at *
                      generalize hg2 : w.heap.size = g2 at *
                      refine wp_region_own3 (One g2) (upd noOwn g2 (false, #[.int .u8 0, .int .u8 0, .int .u8 0, .int .u8 0, .int .u8 0, .int .u8 0, .int .u8 0, .int .u8 0, .int .u8 0, .int .u8 0, .int .u8 0, .int .u8 0], 28)) (fun _ => #[]) 7 (fun _ => .int .i64 0) (by kernel_rfl) (by kernel_rfl) (by kernel_rfl) (holds_one HBZ.out) ?_
                      apply Exists.intro
                      refine And.intro ?hq ?ht
                      case hq =>
                        intro V hV
                        have kk0 := Hba.out.kept hV (fun hf => nba hf)
                        have ca0 := kk0.gcell 0
                        have ca1 := kk0.gcell 1
                        have ca2 := kk0.gcell 2
                        have ca3 := kk0.gcell 3
                        have ca4 := kk0.gcell 4
                        have ca5 := kk0.gcell 5
                        simp at ca0 ca1 ca2 ca3 ca4 ca5
                        clear kk0
                        dsimp only [List.take]
                        repeat (go_big_quiet_step (first | (with_reducible exact quietK (HB.out _)) | (with_reducible exact quietK (HMK.out _))))
                        exact wpQuiet_nil rfl
                      case ht =>
                        intro vs hvs
                        dsimp only [List.drop]
                        refine sLex_store 28 (.tmp 2) (.tmp 92) rfl rfl rfl g2 #[.int .u8 0, .int .u8 0, .int .u8 0, .int .u8 0, .int .u8 0, .int .u8 0, .int .u8 0, .int .u8 0, .int .u8 0, .int .u8 0, .int .u8 0, .int .u8 0] #[.int .u8 (x0.toNat : Int), .int .u8 (x1.toNat : Int), .int .u8 (x2.toNat : Int), .int .u8 (x3.toNat : Int), .int .u8 (x4.toNat : Int), .int .u8 (x5.toNat : Int), .int .u8 (m0.toNat : Int), .int .u8 (m1.toNat : Int), .int .u8 (m2.toNat : Int), .int .u8 (m3.toNat : Int), .int .u8 (m4.toNat : Int), .int .u8 (m5.toNat : Int)] (by rfl) (by simp [upd]) (by rfl) rfl (by kernel_rfl) (by simp [Value.oneCell']) ?_
                        refine sLex_assign (.const (.int .i64 0)) rfl rfl (hvs _ (by simp)) ?_
                        intro w' hh
                        have hb2 := (hh.own g2 true #[.int .u8 (x0.toNat : Int), .int .u8 (x1.toNat : Int), .int .u8 (x2.toNat : Int), .int .u8 (x3.toNat : Int), .int .u8 (x4.toNat : Int), .int .u8 (x5.toNat : Int), .int .u8 (m0.toNat : Int), .int .u8 (m1.toNat : Int), .int .u8 (m2.toNat : Int), .int .u8 (m3.toNat : Int), .int .u8 (m4.toNat : Int), .int .u8 (m5.toNat : Int)] 28 (by simp [upd])).2
                        have hkk := Lib.hid hh.kept
                        have y0 := hb2.cell 0
                        have z0 := hb2.frozen 0
                        have y1 := hb2.cell 1
                        have z1 := hb2.frozen 1
                        have y2 := hb2.cell 2
                        have z2 := hb2.frozen 2
                        have y3 := hb2.cell 3
                        have z3 := hb2.frozen 3
                        have y4 := hb2.cell 4
                        have z4 := hb2.frozen 4
                        have y5 := hb2.cell 5
                        have z5 := hb2.frozen 5
                        have y6 := hb2.cell 6
                        have z6 := hb2.frozen 6
                        have y7 := hb2.cell 7
                        have z7 := hb2.frozen 7
                        have y8 := hb2.cell 8
                        have z8 := hb2.frozen 8
                        have y9 := hb2.cell 9
                        have z9 := hb2.frozen 9
                        have y10 := hb2.cell 10
                        have z10 := hb2.frozen 10
                        have y11 := hb2.cell 11
                        have z11 := hb2.frozen 11
                        simp at y0 y1 y2 y3 y4 y5 y6 y7 y8 y9 y10 y11
                        clear hb2
                        go_wp2
                        refine bodyPost_ret (v := .tuple #[.agg #[.int .u8 (x0.toNat : Int), .int .u8 (x1.toNat : Int), .int .u8 (x2.toNat : Int), .int .u8 (x3.toNat : Int), .int .u8 (x4.toNat : Int), .int .u8 (x5.toNat : Int), .int .u8 (m0.toNat : Int), .int .u8 (m1.toNat : Int), .int .u8 (m2.toNat : Int), .int .u8 (m3.toNat : Int), .int .u8 (m4.toNat : Int), .int .u8 (m5.toNat : Int)], .int .i64 0]) (by simp [results, Tryd.results30, go_sem, y0, y1, y2, y3, y4, y5, y6, y7, y8, y9, y10, y11]) rfl ⟨?_, ?_⟩
                        · rw [HFIN.out, HX.out]
                          rfl
                        · exact HKW.out.fresh hkk.out (fun i hi => by cases hi; omega)
                  · have hfin : pe = .tuple #[pv [0, 0, 0, 0, 0, 0] [0, 0, 0, 0, 0, 0], .int .i64 5] := by
                      rw [← HPE.out, hsl, hd0]
                      have hnum : numB 10 0 [d, f] = none := by
                        simp only [numB]
                        rw [digv_yes d ⟨q1, q2⟩, if_pos (by omega), if_neg (digv_no f hfig)]
                      unfold pmk
                      rw [if_neg (by simp), if_neg (by simp), hnum]
                      rfl
                    have HFIN := Lib.hid hfin
                    clear hr hfin hlen hm h17 he hgt hsl hl2 hsz2 hlen2 k0 k2 k1 hd0 hj hi
                    by_cases hlo : (f.toNat : Int) < 48
                    · clear hfig
                      go_enter Tryd.func30, Tryd.ntmps30
                      go_wp2_with fail
                      refine (HP.out _).mono ?_
                      rintro e' w2 ⟨rfl, hk2⟩
                      rw [puP, mv6]
                      have HZ2 := Lib.hid (HZ.out.kept hk2 (fun hf => hf))
                      have HK2 := Lib.hid (((Kept.refl Nil w).alloc (.cells #[.int .u8 0, .int .u8 0, .int .u8 0, .int .u8 0, .int .u8 0, .int .u8 0, .int .u8 0, .int .u8 0, .int .u8 0, .int .u8 0, .int .u8 0, .int .u8 0] 28)).then hk2)
                      have hs2 : w.heap.size < w2.heap.size := HZ2.out.lt
                      clear hk2
                      go_wp2_with fail
                      refine wp_loop_rounds 3 ?_
                      rw [rounds_succ]
                      go_wp2_with fail
                      rw [rounds_succ]
                      go_upto_region 23 with (fail)
                      obtain ⟨W, hW⟩ : ∃ W, W = w2.alloc (.cells #[.int .u8 (a0.toNat : Int), .int .u8 (a1.toNat : Int), .int .u8 (a2.toNat : Int), .int .u8 (a3.toNat : Int), .int .u8 (a4.toNat : Int), .int .u8 (a5.toNat : Int)] 22) := ⟨_, rfl⟩
                      rw [← hW]
                      have hz3 : Blo W w.heap.size 28 #[.int .u8 0, .int .u8 0, .int .u8 0, .int .u8 0, .int .u8 0, .int .u8 0, .int .u8 0, .int .u8 0, .int .u8 0, .int .u8 0, .int .u8 0, .int .u8 0] := by rw [hW]; exact HZ2.out.alloc _
                      have HK3 : Hid (Kept Nil w W) := by unfold Hid; rw [hW]; exact HK2.out.alloc _
                      clear hW
                      have y0 := hz3.cell 0
                      have z0 := hz3.frozen 0
                      have y1 := hz3.cell 1
                      have z1 := hz3.frozen 1
                      have y2 := hz3.cell 2
                      have z2 := hz3.frozen 2
                      have y3 := hz3.cell 3
                      have z3 := hz3.frozen 3
                      have y4 := hz3.cell 4
                      have z4 := hz3.frozen 4
                      have y5 := hz3.cell 5
                      have z5 := hz3.frozen 5
                      have y6 := hz3.cell 6
                      have z6 := hz3.frozen 6
                      have y7 := hz3.cell 7
                      have z7 := hz3.frozen 7
                      have y8 := hz3.cell 8
                      have z8 := hz3.frozen 8
                      have y9 := hz3.cell 9
                      have z9 := hz3.frozen 9
                      have y10 := hz3.cell 10
                      have z10 := hz3.frozen 10
                      have y11 := hz3.cell 11
                      have z11 := hz3.frozen 11
                      simp at y0 y1 y2 y3 y4 y5 y6 y7 y8 y9 y10 y11
                      clear hz3
                      go_wp2
                      refine bodyPost_ret (v := .tuple #[.agg #[.int .u8 0, .int .u8 0, .int .u8 0, .int .u8 0, .int .u8 0, .int .u8 0, .int .u8 0, .int .u8 0, .int .u8 0, .int .u8 0, .int .u8 0, .int .u8 0], .int .i64 5]) (by simp [results, Tryd.results30, go_sem, y0, y1, y2, y3, y4, y5, y6, y7, y8, y9, y10, y11]) rfl ⟨?_, ?_⟩
                      · rw [HFIN.out]
                        rfl
                      · exact HK3.out.fresh (((((((((((((Kept.refl (fun i => w.heap.size ≤ i) W).put (Nat.le_refl _) _).put (Nat.le_refl _) _).put (Nat.le_refl _) _).put (Nat.le_refl _) _).put (Nat.le_refl _) _).put (Nat.le_refl _) _).put (Nat.le_refl _) _).put (Nat.le_refl _) _).put (Nat.le_refl _) _).put (Nat.le_refl _) _).put (Nat.le_refl _) _).put (Nat.le_refl _) _) (fun i hi => hi)
                    · have hhi : (57 : Int) < (f.toNat : Int) := by omega
                      clear hfig
                      go_enter Tryd.func30, Tryd.ntmps30
                      go_wp2_with fail
                      refine (HP.out _).mono ?_
                      rintro e' w2 ⟨rfl, hk2⟩
                      rw [puP, mv6]
                      have HZ2 := Lib.hid (HZ.out.kept hk2 (fun hf => hf))
                      have HK2 := Lib.hid (((Kept.refl Nil w).alloc (.cells #[.int .u8 0, .int .u8 0, .int .u8 0, .int .u8 0, .int .u8 0, .int .u8 0, .int .u8 0, .int .u8 0, .int .u8 0, .int .u8 0, .int .u8 0, .int .u8 0] 28)).then hk2)
                      have hs2 : w.heap.size < w2.heap.size := HZ2.out.lt
                      clear hk2
                      go_wp2_with fail
                      refine wp_loop_rounds 3 ?_
                      rw [rounds_succ]
                      go_wp2_with fail
                      rw [rounds_succ]
                      go_upto_region 23 with (fail)
                      obtain ⟨W, hW⟩ : ∃ W, W = w2.alloc (.cells #[.int .u8 (a0.toNat : Int), .int .u8 (a1.toNat : Int), .int .u8 (a2.toNat : Int), .int .u8 (a3.toNat : Int), .int .u8 (a4.toNat : Int), .int .u8 (a5.toNat : Int)] 22) := ⟨_, rfl⟩
                      rw [← hW]
                      have hz3 : Blo W w.heap.size 28 #[.int .u8 0, .int .u8 0, .int .u8 0, .int .u8 0, .int .u8 0, .int .u8 0, .int .u8 0, .int .u8 0, .int .u8 0, .int .u8 0, .int .u8 0, .int .u8 0] := by rw [hW]; exact HZ2.out.alloc _
                      have HK3 : Hid (Kept Nil w W) := by unfold Hid; rw [hW]; exact HK2.out.alloc _
                      clear hW
                      have y0 := hz3.cell 0
                      have z0 := hz3.frozen 0
                      have y1 := hz3.cell 1
                      have z1 := hz3.frozen 1
                      have y2 := hz3.cell 2
                      have z2 := hz3.frozen 2
                      have y3 := hz3.cell 3
                      have z3 := hz3.frozen 3
                      have y4 := hz3.cell 4
                      have z4 := hz3.frozen 4
                      have y5 := hz3.cell 5
                      have z5 := hz3.frozen 5
                      have y6 := hz3.cell 6
                      have z6 := hz3.frozen 6
                      have y7 := hz3.cell 7
                      have z7 := hz3.frozen 7
                      have y8 := hz3.cell 8
                      have z8 := hz3.frozen 8
                      have y9 := hz3.cell 9
                      have z9 := hz3.frozen 9
                      have y10 := hz3.cell 10
                      have z10 := hz3.frozen 10
                      have y11 := hz3.cell 11
                      have z11 := hz3.frozen 11
                      simp at y0 y1 y2 y3 y4 y5 y6 y7 y8 y9 y10 y11
                      clear hz3
                      go_wp2
                      refine bodyPost_ret (v := .tuple #[.agg #[.int .u8 0, .int .u8 0, .int .u8 0, .int .u8 0, .int .u8 0, .int .u8 0, .int .u8 0, .int .u8 0, .int .u8 0, .int .u8 0, .int .u8 0, .int .u8 0], .int .i64 5]) (by simp [results, Tryd.results30, go_sem, y0, y1, y2, y3, y4, y5, y6, y7, y8, y9, y10, y11]) rfl ⟨?_, ?_⟩
                      · rw [HFIN.out]
                        rfl
                      · exact HK3.out.fresh (((((((((((((Kept.refl (fun i => w.heap.size ≤ i) W).put (Nat.le_refl _) _).put (Nat.le_refl _) _).put (Nat.le_refl _) _).put (Nat.le_refl _) _).put (Nat.le_refl _) _).put (Nat.le_refl _) _).put (Nat.le_refl _) _).put (Nat.le_refl _) _).put (Nat.le_refl _) _).put (Nat.le_refl _) _).put (Nat.le_refl _) _).put (Nat.le_refl _) _) (fun i hi => hi)
                · have hfin : pe = .tuple #[pv [0, 0, 0, 0, 0, 0] [0, 0, 0, 0, 0, 0], .int .i64 5] := by
                    rw [← HPE.out, hsl, hd0]
                    have hnum : numB 10 0 [d, f] = none := by
                      simp only [numB]
                      rw [if_neg (digv_no d hdig)]
                    unfold pmk
                    rw [if_neg (by simp), if_neg (by simp), hnum]
                    rfl
                  have HFIN := Lib.hid hfin
                  clear hr hfin hlen hm h17 he hgt hsl hl2 hsz2 hlen2 k0 k2 k1 hd0 hj hi
                  by_cases hlo : (d.toNat : Int) < 48
                  · clear hdig
                    go_enter Tryd.func30, Tryd.ntmps30
                    go_wp2_with fail
                    refine (HP.out _).mono ?_
                    rintro e' w2 ⟨rfl, hk2⟩
                    rw [puP, mv6]
                    have HZ2 := Lib.hid (HZ.out.kept hk2 (fun hf => hf))
                    have HK2 := Lib.hid (((Kept.refl Nil w).alloc (.cells #[.int .u8 0, .int .u8 0, .int .u8 0, .int .u8 0, .int .u8 0, .int .u8 0, .int .u8 0, .int .u8 0, .int .u8 0, .int .u8 0, .int .u8 0, .int .u8 0] 28)).then hk2)
                    have hs2 : w.heap.size < w2.heap.size := HZ2.out.lt
                    clear hk2
                    go_wp2_with fail
                    refine wp_loop_rounds 3 ?_
                    rw [rounds_succ]
                    go_upto_region 23 with (fail)
                    obtain ⟨W, hW⟩ : ∃ W, W = w2.alloc (.cells #[.int .u8 (a0.toNat : Int), .int .u8 (a1.toNat : Int), .int .u8 (a2.toNat : Int), .int .u8 (a3.toNat : Int), .int .u8 (a4.toNat : Int), .int .u8 (a5.toNat : Int)] 22) := ⟨_, rfl⟩
                    rw [← hW]
                    have hz3 : Blo W w.heap.size 28 #[.int .u8 0, .int .u8 0, .int .u8 0, .int .u8 0, .int .u8 0, .int .u8 0, .int .u8 0, .int .u8 0, .int .u8 0, .int .u8 0, .int .u8 0, .int .u8 0] := by rw [hW]; exact HZ2.out.alloc _
                    have HK3 : Hid (Kept Nil w W) := by unfold Hid; rw [hW]; exact HK2.out.alloc _
                    clear hW
                    have y0 := hz3.cell 0
                    have z0 := hz3.frozen 0
                    have y1 := hz3.cell 1
                    have z1 := hz3.frozen 1
                    have y2 := hz3.cell 2
                    have z2 := hz3.frozen 2
                    have y3 := hz3.cell 3
                    have z3 := hz3.frozen 3
                    have y4 := hz3.cell 4
                    have z4 := hz3.frozen 4
                    have y5 := hz3.cell 5
                    have z5 := hz3.frozen 5
                    have y6 := hz3.cell 6
                    have z6 := hz3.frozen 6
                    have y7 := hz3.cell 7
                    have z7 := hz3.frozen 7
                    have y8 := hz3.cell 8
                    have z8 := hz3.frozen 8
                    have y9 := hz3.cell 9
                    have z9 := hz3.frozen 9
                    have y10 := hz3.cell 10
                    have z10 := hz3.frozen 10
                    have y11 := hz3.cell 11
                    have z11 := hz3.frozen 11
                    simp at y0 y1 y2 y3 y4 y5 y6 y7 y8 y9 y10 y11
                    clear hz3
                    go_wp2
                    refine bodyPost_ret (v := .tuple #[.agg #[.int .u8 0, .int .u8 0, .int .u8 0, .int .u8 0, .int .u8 0, .int .u8 0, .int .u8 0, .int .u8 0, .int .u8 0, .int .u8 0, .int .u8 0, .int .u8 0], .int .i64 5]) (by simp [results, Tryd.results30, go_sem, y0, y1, y2, y3, y4, y5, y6, y7, y8, y9, y10, y11]) rfl ⟨?_, ?_⟩
                    · rw [HFIN.out]
                      rfl
                    · exact HK3.out.fresh (((((((((((((Kept.refl (fun i => w.heap.size ≤ i) W).put (Nat.le_refl _) _).put (Nat.le_refl _) _).put (Nat.le_refl _) _).put (Nat.le_refl _) _).put (Nat.le_refl _) _).put (Nat.le_refl _) _).put (Nat.le_refl _) _).put (Nat.le_refl _) _).put (Nat.le_refl _) _).put (Nat.le_refl _) _).put (Nat.le_refl _) _).put (Nat.le_refl _) _) (fun i hi => hi)
                  · have hhi : (57 : Int) < (d.toNat : Int) := by omega
                    clear hdig
                    go_enter Tryd.func30, Tryd.ntmps30
                    go_wp2_with fail
                    refine (HP.out _).mono ?_
                    rintro e' w2 ⟨rfl, hk2⟩
                    rw [puP, mv6]
                    have HZ2 := Lib.hid (HZ.out.kept hk2 (fun hf => hf))
                    have HK2 := Lib.hid (((Kept.refl Nil w).alloc (.cells #[.int .u8 0, .int .u8 0, .int .u8 0, .int .u8 0, .int .u8 0, .int .u8 0, .int .u8 0, .int .u8 0, .int .u8 0, .int .u8 0, .int .u8 0, .int .u8 0] 28)).then hk2)
                    have hs2 : w.heap.size < w2.heap.size := HZ2.out.lt
                    clear hk2
                    go_wp2_with fail
                    refine wp_loop_rounds 3 ?_
                    rw [rounds_succ]
                    go_upto_region 23 with (fail)
                    obtain ⟨W, hW⟩ : ∃ W, W = w2.alloc (.cells #[.int .u8 (a0.toNat : Int), .int .u8 (a1.toNat : Int), .int .u8 (a2.toNat : Int), .int .u8 (a3.toNat : Int), .int .u8 (a4.toNat : Int), .int .u8 (a5.toNat : Int)] 22) := ⟨_, rfl⟩
                    rw [← hW]
                    have hz3 : Blo W w.heap.size 28 #[.int .u8 0, .int .u8 0, .int .u8 0, .int .u8 0, .int .u8 0, .int .u8 0, .int .u8 0, .int .u8 0, .int .u8 0, .int .u8 0, .int .u8 0, .int .u8 0] := by rw [hW]; exact HZ2.out.alloc _
                    have HK3 : Hid (Kept Nil w W) := by unfold Hid; rw [hW]; exact HK2.out.alloc _
                    clear hW
                    have y0 := hz3.cell 0
                    have z0 := hz3.frozen 0
                    have y1 := hz3.cell 1
                    have z1 := hz3.frozen 1
                    have y2 := hz3.cell 2
                    have z2 := hz3.frozen 2
                    have y3 := hz3.cell 3
                    have z3 := hz3.frozen 3
                    have y4 := hz3.cell 4
                    have z4 := hz3.frozen 4
                    have y5 := hz3.cell 5
                    have z5 := hz3.frozen 5
                    have y6 := hz3.cell 6
                    have z6 := hz3.frozen 6
                    have y7 := hz3.cell 7
                    have z7 := hz3.frozen 7
                    have y8 := hz3.cell 8
                    have z8 := hz3.frozen 8
                    have y9 := hz3.cell 9
                    have z9 := hz3.frozen 9
                    have y10 := hz3.cell 10
                    have z10 := hz3.frozen 10
                    have y11 := hz3.cell 11
                    have z11 := hz3.frozen 11
                    simp at y0 y1 y2 y3 y4 y5 y6 y7 y8 y9 y10 y11
                    clear hz3
                    go_wp2
                    refine bodyPost_ret (v := .tuple #[.agg #[.int .u8 0, .int .u8 0, .int .u8 0, .int .u8 0, .int .u8 0, .int .u8 0, .int .u8 0, .int .u8 0, .int .u8 0, .int .u8 0, .int .u8 0, .int .u8 0], .int .i64 5]) (by simp [results, Tryd.results30, go_sem, y0, y1, y2, y3, y4, y5, y6, y7, y8, y9, y10, y11]) rfl ⟨?_, ?_⟩
                    · rw [HFIN.out]
                      rfl
                    · exact HK3.out.fresh (((((((((((((Kept.refl (fun i => w.heap.size ≤ i) W).put (Nat.le_refl _) _).put (Nat.le_refl _) _).put (Nat.le_refl _) _).put (Nat.le_refl _) _).put (Nat.le_refl _) _).put (Nat.le_refl _) _).put (Nat.le_refl _) _).put (Nat.le_refl _) _).put (Nat.le_refl _) _).put (Nat.le_refl _) _).put (Nat.le_refl _) _).put (Nat.le_refl _) _) (fun i hi => hi)
        · have hfin : pe = .tuple #[pv [0, 0, 0, 0, 0, 0] [0, 0, 0, 0, 0, 0], .int .i64 5] := by
            rw [← HPE.out, ppt_other _ _ hr hgt hc]
            rfl
          have HFIN := Lib.hid hfin
          generalize hcc : s.data.toList.getD 17 0 = c at hix hc
          have hi2 : ∀ w, (Instr.index 9 (.string s) (.int .i64 17)).run Tryd.prog w = .ok (.int .u8 (c.toNat : Int)) w := hix
          have hn47 : ((c.toNat : Int) == 47) = false := by rw [beq_eq_false_iff_ne]; intro h; exact hc (UInt8.toNat_inj.1 (by show c.toNat = 47; omega))
          have hgti : (17 : Int) < (s.size : Int) := by omega
          clear hr hfin hlen hm h17 he hgt hix hc hcc
          go_enter Tryd.func30, Tryd.ntmps30
          go_wp2_with fail
          refine (HP.out _).mono ?_
          rintro e' w2 ⟨rfl, hk2⟩
          rw [puP, mv6]
          have HZ2 := Lib.hid (HZ.out.kept hk2 (fun hf => hf))
          have HK2 := Lib.hid (((Kept.refl Nil w).alloc (.cells #[.int .u8 0, .int .u8 0, .int .u8 0, .int .u8 0, .int .u8 0, .int .u8 0, .int .u8 0, .int .u8 0, .int .u8 0, .int .u8 0, .int .u8 0, .int .u8 0] 28)).then hk2)
          have hs2 : w.heap.size < w2.heap.size := HZ2.out.lt
          clear hk2
          go_upto_region 9 with (fail)
          obtain ⟨W, hW⟩ : ∃ W, W = w2.alloc (.cells #[.int .u8 (a0.toNat : Int), .int .u8 (a1.toNat : Int), .int .u8 (a2.toNat : Int), .int .u8 (a3.toNat : Int), .int .u8 (a4.toNat : Int), .int .u8 (a5.toNat : Int)] 22) := ⟨_, rfl⟩
          rw [← hW]
          have hz3 : Blo W w.heap.size 28 #[.int .u8 0, .int .u8 0, .int .u8 0, .int .u8 0, .int .u8 0, .int .u8 0, .int .u8 0, .int .u8 0, .int .u8 0, .int .u8 0, .int .u8 0, .int .u8 0] := by rw [hW]; exact HZ2.out.alloc _
          have HK3 : Hid (Kept Nil w W) := by unfold Hid; rw [hW]; exact HK2.out.alloc _
          clear hW
          have y0 := hz3.cell 0
          have z0 := hz3.frozen 0
          have y1 := hz3.cell 1
          have z1 := hz3.frozen 1
          have y2 := hz3.cell 2
          have z2 := hz3.frozen 2
          have y3 := hz3.cell 3
          have z3 := hz3.frozen 3
          have y4 := hz3.cell 4
          have z4 := hz3.frozen 4
          have y5 := hz3.cell 5
          have z5 := hz3.frozen 5
          have y6 := hz3.cell 6
          have z6 := hz3.frozen 6
          have y7 := hz3.cell 7
          have z7 := hz3.frozen 7
          have y8 := hz3.cell 8
          have z8 := hz3.frozen 8
          have y9 := hz3.cell 9
          have z9 := hz3.frozen 9
          have y10 := hz3.cell 10
          have z10 := hz3.frozen 10
          have y11 := hz3.cell 11
          have z11 := hz3.frozen 11
          simp at y0 y1 y2 y3 y4 y5 y6 y7 y8 y9 y10 y11
          clear hz3
          go_wp2
          refine bodyPost_ret (v := .tuple #[.agg #[.int .u8 0, .int .u8 0, .int .u8 0, .int .u8 0, .int .u8 0, .int .u8 0, .int .u8 0, .int .u8 0, .int .u8 0, .int .u8 0, .int .u8 0, .int .u8 0], .int .i64 5]) (by simp [results, Tryd.results30, go_sem, y0, y1, y2, y3, y4, y5, y6, y7, y8, y9, y10, y11]) rfl ⟨?_, ?_⟩
          · rw [HFIN.out]
            rfl
          · exact HK3.out.fresh (((((((((((((Kept.refl (fun i => w.heap.size ≤ i) W).put (Nat.le_refl _) _).put (Nat.le_refl _) _).put (Nat.le_refl _) _).put (Nat.le_refl _) _).put (Nat.le_refl _) _).put (Nat.le_refl _) _).put (Nat.le_refl _) _).put (Nat.le_refl _) _).put (Nat.le_refl _) _).put (Nat.le_refl _) _).put (Nat.le_refl _) _).put (Nat.le_refl _) _) (fun i hi => hi)
end Go.Proofs.YtjfffddaiefggabDoor
