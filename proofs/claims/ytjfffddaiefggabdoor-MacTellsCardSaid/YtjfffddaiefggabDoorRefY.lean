/- Contract of tollref02.PatternText. -/
import Derived.Test.YtjfffddaiefggabDoorRefX
import Derived.Test.YtjfffddaiefggabDoorRefBM
import Derived.Test.YtjfffddaiefggabDoorMacU
namespace Go.Proofs.YtjfffddaiefggabDoor
open Go.RowKit Go.Sort Go.BigFrame
set_option linter.unusedVariables false

theorem rsiz5 (w : World) : (sizeOf 5).run Tryd.prog w = .ok 1 w := by kernel_rfl
theorem meqR (l m : List UInt8) (hl : l.length = 6) (hm : m.length = 6) (w : World) : (Op.equalIn 10000 22 (.agg (bys l).toArray) (.agg (bys m).toArray)).run Tryd.prog w = .ok (l == m) w :=
  run_equalIn_bytes w 9998 22 5 6 Tryd.underlying22 Tryd.underlying5 rsiz5 l m hl hm
theorem dec1 : ∀ k : Fin 10, Lib.decDigits k.val = [UInt8.ofNat (48 + k.val)] := by decide +kernel
theorem dec2 : ∀ k : Fin 49, 10 ≤ k.val → Lib.decDigits k.val = [UInt8.ofNat (48 + k.val / 10), UInt8.ofNat (48 + k.val % 10)] := by decide +kernel
theorem app3 (tt v : List UInt8) : (ByteArray.mk (tt ++ 47 :: v).toArray) = ByteArray.mk (tt ++ [47]).toArray ++ ByteArray.mk v.toArray := by
  rw [ByteArray.mk_append_mk]; simp
theorem mask_ff : ∀ k : Fin 49, k.val < 48 → maskL k.val ≠ [255, 255, 255, 255, 255, 255] := by decide +kernel
theorem mtx_mask (k : Nat) (hk : k ≤ 48) : mtx (maskL k) = Lib.decDigits k := by
  have h := lo_mask ⟨k, by omega⟩
  simp only at h
  unfold mtx
  rw [h, Int.toNat_natCast, if_pos ⟨by omega, by omega, rfl⟩]
theorem mtx_not (l : List UInt8) (h : ∀ j, j ≤ 48 → l ≠ maskL j) : mtx l = textL l := by
  unfold mtx
  rw [if_neg]
  rintro ⟨h1, h2, h3⟩
  exact h _ (by omega) h3
theorem conv_bytes (w : World) (l : List UInt8) (cells : Array Value) (n : Nat) (hn : n = l.length) (hc : cells = (bys l).toArray) (hl : l.length ≤ 1000) :
    (convert 66 9 (.slice (some ⟨w.heap.size, 0, none⟩) n n)).run Tryd.prog (w.alloc (.cells cells 5)) = .ok (.string ⟨l.toArray⟩) (w.alloc (.cells cells 5)) := by
  subst hn hc
  exact (Byt.lit w l 5 (by omega)).text Tryd.underlying66 Tryd.underlying5 Tryd.underlying9
set_option maxHeartbeats 2000000 in
set_option maxRecDepth 100000 in
theorem RPText_yes (a0 a1 a2 a3 a4 a5 m0 m1 m2 m3 m4 m5 : UInt8) (w : World) : Calls Tryd.prog 23 #[.agg #[.int .u8 (a0.toNat : Int), .int .u8 (a1.toNat : Int), .int .u8 (a2.toNat : Int), .int .u8 (a3.toNat : Int), .int .u8 (a4.toNat : Int), .int .u8 (a5.toNat : Int), .int .u8 (m0.toNat : Int), .int .u8 (m1.toNat : Int), .int .u8 (m2.toNat : Int), .int .u8 (m3.toNat : Int), .int .u8 (m4.toNat : Int), .int .u8 (m5.toNat : Int)]] w fun r w' => r = .returned (.string ⟨(ptx [a0, a1, a2, a3, a4, a5] [m0, m1, m2, m3, m4, m5]).toArray⟩) ∧ Kept Nil w w' := by
  have hma : ∀ w, Calls Tryd.prog 21 #[.agg #[.int .u8 (a0.toNat : Int), .int .u8 (a1.toNat : Int), .int .u8 (a2.toNat : Int), .int .u8 (a3.toNat : Int), .int .u8 (a4.toNat : Int), .int .u8 (a5.toNat : Int)], .agg #[.int .u8 (m0.toNat : Int), .int .u8 (m1.toNat : Int), .int .u8 (m2.toNat : Int), .int .u8 (m3.toNat : Int), .int .u8 (m4.toNat : Int), .int .u8 (m5.toNat : Int)]] w fun r w' => r = .returned (mv (andL [a0, a1, a2, a3, a4, a5] [m0, m1, m2, m3, m4, m5])) ∧ Kept Nil w w' := RMasked_yes a0 a1 a2 a3 a4 a5 m0 m1 m2 m3 m4 m5
  obtain ⟨x0, x1, x2, x3, x4, x5, hx⟩ := six (andL [a0, a1, a2, a3, a4, a5] [m0, m1, m2, m3, m4, m5]) rfl
  rw [hx] at hma
  simp only [mv6] at hma
  have HX := Lib.hid hx
  have HMA := Lib.hid hma
  have HTX := Lib.hid (RText_yes x0 x1 x2 x3 x4 x5)
  have HTM := Lib.hid (RText_yes m0 m1 m2 m3 m4 m5)
  have hl1 : ((textL [x0, x1, x2, x3, x4, x5]).length : Int) ≤ 17 := by rw [textL_len]; omega
  have hl2 : ((textL [m0, m1, m2, m3, m4, m5]).length : Int) ≤ 17 := by rw [textL_len]; omega
  have HBW := Lib.hid (Blo.new w 28 #[.int .u8 (a0.toNat : Int), .int .u8 (a1.toNat : Int), .int .u8 (a2.toNat : Int), .int .u8 (a3.toNat : Int), .int .u8 (a4.toNat : Int), .int .u8 (a5.toNat : Int), .int .u8 (m0.toNat : Int), .int .u8 (m1.toNat : Int), .int .u8 (m2.toNat : Int), .int .u8 (m3.toNat : Int), .int .u8 (m4.toNat : Int), .int .u8 (m5.toNat : Int)])
  clear hma hx
  go_enter Tryd.func23, Tryd.ntmps23
  go_wp2_with fail
  refine (HMA.out _).mono ?_
  rintro r w1 ⟨rfl, hk1⟩
  have HP := Lib.hid (HBW.out.kept hk1 (fun hf => hf))
  have HK := Lib.hid (((Kept.refl Nil w).alloc _).then hk1)
  clear hk1
  go_wp2_with fail
  refine (HTX.out _).mono ?_
  rintro r w2 ⟨rfl, hk2⟩
  have HP := Lib.hid (HP.out.kept hk2 (fun hf => hf))
  have HK := Lib.hid (HK.out.then hk2)
  clear hk2
  obtain ⟨tt, htt⟩ : ∃ tt, tt = textL [x0, x1, x2, x3, x4, x5] := ⟨_, rfl⟩
  rw [← htt] at hl1 ⊢
  have HTT := Lib.hid htt
  clear htt
  go_wp2_with fail
  go_loopw [4] (fun i wr => ∃ (k : Nat) (ki : Int), k ≤ 48 ∧ i = .int .i64 ki ∧ 0 ≤ ki ∧ ki ≤ 48 ∧ Hid (ki = (k : Int)) ∧ Hid (∀ j, j < k → [m0, m1, m2, m3, m4, m5] ≠ maskL j) ∧ Hid (Blo wr w.heap.size 28 #[.int .u8 (a0.toNat : Int), .int .u8 (a1.toNat : Int), .int .u8 (a2.toNat : Int), .int .u8 (a3.toNat : Int), .int .u8 (a4.toNat : Int), .int .u8 (a5.toNat : Int), .int .u8 (m0.toNat : Int), .int .u8 (m1.toNat : Int), .int .u8 (m2.toNat : Int), .int .u8 (m3.toNat : Int), .int .u8 (m4.toNat : Int), .int .u8 (m5.toNat : Int)]) ∧ Hid (Kept Nil w wr)) (fun i _ => 48 - (intOf i).toNat)
  case atStart => exact ⟨0, 0, by omega, rfl, by omega, by omega, rfl, fun j hj => absurd hj (by omega), HP.out, HK.out⟩
  case round =>
    clear HP HK
    obtain ⟨k, ki, hk, rfl, hk0, hk48, HKI, HN, HP, HK⟩ := hrel
    have hbi : ∀ w, Calls Tryd.prog 19 #[.int .i64 ki] w fun r w' => r = .returned (mv (maskL k)) ∧ Kept Nil w w' := fun w => by
      have := RBits_at (k : Int) k hk (.inr (.inr rfl)) w
      rw [← HKI.out] at this
      exact this
    obtain ⟨n0, n1, n2, n3, n4, n5, hn⟩ := six (maskL k) rfl
    rw [hn] at hbi
    simp only [mv6] at hbi
    have heq : ∀ w, (Op.equalIn 10000 22 (.agg #[.int .u8 (m0.toNat : Int), .int .u8 (m1.toNat : Int), .int .u8 (m2.toNat : Int), .int .u8 (m3.toNat : Int), .int .u8 (m4.toNat : Int), .int .u8 (m5.toNat : Int)]) (.agg #[.int .u8 (n0.toNat : Int), .int .u8 (n1.toNat : Int), .int .u8 (n2.toNat : Int), .int .u8 (n3.toNat : Int), .int .u8 (n4.toNat : Int), .int .u8 (n5.toNat : Int)])).run Tryd.prog w = .ok ([m0, m1, m2, m3, m4, m5] == [n0, n1, n2, n3, n4, n5]) w := meqR [m0, m1, m2, m3, m4, m5] [n0, n1, n2, n3, n4, n5] rfl rfl
    have HBI := Lib.hid hbi
    have HMN := Lib.hid hn
    clear hbi hn
    by_cases hlt : k < 48
    · have hlti : ki < 48 := by have := HKI.out; omega
      by_cases hq : [m0, m1, m2, m3, m4, m5] = [n0, n1, n2, n3, n4, n5]
      · rw [show ([m0, m1, m2, m3, m4, m5] == [n0, n1, n2, n3, n4, n5]) = true from beq_iff_eq.2 hq] at heq
        have hne48 : (ki == 48) = false := by rw [beq_eq_false_iff_ne]; omega
        have hfin : ptx [a0, a1, a2, a3, a4, a5] [m0, m1, m2, m3, m4, m5] = tt ++ (47 :: Lib.decDigits k) := by
          unfold ptx
          rw [HX.out, ← HTT.out, if_neg (by rw [hq, ← HMN.out]; exact mask_ff ⟨k, by omega⟩ hlt), hq, ← HMN.out, mtx_mask k hk]
        have HF := Lib.hid hfin
        clear hq hfin hlt
        go_upto_region 3 with (fail)
        refine wp_region_quiet_below (by kernel_rfl) (by kernel_rfl) ?_
        have c0 := HP.out.gcell 0
        have c1 := HP.out.gcell 1
        have c2 := HP.out.gcell 2
        have c3 := HP.out.gcell 3
        have c4 := HP.out.gcell 4
        have c5 := HP.out.gcell 5
        have c6 := HP.out.gcell 6
        have c7 := HP.out.gcell 7
        have c8 := HP.out.gcell 8
        have c9 := HP.out.gcell 9
        have c10 := HP.out.gcell 10
        have c11 := HP.out.gcell 11
        simp at c0 c1 c2 c3 c4 c5 c6 c7 c8 c9 c10 c11
        repeat (go_big_quiet_step (first | (with_reducible exact quietK (HBI.out _))))
        refine wpQuiet_nil ?_
        rintro wa ⟨nq, hw⟩
        have hkn : Kept Nil wr wa := by rw [hw]; exact kept_grown _ _
        have HP := Lib.hid (HP.out.kept hkn (fun hf => hf))
        have HK := Lib.hid (HK.out.then hkn)
        clear hw hkn c0 c1 c2 c3 c4 c5 c6 c7 c8 c9 c10 c11
        go_upto_region 5 with (fail)
        refine wp_region_quiet_below (by kernel_rfl) (by kernel_rfl) ?_
        have c0 := HP.out.gcell 0
        have c1 := HP.out.gcell 1
        have c2 := HP.out.gcell 2
        have c3 := HP.out.gcell 3
        have c4 := HP.out.gcell 4
        have c5 := HP.out.gcell 5
        have c6 := HP.out.gcell 6
        have c7 := HP.out.gcell 7
        have c8 := HP.out.gcell 8
        have c9 := HP.out.gcell 9
        have c10 := HP.out.gcell 10
        have c11 := HP.out.gcell 11
        simp at c0 c1 c2 c3 c4 c5 c6 c7 c8 c9 c10 c11
        repeat (go_big_quiet_step (first | (with_reducible exact quietK (HBI.out _))))
        refine wpQuiet_nil ?_
        rintro wb ⟨nq, hw⟩
        have hkn : Kept Nil wa wb := by rw [hw]; exact kept_grown _ _
        have HP := Lib.hid (HP.out.kept hkn (fun hf => hf))
        have HK := Lib.hid (HK.out.then hkn)
        clear hw hkn c0 c1 c2 c3 c4 c5 c6 c7 c8 c9 c10 c11
        by_cases h10 : ki < 10
        · have hd1 := dec1 ⟨k, by have := HKI.out; omega⟩
          simp only at hd1
          have HD := Lib.hid hd1
          obtain ⟨v, hv⟩ : ∃ v : List UInt8, v = [UInt8.ofNat (48 + k)] := ⟨_, rfl⟩
          have hvl : (v.length : Int) ≤ 2 := by rw [hv]; simp
          have hcv := conv_bytes wb v #[.int .u8 (48 + ki)] 1 (by rw [hv]; rfl) (by have h9 := HKI.out; rw [hv]; simp only [bys, List.map_cons, List.map_nil]; rw [UInt8.toNat_ofNat', h9]; congr 3; omega) (by omega)
          have hadd1 : ∀ w, (Op.stringOp .add ⟨tt.toArray⟩ ⟨#[47]⟩).run Tryd.prog w = .ok (.string ⟨(tt ++ [47]).toArray⟩) w := fun w => run_string_add_lists w tt [47] (by omega) (by simp)
          have hadd2 : ∀ w, (Op.stringOp .add ⟨(tt ++ [47]).toArray⟩ ⟨v.toArray⟩).run Tryd.prog w = .ok (.string ⟨((tt ++ [47]) ++ v).toArray⟩) w := fun w => run_string_add_lists w (tt ++ [47]) v (by simp; omega) (by omega)
          have HV := Lib.hid hv
          clear hd1 hv
          go_wp2
          go_ret
          exact ⟨by rw [HF.out, HD.out, ← HV.out, app3]; first | rfl | (rw [ByteArray.mk_append_mk]; rfl), HK.out.alloc _⟩
        · have hd2 := dec2 ⟨k, by omega⟩ (by have := HKI.out; show 10 ≤ k; omega)
          simp only at hd2
          have HD := Lib.hid hd2
          have h10' : (10 : Int) ≤ ki := by omega
          obtain ⟨v, hv⟩ : ∃ v : List UInt8, v = [UInt8.ofNat (48 + k / 10), UInt8.ofNat (48 + k % 10)] := ⟨_, rfl⟩
          have hvl : (v.length : Int) ≤ 2 := by rw [hv]; simp
          have hcv := conv_bytes wb v #[.int .u8 (48 + ki / 10), .int .u8 (48 + ki % 10)] 2 (by rw [hv]; rfl) (by
            have h9 := HKI.out
            rw [hv]
            simp only [bys, List.map_cons, List.map_nil]
            rw [UInt8.toNat_ofNat', UInt8.toNat_ofNat', show (48 + ki / 10 : Int) = (((48 + k / 10) % 2 ^ 8 : Nat) : Int) by omega, show (48 + ki % 10 : Int) = (((48 + k % 10) % 2 ^ 8 : Nat) : Int) by omega]) (by omega)
          have hadd1 : ∀ w, (Op.stringOp .add ⟨tt.toArray⟩ ⟨#[47]⟩).run Tryd.prog w = .ok (.string ⟨(tt ++ [47]).toArray⟩) w := fun w => run_string_add_lists w tt [47] (by omega) (by simp)
          have hadd2 : ∀ w, (Op.stringOp .add ⟨(tt ++ [47]).toArray⟩ ⟨v.toArray⟩).run Tryd.prog w = .ok (.string ⟨((tt ++ [47]) ++ v).toArray⟩) w := fun w => run_string_add_lists w (tt ++ [47]) v (by simp; omega) (by omega)
          have HV := Lib.hid hv
          clear hd2 h10 hv
          go_wp2
          go_ret
          exact ⟨by rw [HF.out, HD.out, ← HV.out, app3]; first | rfl | (rw [ByteArray.mk_append_mk]; rfl), HK.out.alloc _⟩
      · rw [show ([m0, m1, m2, m3, m4, m5] == [n0, n1, n2, n3, n4, n5]) = false from beq_eq_false_iff_ne.2 hq] at heq
        have HN' := Lib.hid (show ∀ j, j < k + 1 → [m0, m1, m2, m3, m4, m5] ≠ maskL j from fun j hj => by
          by_cases hjk : j = k
          · subst hjk; rw [HMN.out]; exact hq
          · exact HN.out j (by omega))
        have HKI' := Lib.hid (show ki + 1 = ((k + 1 : Nat) : Int) by have := HKI.out; omega)
        clear hq
        go_upto_region 3 with (fail)
        refine wp_region_quiet_below (by kernel_rfl) (by kernel_rfl) ?_
        have c0 := HP.out.gcell 0
        have c1 := HP.out.gcell 1
        have c2 := HP.out.gcell 2
        have c3 := HP.out.gcell 3
        have c4 := HP.out.gcell 4
        have c5 := HP.out.gcell 5
        have c6 := HP.out.gcell 6
        have c7 := HP.out.gcell 7
        have c8 := HP.out.gcell 8
        have c9 := HP.out.gcell 9
        have c10 := HP.out.gcell 10
        have c11 := HP.out.gcell 11
        simp at c0 c1 c2 c3 c4 c5 c6 c7 c8 c9 c10 c11
        repeat (go_big_quiet_step (first | (with_reducible exact quietK (HBI.out _))))
        refine wpQuiet_nil ?_
        rintro wa ⟨nq, hw⟩
        have hkn : Kept Nil wr wa := by rw [hw]; exact kept_grown _ _
        have HP := Lib.hid (HP.out.kept hkn (fun hf => hf))
        have HK := Lib.hid (HK.out.then hkn)
        clear hw hkn c0 c1 c2 c3 c4 c5 c6 c7 c8 c9 c10 c11
        go_wp2
        go_roundw
        case rel => exact ⟨k + 1, ki + 1, by omega, rfl, by omega, by omega, HKI'.out, HN'.out, HP.out, HK.out⟩
        case measure => simp [intOf]; omega
    · obtain rfl : k = 48 := by omega
      obtain rfl : ki = 48 := by have := HKI.out; omega
      have hm48 := HMN.out
      rw [mask48] at hm48
      by_cases hq : [m0, m1, m2, m3, m4, m5] = [n0, n1, n2, n3, n4, n5]
      · rw [show ([m0, m1, m2, m3, m4, m5] == [n0, n1, n2, n3, n4, n5]) = true from beq_iff_eq.2 hq] at heq
        have hfin : ptx [a0, a1, a2, a3, a4, a5] [m0, m1, m2, m3, m4, m5] = tt := by
          unfold ptx
          rw [if_pos (hq.trans hm48.symm), HX.out, ← HTT.out]
          simp
        have HF := Lib.hid hfin
        clear hq hfin hm48 hlt
        go_upto_region 3 with (fail)
        refine wp_region_quiet_below (by kernel_rfl) (by kernel_rfl) ?_
        have c0 := HP.out.gcell 0
        have c1 := HP.out.gcell 1
        have c2 := HP.out.gcell 2
        have c3 := HP.out.gcell 3
        have c4 := HP.out.gcell 4
        have c5 := HP.out.gcell 5
        have c6 := HP.out.gcell 6
        have c7 := HP.out.gcell 7
        have c8 := HP.out.gcell 8
        have c9 := HP.out.gcell 9
        have c10 := HP.out.gcell 10
        have c11 := HP.out.gcell 11
        simp at c0 c1 c2 c3 c4 c5 c6 c7 c8 c9 c10 c11
        repeat (go_big_quiet_step (first | (with_reducible exact quietK (HBI.out _))))
        refine wpQuiet_nil ?_
        rintro wa ⟨nq, hw⟩
        have hkn : Kept Nil wr wa := by rw [hw]; exact kept_grown _ _
        have HP := Lib.hid (HP.out.kept hkn (fun hf => hf))
        have HK := Lib.hid (HK.out.then hkn)
        clear hw hkn c0 c1 c2 c3 c4 c5 c6 c7 c8 c9 c10 c11
        go_upto_region 5 with (fail)
        refine wp_region_quiet_below (by kernel_rfl) (by kernel_rfl) ?_
        have c0 := HP.out.gcell 0
        have c1 := HP.out.gcell 1
        have c2 := HP.out.gcell 2
        have c3 := HP.out.gcell 3
        have c4 := HP.out.gcell 4
        have c5 := HP.out.gcell 5
        have c6 := HP.out.gcell 6
        have c7 := HP.out.gcell 7
        have c8 := HP.out.gcell 8
        have c9 := HP.out.gcell 9
        have c10 := HP.out.gcell 10
        have c11 := HP.out.gcell 11
        simp at c0 c1 c2 c3 c4 c5 c6 c7 c8 c9 c10 c11
        repeat (go_big_quiet_step (first | (with_reducible exact quietK (HBI.out _))))
        refine wpQuiet_nil ?_
        rintro wb ⟨nq, hw⟩
        have hkn : Kept Nil wa wb := by rw [hw]; exact kept_grown _ _
        have HP := Lib.hid (HP.out.kept hkn (fun hf => hf))
        have HK := Lib.hid (HK.out.then hkn)
        clear hw hkn c0 c1 c2 c3 c4 c5 c6 c7 c8 c9 c10 c11
        go_wp2
        go_ret
        exact ⟨by rw [HF.out]; rfl, HK.out⟩
      · rw [show ([m0, m1, m2, m3, m4, m5] == [n0, n1, n2, n3, n4, n5]) = false from beq_eq_false_iff_ne.2 hq] at heq
        have hne : [m0, m1, m2, m3, m4, m5] ≠ [255, 255, 255, 255, 255, 255] := fun h => hq (h.trans hm48)
        have hno : ∀ j, j ≤ 48 → [m0, m1, m2, m3, m4, m5] ≠ maskL j := fun j hj => by
          by_cases hj48 : j = 48
          · subst hj48; rw [mask48]; exact hne
          · exact HN.out j (by omega)
        have hfin : ptx [a0, a1, a2, a3, a4, a5] [m0, m1, m2, m3, m4, m5] = tt ++ (47 :: textL [m0, m1, m2, m3, m4, m5]) := by
          unfold ptx
          rw [if_neg hne, mtx_not _ hno, HX.out, ← HTT.out]
        have HF := Lib.hid hfin
        obtain ⟨mm, hmm⟩ : ∃ mm, mm = textL [m0, m1, m2, m3, m4, m5] := ⟨_, rfl⟩
        rw [← hmm] at hl2
        have HMM := Lib.hid hmm
        have hadd1 : ∀ w, (Op.stringOp .add ⟨tt.toArray⟩ ⟨#[47]⟩).run Tryd.prog w = .ok (.string ⟨(tt ++ [47]).toArray⟩) w := fun w => run_string_add_lists w tt [47] (by omega) (by simp)
        have hadd2 : ∀ w, (Op.stringOp .add ⟨(tt ++ [47]).toArray⟩ ⟨mm.toArray⟩).run Tryd.prog w = .ok (.string ⟨((tt ++ [47]) ++ mm).toArray⟩) w := fun w => run_string_add_lists w (tt ++ [47]) mm (by simp; omega) (by omega)
        clear hq hne hno hfin hm48 hlt hmm
        go_upto_region 3 with (fail)
        refine wp_region_quiet_below (by kernel_rfl) (by kernel_rfl) ?_
        have c0 := HP.out.gcell 0
        have c1 := HP.out.gcell 1
        have c2 := HP.out.gcell 2
        have c3 := HP.out.gcell 3
        have c4 := HP.out.gcell 4
        have c5 := HP.out.gcell 5
        have c6 := HP.out.gcell 6
        have c7 := HP.out.gcell 7
        have c8 := HP.out.gcell 8
        have c9 := HP.out.gcell 9
        have c10 := HP.out.gcell 10
        have c11 := HP.out.gcell 11
        simp at c0 c1 c2 c3 c4 c5 c6 c7 c8 c9 c10 c11
        repeat (go_big_quiet_step (first | (with_reducible exact quietK (HBI.out _))))
        refine wpQuiet_nil ?_
        rintro wa ⟨nq, hw⟩
        have hkn : Kept Nil wr wa := by rw [hw]; exact kept_grown _ _
        have HP := Lib.hid (HP.out.kept hkn (fun hf => hf))
        have HK := Lib.hid (HK.out.then hkn)
        clear hw hkn c0 c1 c2 c3 c4 c5 c6 c7 c8 c9 c10 c11
        go_upto_region 5 with (fail)
        refine wp_region_quiet_below (by kernel_rfl) (by kernel_rfl) ?_
        have c0 := HP.out.gcell 0
        have c1 := HP.out.gcell 1
        have c2 := HP.out.gcell 2
        have c3 := HP.out.gcell 3
        have c4 := HP.out.gcell 4
        have c5 := HP.out.gcell 5
        have c6 := HP.out.gcell 6
        have c7 := HP.out.gcell 7
        have c8 := HP.out.gcell 8
        have c9 := HP.out.gcell 9
        have c10 := HP.out.gcell 10
        have c11 := HP.out.gcell 11
        simp at c0 c1 c2 c3 c4 c5 c6 c7 c8 c9 c10 c11
        repeat (go_big_quiet_step (first | (with_reducible exact quietK (HBI.out _))))
        refine wpQuiet_nil ?_
        rintro wb ⟨nq, hw⟩
        have hkn : Kept Nil wa wb := by rw [hw]; exact kept_grown _ _
        have HP := Lib.hid (HP.out.kept hkn (fun hf => hf))
        have HK := Lib.hid (HK.out.then hkn)
        clear hw hkn c0 c1 c2 c3 c4 c5 c6 c7 c8 c9 c10 c11
        have c0 := HP.out.cell 0
        have c1 := HP.out.cell 1
        have c2 := HP.out.cell 2
        have c3 := HP.out.cell 3
        have c4 := HP.out.cell 4
        have c5 := HP.out.cell 5
        have c6 := HP.out.cell 6
        have c7 := HP.out.cell 7
        have c8 := HP.out.cell 8
        have c9 := HP.out.cell 9
        have c10 := HP.out.cell 10
        have c11 := HP.out.cell 11
        simp at c0 c1 c2 c3 c4 c5 c6 c7 c8 c9 c10 c11
        go_wp2_with fail
        refine (HTM.out _).mono ?_
        rintro r wd ⟨rfl, hkd⟩
        have HK := Lib.hid (HK.out.then hkd)
        clear hkd
        rw [← HMM.out]
        go_wp2
        go_ret
        exact ⟨by rw [HF.out, ← HMM.out, app3]; first | rfl | (rw [ByteArray.mk_append_mk]; rfl), HK.out⟩
end Go.Proofs.YtjfffddaiefggabDoor
