/- Contracts of mac.leadingOnes, maskText, Pattern.Text, of any mask. -/
import Derived.Test.YtifoepglhlpoiaaDoorMacC
import Derived.Test.YtifoepglhlpoiaaDoorMacB
import Derived.Test.YtifoepglhlpoiaaDoorShelf
import Derived.Test.YtifoepglhlpoiaaDoorQb
import Derived.Deep.DeepCutAuto
namespace Go.Proofs.YtifoepglhlpoiaaDoor
open Go.RowKit Go.Sort Go.BigFrame
set_option linter.unusedVariables false

/-- What leadingOnes counts. -/
def loI (l : List UInt8) : Int := 64 - (Lib.bitLen (18446744073709551615 - numL l * 65536) : Int)
theorem lo_mask : ∀ n : Fin 49, loI (maskL n.val) = (n.val : Int) := by decide +kernel
theorem flip64 (m : Nat) (hm : m < 18446744073709551616) : bits .xor .u64 IntKind.u64.max (m : Int) = ((18446744073709551615 - m : Nat) : Int) := by
  have hmax : IntKind.u64.max = ((18446744073709551615 : Nat) : Int) := by decide
  rw [hmax, u64_xor_nat _ _ (by omega) hm]
  congr 1
  apply Nat.eq_of_testBit_eq
  intro j
  have h1 := Nat.testBit_two_pow_sub_succ (x := m) (n := 64) hm j
  have h2 := Nat.testBit_two_pow_sub_succ (x := 0) (n := 64) (by omega) j
  rw [show 18446744073709551615 - m = 2 ^ 64 - (m + 1) by omega, h1, Nat.testBit_xor, show 18446744073709551615 = 2 ^ 64 - (0 + 1) by omega, h2]
  by_cases hj : j < 64
  · simp [hj]
  · have : m.testBit j = false := Nat.testBit_lt_two_pow (Nat.lt_of_lt_of_le (show m < 2 ^ 64 by omega) (Nat.pow_le_pow_right (n := 2) (by decide) (Nat.not_lt.1 hj)))
    simp [hj, this]
set_option maxHeartbeats 2000000 in
theorem lo_any (a b c d e f : UInt8) (w : World) : Calls Tryd.prog 48 #[.agg #[.int .u8 (a.toNat : Int), .int .u8 (b.toNat : Int), .int .u8 (c.toNat : Int), .int .u8 (d.toNat : Int), .int .u8 (e.toNat : Int), .int .u8 (f.toNat : Int)]] w fun r w' => r = .returned (.int .i64 (loI [a, b, c, d, e, f])) ∧ Kept Nil w w' := by
  have hnum : ∀ w, Calls Tryd.prog 11 #[.agg #[.int .u8 (a.toNat : Int), .int .u8 (b.toNat : Int), .int .u8 (c.toNat : Int), .int .u8 (d.toNat : Int), .int .u8 (e.toNat : Int), .int .u8 (f.toNat : Int)]] w fun e' w' => e' = .returned (.int .u64 (numL [a, b, c, d, e, f] : Int)) ∧ Kept Nil w w' := fun w => (Number_yes a b c d e f w).mono fun e w' ⟨h1, h2⟩ => ⟨h1, by rw [h2]; exact (Kept.refl Nil w).alloc _⟩
  have hlt := numL_lt [a, b, c, d, e, f]
  simp only [List.length_cons, List.length_nil, Nat.reduceAdd, Nat.reducePow] at hlt
  unfold loI
  generalize numL [a, b, c, d, e, f] = n at hnum hlt
  have HN := Lib.hid hnum
  have hsg : IntKind.u64.signed = false := rfl
  have hfl := flip64 (n * 65536) (by omega)
  have hfl2 : bits .xor .u64 IntKind.u64.max ((n : Int) * 65536) = ((18446744073709551615 - n * 65536 : Nat) : Int) := by
    rw [← hfl]; congr 1
  have hlz := fun w => Tryd.bits_LeadingZeros64 (bits .xor .u64 IntKind.u64.max ((n : Int) * 65536)) w (by rw [hfl2]; omega) (by rw [hfl2]; omega)
  simp only [hfl2, Int.toNat_natCast] at hlz
  have hlz3 : ∀ w, Calls Tryd.prog 60 #[.int .u64 (bits .xor .u64 IntKind.u64.max ((n : Int) * 65536))] w fun e w' => e = .returned (.int .i64 (64 - (Lib.bitLen (18446744073709551615 - n * 65536) : Int))) ∧ w' = w := by rw [hfl2]; exact hlz
  have HLZ := Lib.hid hlz3
  clear hnum hfl hfl2 hlz hlz3
  go_enter Tryd.func48, Tryd.ntmps48
  go_wp2_with fail
  refine (HN.out _).mono ?_
  rintro e' w1 ⟨rfl, hk1⟩
  have HK1 := Lib.hid (((Kept.refl Nil w).alloc _).then hk1)
  clear hk1
  go_wp2_with fail
  refine (HLZ.out _).mono ?_
  rintro e' w2 ⟨rfl, rfl⟩
  go_wp2
  go_ret
  exact ⟨rfl, HK1.out⟩

/-- A mask's text. -/
def mtx (l : List UInt8) : List UInt8 := if 0 ≤ loI l ∧ loI l ≤ 48 ∧ l = maskL (loI l).toNat then Lib.decDigits (loI l).toNat else textL l
theorem lo_le (l : List UInt8) : loI l ≤ 64 := by unfold loI; omega
set_option maxHeartbeats 4000000 in
set_option maxRecDepth 100000 in
theorem mtext_any (a b c d e f : UInt8) (w : World) : Calls Tryd.prog 36 #[.agg #[.int .u8 (a.toNat : Int), .int .u8 (b.toNat : Int), .int .u8 (c.toNat : Int), .int .u8 (d.toNat : Int), .int .u8 (e.toNat : Int), .int .u8 (f.toNat : Int)]] w fun r w' => r = .returned (.string ⟨(mtx [a, b, c, d, e, f]).toArray⟩) ∧ Kept Nil w w' := by
  obtain ⟨k, hk48, hk⟩ : ∃ k : Nat, k ≤ 48 ∧ ((loI [a, b, c, d, e, f] < 0 ∧ k = 0) ∨ (48 < loI [a, b, c, d, e, f] ∧ k = 48) ∨ loI [a, b, c, d, e, f] = (k : Int)) := by
    rcases Int.lt_or_le (loI [a, b, c, d, e, f]) 0 with h | h
    · exact ⟨0, by omega, .inl ⟨h, rfl⟩⟩
    · rcases Int.lt_or_le 48 (loI [a, b, c, d, e, f]) with h2 | h2
      · exact ⟨48, by omega, .inr (.inl ⟨h2, rfl⟩)⟩
      · exact ⟨(loI [a, b, c, d, e, f]).toNat, by omega, .inr (.inr (by omega))⟩
  have hlo := lo_any a b c d e f
  have hbi := fun w => Bits_at (loI [a, b, c, d, e, f]) k hk48 hk w
  have htx : ∀ w, Calls Tryd.prog 9 #[.agg #[.int .u8 (a.toNat : Int), .int .u8 (b.toNat : Int), .int .u8 (c.toNat : Int), .int .u8 (d.toNat : Int), .int .u8 (e.toNat : Int), .int .u8 (f.toNat : Int)]] w fun r w' => r = .returned (.string ⟨(textL [a, b, c, d, e, f]).toArray⟩) ∧ Kept Nil w w' := Text_yes a b c d e f
  have hyes : [a, b, c, d, e, f] = maskL k → loI [a, b, c, d, e, f] = (k : Int) ∧ mtx [a, b, c, d, e, f] = Lib.decDigits k := fun h => by
    have h1 : loI [a, b, c, d, e, f] = (k : Int) := by
      have := lo_mask ⟨k, by omega⟩
      simp only at this
      rw [← h] at this
      exact this
    refine ⟨h1, ?_⟩
    unfold mtx
    rw [h1, Int.toNat_natCast, if_pos ⟨by omega, by omega, h⟩]
  have hno : [a, b, c, d, e, f] ≠ maskL k → mtx [a, b, c, d, e, f] = textL [a, b, c, d, e, f] := fun h => by
    unfold mtx
    rw [if_neg]
    rintro ⟨h1, h2, h3⟩
    have : (loI [a, b, c, d, e, f]).toNat = k := by omega
    rw [this] at h3
    exact h h3
  have hlo64 := lo_le [a, b, c, d, e, f]
  obtain ⟨m0, m1, m2, m3, m4, m5, hm⟩ := six (maskL k) rfl
  rw [hm] at hbi hyes hno
  have heq : ∀ w, (Op.equalIn 10000 24 (.agg #[.int .u8 (a.toNat : Int), .int .u8 (b.toNat : Int), .int .u8 (c.toNat : Int), .int .u8 (d.toNat : Int), .int .u8 (e.toNat : Int), .int .u8 (f.toNat : Int)]) (.agg #[.int .u8 (m0.toNat : Int), .int .u8 (m1.toNat : Int), .int .u8 (m2.toNat : Int), .int .u8 (m3.toNat : Int), .int .u8 (m4.toNat : Int), .int .u8 (m5.toNat : Int)])).run Tryd.prog w = .ok ([a, b, c, d, e, f] == [m0, m1, m2, m3, m4, m5]) w := meq [a, b, c, d, e, f] [m0, m1, m2, m3, m4, m5] rfl rfl
  simp only [mv6] at hbi
  generalize hmt : mtx [a, b, c, d, e, f] = mt at hyes hno
  generalize htt : textL [a, b, c, d, e, f] = tt at htx hno
  generalize hll : loI [a, b, c, d, e, f] = lo at hlo hbi hyes hlo64
  have hb : ([a, b, c, d, e, f] == [m0, m1, m2, m3, m4, m5]) = true ∨ ([a, b, c, d, e, f] == [m0, m1, m2, m3, m4, m5]) = false := by cases ([a, b, c, d, e, f] == [m0, m1, m2, m3, m4, m5]) <;> simp
  have HBW := Lib.hid (Blo.new w 24 #[.int .u8 (a.toNat : Int), .int .u8 (b.toNat : Int), .int .u8 (c.toNat : Int), .int .u8 (d.toNat : Int), .int .u8 (e.toNat : Int), .int .u8 (f.toNat : Int)])
  have HLO := Lib.hid hlo
  have HBI := Lib.hid hbi
  have HTX := Lib.hid htx
  have HYES := Lib.hid hyes
  have HNO := Lib.hid hno
  clear hlo hbi htx hyes hno hm hmt htt hll hk
  rcases hb with hb | hb
  all_goals
    rw [hb] at heq
    have HB := Lib.hid hb
    clear hb
    go_enter Tryd.func36, Tryd.ntmps36
    go_wp2_with fail
    refine (HLO.out _).mono ?_
    rintro r w1 ⟨rfl, hk1⟩
    have HB1 := Lib.hid (HBW.out.kept hk1 (fun hf => hf))
    have HK1 := Lib.hid (((Kept.refl Nil w).alloc _).then hk1)
    clear hk1
    go_upto_region 2 with (fail)
    refine wp_region_quiet_below (by kernel_rfl) (by kernel_rfl) ?_
    have c0 := HB1.out.gcell 0
    have c1 := HB1.out.gcell 1
    have c2 := HB1.out.gcell 2
    have c3 := HB1.out.gcell 3
    have c4 := HB1.out.gcell 4
    have c5 := HB1.out.gcell 5
    simp at c0 c1 c2 c3 c4 c5
    repeat (go_big_quiet_step (first | (with_reducible exact quietK (HBI.out _))))
    refine wpQuiet_nil ?_
    rintro w2 ⟨nq, hw⟩
    have hkn : Kept Nil w1 w2 := by rw [hw]; exact kept_grown _ _
    have HB2 := Lib.hid (HB1.out.kept hkn (fun hf => hf))
    have HK2 := Lib.hid (HK1.out.then hkn)
    clear hw hkn c0 c1 c2 c3 c4 c5
  · obtain ⟨hl, hmm⟩ := HYES.out (beq_iff_eq.1 HB.out)
    have HMM := Lib.hid hmm
    obtain rfl := hl
    have HIT := Lib.hid (Tryd.strconv_Itoa_small k (by omega))
    clear hmm
    go_wp2_with fail
    refine (HIT.out _).mono ?_
    rintro r w3 ⟨rfl, rfl⟩
    go_wp2
    go_ret
    exact ⟨by rw [HMM.out]; rfl, HK2.out⟩
  · have hmm := HNO.out (by have h := HB.out; intro h2; rw [h2] at h; simp at h)
    have HMM := Lib.hid hmm
    clear hmm
    have c0 := HB2.out.cell 0
    have c1 := HB2.out.cell 1
    have c2 := HB2.out.cell 2
    have c3 := HB2.out.cell 3
    have c4 := HB2.out.cell 4
    have c5 := HB2.out.cell 5
    simp at c0 c1 c2 c3 c4 c5
    go_wp2_with fail
    refine (HTX.out _).mono ?_
    rintro r w3 ⟨rfl, hk3⟩
    have HK3 := Lib.hid (HK2.out.then hk3)
    clear hk3
    go_wp2
    go_ret
    exact ⟨by rw [HMM.out]; rfl, HK3.out⟩
/-- A pattern's text. -/
def ptx (l m : List UInt8) : List UInt8 := textL (andL l m) ++ (if m = [255, 255, 255, 255, 255, 255] then [] else 47 :: mtx m)
theorem textL_len (x0 x1 x2 x3 x4 x5 : UInt8) : (textL [x0, x1, x2, x3, x4, x5]).length = 17 := rfl
theorem dec_len : ∀ k : Fin 49, (Lib.decDigits k.val).length ≤ 2 := by decide +kernel
theorem mtx_len (x0 x1 x2 x3 x4 x5 : UInt8) : (mtx [x0, x1, x2, x3, x4, x5]).length ≤ 17 := by
  unfold mtx
  split
  · rename_i h
    have := dec_len ⟨(loI [x0, x1, x2, x3, x4, x5]).toNat, by omega⟩
    simp only at this
    omega
  · rw [textL_len]; omega
set_option maxHeartbeats 4000000 in
set_option maxRecDepth 100000 in
theorem PText_any (a0 a1 a2 a3 a4 a5 m0 m1 m2 m3 m4 m5 : UInt8) (w : World) : Calls Tryd.prog 22 #[.agg #[.int .u8 (a0.toNat : Int), .int .u8 (a1.toNat : Int), .int .u8 (a2.toNat : Int), .int .u8 (a3.toNat : Int), .int .u8 (a4.toNat : Int), .int .u8 (a5.toNat : Int), .int .u8 (m0.toNat : Int), .int .u8 (m1.toNat : Int), .int .u8 (m2.toNat : Int), .int .u8 (m3.toNat : Int), .int .u8 (m4.toNat : Int), .int .u8 (m5.toNat : Int)]] w fun r w' => r = .returned (.string ⟨(ptx [a0, a1, a2, a3, a4, a5] [m0, m1, m2, m3, m4, m5]).toArray⟩) ∧ Kept Nil w w' := by
  have hbi : ∀ w, Calls Tryd.prog 18 #[.int .i64 48] w fun r w' => r = .returned (.agg #[.int .u8 255, .int .u8 255, .int .u8 255, .int .u8 255, .int .u8 255, .int .u8 255]) ∧ Kept Nil w w' := fun w => by
    have := Bits_at 48 48 (by omega) (.inr (.inr rfl)) w
    rw [mask48] at this
    exact this
  have hma : ∀ w, Calls Tryd.prog 20 #[.agg #[.int .u8 (a0.toNat : Int), .int .u8 (a1.toNat : Int), .int .u8 (a2.toNat : Int), .int .u8 (a3.toNat : Int), .int .u8 (a4.toNat : Int), .int .u8 (a5.toNat : Int)], .agg #[.int .u8 (m0.toNat : Int), .int .u8 (m1.toNat : Int), .int .u8 (m2.toNat : Int), .int .u8 (m3.toNat : Int), .int .u8 (m4.toNat : Int), .int .u8 (m5.toNat : Int)]] w fun r w' => r = .returned (mv (andL [a0, a1, a2, a3, a4, a5] [m0, m1, m2, m3, m4, m5])) ∧ Kept Nil w w' := Masked_yes a0 a1 a2 a3 a4 a5 m0 m1 m2 m3 m4 m5
  obtain ⟨x0, x1, x2, x3, x4, x5, hx⟩ := six (andL [a0, a1, a2, a3, a4, a5] [m0, m1, m2, m3, m4, m5]) rfl
  have htx : ∀ w, Calls Tryd.prog 9 #[.agg #[.int .u8 (x0.toNat : Int), .int .u8 (x1.toNat : Int), .int .u8 (x2.toNat : Int), .int .u8 (x3.toNat : Int), .int .u8 (x4.toNat : Int), .int .u8 (x5.toNat : Int)]] w fun r w' => r = .returned (.string ⟨(textL [x0, x1, x2, x3, x4, x5]).toArray⟩) ∧ Kept Nil w w' := Text_yes x0 x1 x2 x3 x4 x5
  have hmt := mtext_any m0 m1 m2 m3 m4 m5
  have hyes : [m0, m1, m2, m3, m4, m5] = [255, 255, 255, 255, 255, 255] → ptx [a0, a1, a2, a3, a4, a5] [m0, m1, m2, m3, m4, m5] = textL [x0, x1, x2, x3, x4, x5] := fun h => by
    unfold ptx; rw [if_pos h, hx]; simp
  have hno : [m0, m1, m2, m3, m4, m5] ≠ [255, 255, 255, 255, 255, 255] → ptx [a0, a1, a2, a3, a4, a5] [m0, m1, m2, m3, m4, m5] = textL [x0, x1, x2, x3, x4, x5] ++ (47 :: mtx [m0, m1, m2, m3, m4, m5]) := fun h => by
    unfold ptx; rw [if_neg h, hx]
  rw [hx] at hma
  simp only [mv6] at hma
  have heq : ∀ w, (Op.equalIn 10000 24 (.agg #[.int .u8 (m0.toNat : Int), .int .u8 (m1.toNat : Int), .int .u8 (m2.toNat : Int), .int .u8 (m3.toNat : Int), .int .u8 (m4.toNat : Int), .int .u8 (m5.toNat : Int)]) (.agg #[.int .u8 255, .int .u8 255, .int .u8 255, .int .u8 255, .int .u8 255, .int .u8 255])).run Tryd.prog w = .ok ([m0, m1, m2, m3, m4, m5] == [255, 255, 255, 255, 255, 255]) w := meq [m0, m1, m2, m3, m4, m5] [255, 255, 255, 255, 255, 255] rfl rfl
  have hl1 := textL_len x0 x1 x2 x3 x4 x5
  have hl2 := mtx_len m0 m1 m2 m3 m4 m5
  generalize hpt : ptx [a0, a1, a2, a3, a4, a5] [m0, m1, m2, m3, m4, m5] = pt at hyes hno
  generalize htt : textL [x0, x1, x2, x3, x4, x5] = tt at htx hyes hno hl1
  generalize hmm : mtx [m0, m1, m2, m3, m4, m5] = mm at hmt hno hl2
  have hadd1 : ∀ w, (Op.stringOp .add ⟨tt.toArray⟩ ⟨#[47]⟩).run Tryd.prog w = .ok (.string ⟨(tt ++ [47]).toArray⟩) w := fun w => run_string_add_lists w tt [47] (by omega) (by simp)
  have hadd2 : ∀ w, (Op.stringOp .add ⟨(tt ++ [47]).toArray⟩ ⟨mm.toArray⟩).run Tryd.prog w = .ok (.string ⟨((tt ++ [47]) ++ mm).toArray⟩) w := fun w => run_string_add_lists w (tt ++ [47]) mm (by simp; omega) (by omega)
  have hb : ([m0, m1, m2, m3, m4, m5] == [255, 255, 255, 255, 255, 255]) = true ∨ ([m0, m1, m2, m3, m4, m5] == [255, 255, 255, 255, 255, 255]) = false := by cases ([m0, m1, m2, m3, m4, m5] == [255, 255, 255, 255, 255, 255]) <;> simp
  have HBW := Lib.hid (Blo.new w 26 #[.int .u8 (a0.toNat : Int), .int .u8 (a1.toNat : Int), .int .u8 (a2.toNat : Int), .int .u8 (a3.toNat : Int), .int .u8 (a4.toNat : Int), .int .u8 (a5.toNat : Int), .int .u8 (m0.toNat : Int), .int .u8 (m1.toNat : Int), .int .u8 (m2.toNat : Int), .int .u8 (m3.toNat : Int), .int .u8 (m4.toNat : Int), .int .u8 (m5.toNat : Int)])
  have HMA := Lib.hid hma
  have HBI := Lib.hid hbi
  have HTX := Lib.hid htx
  have HMT := Lib.hid hmt
  have HYES := Lib.hid hyes
  have HNO := Lib.hid hno
  clear hma hbi htx hyes hno hmt hx hpt htt hmm
  rcases hb with hb | hb
  all_goals
    rw [hb] at heq
    have HB := Lib.hid hb
    clear hb
    go_enter Tryd.func22, Tryd.ntmps22
    go_wp2_with fail
    refine (HMA.out _).mono ?_
    rintro r w1 ⟨rfl, hk1⟩
    have HB1 := Lib.hid (HBW.out.kept hk1 (fun hf => hf))
    have HK1 := Lib.hid (((Kept.refl Nil w).alloc _).then hk1)
    clear hk1
    go_wp2_with fail
    refine (HTX.out _).mono ?_
    rintro r w2 ⟨rfl, hk2⟩
    have HB2 := Lib.hid (HB1.out.kept hk2 (fun hf => hf))
    have HK2 := Lib.hid (HK1.out.then hk2)
    clear hk2
    go_upto_region 2 with (fail)
    refine wp_region_quiet_below (by kernel_rfl) (by kernel_rfl) ?_
    have c0 := HB2.out.gcell 0
    have c1 := HB2.out.gcell 1
    have c2 := HB2.out.gcell 2
    have c3 := HB2.out.gcell 3
    have c4 := HB2.out.gcell 4
    have c5 := HB2.out.gcell 5
    have c6 := HB2.out.gcell 6
    have c7 := HB2.out.gcell 7
    have c8 := HB2.out.gcell 8
    have c9 := HB2.out.gcell 9
    have c10 := HB2.out.gcell 10
    have c11 := HB2.out.gcell 11
    simp at c0 c1 c2 c3 c4 c5 c6 c7 c8 c9 c10 c11
    repeat (go_big_quiet_step (first | (with_reducible exact quietK (HBI.out _))))
    refine wpQuiet_nil ?_
    rintro w3 ⟨nq, hw⟩
    have hkn : Kept Nil w2 w3 := by rw [hw]; exact kept_grown _ _
    have HB3 := Lib.hid (HB2.out.kept hkn (fun hf => hf))
    have HK3 := Lib.hid (HK2.out.then hkn)
    clear hw hkn c0 c1 c2 c3 c4 c5 c6 c7 c8 c9 c10 c11
  · have hmm := HYES.out (beq_iff_eq.1 HB.out)
    have HMM := Lib.hid hmm
    clear hmm
    go_wp2
    go_ret
    exact ⟨by rw [HMM.out]; rfl, HK3.out⟩
  · have hmm := HNO.out (by have h := HB.out; intro h2; rw [h2] at h; simp at h)
    have HMM := Lib.hid hmm
    clear hmm
    have c0 := HB3.out.cell 0
    have c1 := HB3.out.cell 1
    have c2 := HB3.out.cell 2
    have c3 := HB3.out.cell 3
    have c4 := HB3.out.cell 4
    have c5 := HB3.out.cell 5
    have c6 := HB3.out.cell 6
    have c7 := HB3.out.cell 7
    have c8 := HB3.out.cell 8
    have c9 := HB3.out.cell 9
    have c10 := HB3.out.cell 10
    have c11 := HB3.out.cell 11
    simp at c0 c1 c2 c3 c4 c5 c6 c7 c8 c9 c10 c11
    go_wp2_with fail
    refine (HMT.out _).mono ?_
    rintro r w4 ⟨rfl, hk4⟩
    have HK4 := Lib.hid (HK3.out.then hk4)
    clear hk4
    go_wp2
    go_ret
    exact ⟨by rw [HMM.out]; simp, HK4.out⟩
end Go.Proofs.YtifoepglhlpoiaaDoor
