/- tolllaw04: tells. -/
import Derived.Test.YtjdaaelkaeokeaaEthK
namespace Go.Proofs.Ytjdaaelkaeokeaa
open Go.RowKit Go.Sort
set_option linter.unusedVariables false

def exA : ByteArray := ⟨#[129, 0, 0, 5, 8, 0, 255]⟩
def exB : ByteArray := ⟨#[0, 8, 170, 170, 3, 0, 0, 0, 8, 6, 238]⟩
def exC : ByteArray := ⟨#[0, 3, 66, 66, 3]⟩
def frA : Fr := ⟨[2, 0, 0, 0, 0, 1], [2, 0, 0, 0, 0, 2], [⟨33024, 0, false, 5⟩], 1, 2048, z3, z3, [255], []⟩
def frB : Fr := ⟨[2, 0, 0, 0, 0, 1], [2, 0, 0, 0, 0, 2], [], 3, 2054, snapL, z3, [], [238]⟩
def frC : Fr := ⟨[2, 0, 0, 0, 0, 1], [2, 0, 0, 0, 0, 2], [], 2, 0, [66, 66, 3], z3, [], []⟩
theorem get_exA : (getM (headB ++ exA.data.toList)).1 = frA := by kernel_rfl
theorem get_exB : (getM (headB ++ exB.data.toList)).1 = frB := by kernel_rfl
theorem get_exC : (getM (headB ++ exC.data.toList)).1 = frC := by kernel_rfl
set_option maxRecDepth 100000 in
set_option maxHeartbeats 4000000 in
theorem tells_yes (w : World) : Calls Try.prog 15 #[] w fun e w' => e = .returned (.bool true) ∧ Kept Nil w w' := by
  have ca : ∀ u, Calls Try.prog _ _ u _ := fun u => tget_yes exA (by decide) u
  have cb : ∀ u, Calls Try.prog _ _ u _ := fun u => tget_yes exB (by decide) u
  have cc : ∀ u, Calls Try.prog _ _ u _ := fun u => tget_yes exC (by decide) u
  rw [get_exA] at ca
  rw [get_exB] at cb
  rw [get_exC] at cc
  have CA := Lib.hid ca
  have CB := Lib.hid cb
  have CC := Lib.hid cc
  clear ca cb cc
  go_enter Try.func15, Try.ntmps15
  go_wp2_with fail
  refine (CA.out _).mono ?_
  rintro e w1 ⟨ta, ba, ra, rfl, ha, hk⟩
  have HA1 := Lib.hid ha
  have HK1 := Lib.hid hk
  clear ha hk
  go_wp2_with fail
  refine (CB.out _).mono ?_
  rintro e w2 ⟨tb, bb, rb, rfl, hb, hk⟩
  have HA2 := Lib.hid (HA1.out.kept hk)
  have HB2 := Lib.hid hb
  have HK2 := Lib.hid (HK1.out.then hk)
  clear hb hk
  go_wp2_with fail
  refine (CC.out _).mono ?_
  rintro e w3 ⟨tc, bc, rc, rfl, hc, hk⟩
  have HA3 := Lib.hid (HA2.out.kept hk)
  have HB3 := Lib.hid (HB2.out.kept hk)
  have HC3 := Lib.hid hc
  have HK3 := Lib.hid (HK2.out.then hk)
  clear hc hk
  have hs : (((w3.alloc (.cells (fcs Fr.zero nilv nilv nilv).toArray 28)).alloc (.cells (fcs Fr.zero nilv nilv nilv).toArray 28)).alloc (.cells (fcs Fr.zero nilv nilv nilv).toArray 28)).heap.size = w3.heap.size + 1 + 1 + 1 := by simp
  have f2 := ((FB.new w3 28 Fr.zero nilv nilv nilv).alloc (.cells (fcs Fr.zero nilv nilv nilv).toArray 28)).alloc (.cells (fcs Fr.zero nilv nilv nilv).toArray 28)
  have f3 : FB (((w3.alloc (.cells (fcs Fr.zero nilv nilv nilv).toArray 28)).alloc (.cells (fcs Fr.zero nilv nilv nilv).toArray 28)).alloc (.cells (fcs Fr.zero nilv nilv nilv).toArray 28)) (w3.heap.size + 1) 28 Fr.zero nilv nilv nilv := by
    have := (FB.new (w3.alloc (.cells (fcs Fr.zero nilv nilv nilv).toArray 28)) 28 Fr.zero nilv nilv nilv).alloc (.cells (fcs Fr.zero nilv nilv nilv).toArray 28)
    rwa [World.size_alloc] at this
  have f4 : FB (((w3.alloc (.cells (fcs Fr.zero nilv nilv nilv).toArray 28)).alloc (.cells (fcs Fr.zero nilv nilv nilv).toArray 28)).alloc (.cells (fcs Fr.zero nilv nilv nilv).toArray 28)) (w3.heap.size + 1 + 1) 28 Fr.zero nilv nilv nilv := by
    have := FB.new ((w3.alloc (.cells (fcs Fr.zero nilv nilv nilv).toArray 28)).alloc (.cells (fcs Fr.zero nilv nilv nilv).toArray 28)) 28 Fr.zero nilv nilv nilv
    rwa [World.size_alloc, World.size_alloc] at this
  have hk0 : Kept Nil w3 (((w3.alloc (.cells (fcs Fr.zero nilv nilv nilv).toArray 28)).alloc (.cells (fcs Fr.zero nilv nilv nilv).toArray 28)).alloc (.cells (fcs Fr.zero nilv nilv nilv).toArray 28)) := (((Kept.refl Nil w3).alloc _).alloc _).alloc _
  have F2 := Lib.hid f2
  have F3 := Lib.hid f3
  have F4 := Lib.hid f4
  have K0 := Lib.hid hk0
  clear hs f2 f3 f4 hk0
  have six : ∀ f : Fr, f = frA ∨ f = frB ∨ f = frC → f.six := by rintro f (rfl | rfl | rfl) <;> exact ⟨rfl, rfl, rfl, rfl⟩
  have SA := Lib.hid (six frA (.inl rfl))
  have SB := Lib.hid (six frB (.inr (.inl rfl)))
  have SC := Lib.hid (six frC (.inr (.inr rfl)))
  clear six
  go_upto_region 3 with (first
    | (refine wpList_st rfl _ (.tmp 2) _ rfl _ 0 rfl (fcs frA ta ba ra) _ rfl rfl (by rw [fcs_len SA.out]; exact infF) 28 _ F2.out (by rw [fcs_len Fr.zero_six, fcs_len SA.out]; omega) HA3.out.ones ?_; intro w4 hb4 hk4 hz4; have F33 := Lib.hid (F3.out.kept hk4 (fun hf => Nat.succ_ne_self _ hf)); have F43 := Lib.hid (F4.out.kept hk4 (fun hf => absurd hf (by unfold One; omega))); have F23 := Lib.hid (FB.of_all (f' := frA) Fr.zero_six SA.out hb4); clear hb4)
    | (refine wpList_st rfl _ (.tmp 3) _ rfl _ 0 rfl (fcs frB tb bb rb) _ rfl rfl (by rw [fcs_len SB.out]; exact infF) 28 _ F33.out (by rw [fcs_len Fr.zero_six, fcs_len SB.out]; omega) HB3.out.ones ?_; intro w5 hb5 hk5 hz5; have F24 := Lib.hid (F23.out.kept hk5 (fun hf => absurd hf (by unfold One; omega))); have F44 := Lib.hid (F43.out.kept hk5 (fun hf => absurd hf (by unfold One; omega))); have F34 := Lib.hid (FB.of_all (f' := frB) Fr.zero_six SB.out hb5); clear hb5)
    | (refine wpList_st rfl _ (.tmp 4) _ rfl _ 0 rfl (fcs frC tc bc rc) _ rfl rfl (by rw [fcs_len SC.out]; exact infF) 28 _ F44.out (by rw [fcs_len Fr.zero_six, fcs_len SC.out]; omega) HC3.out.ones ?_; intro w6 hb6 hk6 hz6; have F25 := Lib.hid (F24.out.kept hk6 (fun hf => absurd hf (by unfold One; omega))); have F35 := Lib.hid (F34.out.kept hk6 (fun hf => absurd hf (by unfold One; omega))); have F45 := Lib.hid (FB.of_all (f' := frC) Fr.zero_six SC.out hb6); clear hb6))
  have hk36 : Kept Nil w3 w6 := ((K0.out.fresh hk4 (fun i hi => by cases hi; exact Nat.le_refl _)).fresh hk5 (fun i hi => by cases hi; exact Nat.le_succ _)).fresh hk6 (fun i hi => by cases hi; omega)
  have HA6 := HA3.out.kept hk36
  have HB6 := HB3.out.kept hk36
  have HC6 := HC3.out.kept hk36
  have HK6 := Lib.hid (HK3.out.then hk36)
  clear hk36 hk4 hk5 hk6 hz4 hz5 hz6 F2 F3 F4 K0 F23 F33 F43 F24 F34 F44 HA3 HB3 HC3 HA1 HA2 HB2 HK1 HK2 HK3
  obtain ⟨Ata, nta, cta, rfl, hta, _⟩ := HA6.t
  obtain ⟨Aba, nba, cba, rfl, hba, _⟩ := HA6.b
  obtain ⟨Abb, nbb, cbb, rfl, hbb, _⟩ := HB6.b
  obtain ⟨Arb, nrb, crb, rfl, hrb, _⟩ := HB6.r
  have a12 := F25.out.ct SA.out
  have a13 := F25.out.ck SA.out
  have a14 := F25.out.cy SA.out
  have a21 := F25.out.cb SA.out
  have b13 := F35.out.ck SB.out
  have b14 := F35.out.cy SB.out
  have b21 := F35.out.cb SB.out
  have b22 := F35.out.cr SB.out
  have c13 := F45.out.ck SC.out
  simp only [frA, frB, frC] at a13 a14 b13 b14 c13
  have e1 : nta = 1 := hta.len.symm
  have e2 : nbb = 0 := hbb.1.symm
  subst e1 e2
  obtain ⟨b, o, rfl, q0, q1, q2, q3⟩ := hta.at (i := 0) (by decide)
  have hq3 : w6.cell? ⟨b, o + 3, none⟩ = some (.int .u16 5) := by simpa [frA] using q3
  have ta1 := hba.text (P := Try.prog) Try.underlying26 Try.underlying5 Try.underlying9
  have tb1 := hrb.text (P := Try.prog) Try.underlying26 Try.underlying5 Try.underlying9
  simp only [frA, frB] at ta1 tb1
  have hll := F45.out.rl SC.out
  have HLL := Lib.hid (show Row w6 (w3.heap.size + 1 + 1) 15 [.int .u8 66, .int .u8 66, .int .u8 3] from hll)
  have heq : ∀ u, (Op.equalIn 10000 25 (.agg #[.int .u8 66, .int .u8 66, .int .u8 3]) (.agg #[.int .u8 66, .int .u8 66, .int .u8 3])).run Try.prog u = .ok true u := fun u => eq_arr3 [66, 66, 3] [66, 66, 3] rfl rfl u
  clear HA6 HB6 HC6 hta hba hbb hrb q0 q1 q2 q3 hll
  go_wp2_with (refine wpList_ld rfl _ _ rfl _ 15 rfl _ HLL.out _ Try.underlying25 rfl inf3 ?_)
  go_ret
  exact ⟨rfl, HK6.out⟩
end Go.Proofs.Ytjdaaelkaeokeaa
