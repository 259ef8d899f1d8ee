/- Texts that belong together, one behind the other: EthL, EthQ. Conditions: those of each. -/
import Derived.Test.YtddpdopccejmbaaMg23
import Derived.Test.YtddpdopccejmbaaMg19
/- tolllaw04: tells. -/
namespace Go.Proofs.Ytddpdopccejmbaa
open Go.RowKit Go.Sort
set_option linter.unusedVariables false

def exA : ByteArray := ⟨#[129, 0, 0, 5, 8, 0, 255]⟩
def exB : ByteArray := ⟨#[0, 8, 170, 170, 3, 0, 0, 0, 8, 6, 238]⟩
def exC : ByteArray := ⟨#[0, 3, 66, 66, 3]⟩
def frA : Fr := ⟨[2, 0, 0, 0, 0, 1], [2, 0, 0, 0, 0, 2], [⟨33024, 0, false, 5⟩], 1, 2048, z3, z3, [255], []⟩
def frB : Fr := ⟨[2, 0, 0, 0, 0, 1], [2, 0, 0, 0, 0, 2], [], 3, 2054, snapL, z3, [], [238]⟩
def frC : Fr := ⟨[2, 0, 0, 0, 0, 1], [2, 0, 0, 0, 0, 2], [], 2, 0, [66, 66, 3], z3, [], []⟩
theorem get_exA : (getM (headB ++ exA.data.toList)).1 = frA := by kernel_rfl
theorem get_exB : (getM (headB ++ exB.data.toList)).1 = frB := by kernel_rfl
theorem get_exC : (getM (headB ++ exC.data.toList)).1 = frC := by kernel_rfl
set_option maxRecDepth 100000 in
set_option maxHeartbeats 4000000 in
theorem tells_yes (w : World) : Calls Try.prog 15 #[] w fun e w' => e = .returned (.bool true) ∧ Kept Nil w w' := by
  have ca : ∀ u, Calls Try.prog _ _ u _ := fun u => tget_yes exA (by decide) u
  have cb : ∀ u, Calls Try.prog _ _ u _ := fun u => tget_yes exB (by decide) u
  have cc : ∀ u, Calls Try.prog _ _ u _ := fun u => tget_yes exC (by decide) u
  rw [get_exA] at ca
  rw [get_exB] at cb
  rw [get_exC] at cc
  have CA := Lib.hid ca
  have CB := Lib.hid cb
  have CC := Lib.hid cc
  clear ca cb cc
  go_enter Try.func15, Try.ntmps15
  go_wp2_with fail
  refine (CA.out _).mono ?_
  rintro e w1 ⟨ta, ba, ra, rfl, ha, hk⟩
  have HA1 := Lib.hid ha
  have HK1 := Lib.hid hk
  clear ha hk
  go_wp2_with fail
  refine (CB.out _).mono ?_
  rintro e w2 ⟨tb, bb, rb, rfl, hb, hk⟩
  have HA2 := Lib.hid (HA1.out.kept hk)
  have HB2 := Lib.hid hb
  have HK2 := Lib.hid (HK1.out.then hk)
  clear hb hk
  go_wp2_with fail
  refine (CC.out _).mono ?_
  rintro e w3 ⟨tc, bc, rc, rfl, hc, hk⟩
  have HA3 := Lib.hid (HA2.out.kept hk)
  have HB3 := Lib.hid (HB2.out.kept hk)
  have HC3 := Lib.hid hc
  have HK3 := Lib.hid (HK2.out.then hk)
  clear hc hk
  have hs : (((w3.alloc (.cells (fcs Fr.zero nilv nilv nilv).toArray 28)).alloc (.cells (fcs Fr.zero nilv nilv nilv).toArray 28)).alloc (.cells (fcs Fr.zero nilv nilv nilv).toArray 28)).heap.size = w3.heap.size + 1 + 1 + 1 := by simp
  have f2 := ((FB.new w3 28 Fr.zero nilv nilv nilv).alloc (.cells (fcs Fr.zero nilv nilv nilv).toArray 28)).alloc (.cells (fcs Fr.zero nilv nilv nilv).toArray 28)
  have f3 : FB (((w3.alloc (.cells (fcs Fr.zero nilv nilv nilv).toArray 28)).alloc (.cells (fcs Fr.zero nilv nilv nilv).toArray 28)).alloc (.cells (fcs Fr.zero nilv nilv nilv).toArray 28)) (w3.heap.size + 1) 28 Fr.zero nilv nilv nilv := by
    have := (FB.new (w3.alloc (.cells (fcs Fr.zero nilv nilv nilv).toArray 28)) 28 Fr.zero nilv nilv nilv).alloc (.cells (fcs Fr.zero nilv nilv nilv).toArray 28)
    rwa [World.size_alloc] at this
  have f4 : FB (((w3.alloc (.cells (fcs Fr.zero nilv nilv nilv).toArray 28)).alloc (.cells (fcs Fr.zero nilv nilv nilv).toArray 28)).alloc (.cells (fcs Fr.zero nilv nilv nilv).toArray 28)) (w3.heap.size + 1 + 1) 28 Fr.zero nilv nilv nilv := by
    have := FB.new ((w3.alloc (.cells (fcs Fr.zero nilv nilv nilv).toArray 28)).alloc (.cells (fcs Fr.zero nilv nilv nilv).toArray 28)) 28 Fr.zero nilv nilv nilv
    rwa [World.size_alloc, World.size_alloc] at this
  have hk0 : Kept Nil w3 (((w3.alloc (.cells (fcs Fr.zero nilv nilv nilv).toArray 28)).alloc (.cells (fcs Fr.zero nilv nilv nilv).toArray 28)).alloc (.cells (fcs Fr.zero nilv nilv nilv).toArray 28)) := (((Kept.refl Nil w3).alloc _).alloc _).alloc _
  have F2 := Lib.hid f2
  have F3 := Lib.hid f3
  have F4 := Lib.hid f4
  have K0 := Lib.hid hk0
  clear hs f2 f3 f4 hk0
  have six : ∀ f : Fr, f = frA ∨ f = frB ∨ f = frC → f.six := by rintro f (rfl | rfl | rfl) <;> exact ⟨rfl, rfl, rfl, rfl⟩
  have SA := Lib.hid (six frA (.inl rfl))
  have SB := Lib.hid (six frB (.inr (.inl rfl)))
  have SC := Lib.hid (six frC (.inr (.inr rfl)))
  clear six
  go_upto_region 3 with (first
    | (refine wpList_st rfl _ (.tmp 2) _ rfl _ 0 rfl (fcs frA ta ba ra) _ rfl rfl (by rw [fcs_len SA.out]; exact infF) 28 _ F2.out (by rw [fcs_len Fr.zero_six, fcs_len SA.out]; omega) HA3.out.ones ?_; intro w4 hb4 hk4 hz4; have F33 := Lib.hid (F3.out.kept hk4 (fun hf => Nat.succ_ne_self _ hf)); have F43 := Lib.hid (F4.out.kept hk4 (fun hf => absurd hf (by unfold One; omega))); have F23 := Lib.hid (FB.of_all (f' := frA) Fr.zero_six SA.out hb4); clear hb4)
    | (refine wpList_st rfl _ (.tmp 3) _ rfl _ 0 rfl (fcs frB tb bb rb) _ rfl rfl (by rw [fcs_len SB.out]; exact infF) 28 _ F33.out (by rw [fcs_len Fr.zero_six, fcs_len SB.out]; omega) HB3.out.ones ?_; intro w5 hb5 hk5 hz5; have F24 := Lib.hid (F23.out.kept hk5 (fun hf => absurd hf (by unfold One; omega))); have F44 := Lib.hid (F43.out.kept hk5 (fun hf => absurd hf (by unfold One; omega))); have F34 := Lib.hid (FB.of_all (f' := frB) Fr.zero_six SB.out hb5); clear hb5)
    | (refine wpList_st rfl _ (.tmp 4) _ rfl _ 0 rfl (fcs frC tc bc rc) _ rfl rfl (by rw [fcs_len SC.out]; exact infF) 28 _ F44.out (by rw [fcs_len Fr.zero_six, fcs_len SC.out]; omega) HC3.out.ones ?_; intro w6 hb6 hk6 hz6; have F25 := Lib.hid (F24.out.kept hk6 (fun hf => absurd hf (by unfold One; omega))); have F35 := Lib.hid (F34.out.kept hk6 (fun hf => absurd hf (by unfold One; omega))); have F45 := Lib.hid (FB.of_all (f' := frC) Fr.zero_six SC.out hb6); clear hb6))
  have hk36 : Kept Nil w3 w6 := ((K0.out.fresh hk4 (fun i hi => by cases hi; exact Nat.le_refl _)).fresh hk5 (fun i hi => by cases hi; exact Nat.le_succ _)).fresh hk6 (fun i hi => by cases hi; omega)
  have HA6 := HA3.out.kept hk36
  have HB6 := HB3.out.kept hk36
  have HC6 := HC3.out.kept hk36
  have HK6 := Lib.hid (HK3.out.then hk36)
  clear hk36 hk4 hk5 hk6 hz4 hz5 hz6 F2 F3 F4 K0 F23 F33 F43 F24 F34 F44 HA3 HB3 HC3 HA1 HA2 HB2 HK1 HK2 HK3
  obtain ⟨Ata, nta, cta, rfl, hta, _⟩ := HA6.t
  obtain ⟨Aba, nba, cba, rfl, hba, _⟩ := HA6.b
  obtain ⟨Abb, nbb, cbb, rfl, hbb, _⟩ := HB6.b
  obtain ⟨Arb, nrb, crb, rfl, hrb, _⟩ := HB6.r
  have a12 := F25.out.ct SA.out
  have a13 := F25.out.ck SA.out
  have a14 := F25.out.cy SA.out
  have a21 := F25.out.cb SA.out
  have b13 := F35.out.ck SB.out
  have b14 := F35.out.cy SB.out
  have b21 := F35.out.cb SB.out
  have b22 := F35.out.cr SB.out
  have c13 := F45.out.ck SC.out
  simp only [frA, frB, frC] at a13 a14 b13 b14 c13
  have e1 : nta = 1 := hta.len.symm
  have e2 : nbb = 0 := hbb.1.symm
  subst e1 e2
  obtain ⟨b, o, rfl, q0, q1, q2, q3⟩ := hta.at (i := 0) (by decide)
  have hq3 : w6.cell? ⟨b, o + 3, none⟩ = some (.int .u16 5) := by simpa [frA] using q3
  have ta1 := hba.text (P := Try.prog) Try.underlying26 Try.underlying5 Try.underlying9
  have tb1 := hrb.text (P := Try.prog) Try.underlying26 Try.underlying5 Try.underlying9
  simp only [frA, frB] at ta1 tb1
  have hll := F45.out.rl SC.out
  have HLL := Lib.hid (show Row w6 (w3.heap.size + 1 + 1) 15 [.int .u8 66, .int .u8 66, .int .u8 3] from hll)
  have heq : ∀ u, (Op.equalIn 10000 25 (.agg #[.int .u8 66, .int .u8 66, .int .u8 3]) (.agg #[.int .u8 66, .int .u8 66, .int .u8 3])).run Try.prog u = .ok true u := fun u => eq_arr3 [66, 66, 3] [66, 66, 3] rfl rfl u
  clear HA6 HB6 HC6 hta hba hbb hrb q0 q1 q2 q3 hll
  go_wp2_with (refine wpList_ld rfl _ _ rfl _ 15 rfl _ HLL.out _ Try.underlying25 rfl inf3 ?_)
  go_ret
  exact ⟨rfl, HK6.out⟩
end Go.Proofs.Ytddpdopccejmbaa
/- Package ether: contract of mayCarry. -/
namespace Go.Proofs.Ytddpdopccejmbaa
open Go.RowKit Go.Sort
set_option linter.unusedVariables false

set_option maxRecDepth 100000 in
set_option maxHeartbeats 4000000 in
theorem mayCarry_yes (f : Fr) (vt vb vr : Value) (w : World) (h : FrIn w f vt vb vr) (hmay : mayL f.t = true) :
    Calls Try.prog 32 #[frv f vt vb vr] w fun e w' => e = .returned (.bool (carryM f)) ∧ Kept Nil w w' := by
  have hF := FB.new w 28 f vt vb vr
  have hk := (Kept.refl Nil w).alloc (.cells (fcs f vt vb vr).toArray 28)
  have HF := Lib.hid hF
  have HK := Lib.hid hk
  have HI := Lib.hid (h.kept hk)
  have hok := h.ok
  have HMAY := Lib.hid hmay
  clear hF hk h hmay
  obtain ⟨d, s, t, k, y, l, o, b, r⟩ := f
  have HSIX := Lib.hid hok.six
  have hkr := hok.k
  have hyr := hok.y
  simp only at hkr hyr
  have HL := Lib.hid (show l.length = 3 from hok.l)
  have HO := Lib.hid (show o.length = 3 from hok.o)
  clear hok
  go_enter Try.func32, Try.ntmps32
  go_upto_region 1 with (fail)
  refine wp_nameE (fun W => FB W w.heap.size 28 ⟨d, s, t, k, y, l, o, b, r⟩ vt vb vr ∧ Kept Nil w W ∧ FrIn W ⟨d, s, t, k, y, l, o, b, r⟩ vt vb vr) ⟨HF.out, HK.out, HI.out⟩ ?_
  clear HF HK HI
  rintro W ⟨hF, hk, hi⟩
  have c13 := hF.ck HSIX.out
  have c14 := hF.cy HSIX.out
  have c21 := hF.cb HSIX.out
  have c22 := hF.cr HSIX.out
  simp only at c13 c14
  obtain ⟨Ab, nb, cb, rfl, hyb⟩ := hi.b
  obtain ⟨Ar, nr, cr, rfl, hyr2⟩ := hi.r
  have hbl : b.length = nb := hyb.1
  have hrl : r.length = nr := hyr2.1
  have hbn : nb ≤ 1000000 := by rw [← hbl]; exact hi.bn
  have HBL := Lib.hid hbl
  have HRL := Lib.hid hrl
  have HF := Lib.hid hF
  have HK := Lib.hid hk
  have HI := Lib.hid hi
  clear hyb hyr2 hF hk hi hbl hrl

  by_cases h1 : k = 1
  · subst h1
    by_cases hy1 : 1536 ≤ y
    · by_cases hy2 : y ≤ 65535
      · obtain ⟨m, rfl⟩ : ∃ m : Nat, y = (m : Int) := ⟨y.toNat, by omega⟩
        have hm : m < 65536 := by omega
        go_wp2_with (refine wpList_ld rfl _ _ rfl _ 0 rfl _ HF.out.all _ Try.underlying28 rfl (by rw [fcs_len HSIX.out]; exact infF) ?_)
        refine (typeIsTag_yes _ _ _ _ m hm rfl _ HI.out HMAY.out).mono ?_
        rintro e w1 ⟨rfl, hk1⟩
        have HF1 := Lib.hid (HF.out.kept hk1 (fun hf => hf))
        have HK1 := Lib.hid (HK.out.then hk1)
        have d22 := hk1.cell c22 (fun hf => hf)
        clear hk1 c13 c14 c21 c22
        obtain ⟨st, hst⟩ : ∃ st, standM m (t.length : Int) = st := ⟨_, rfl⟩
        rw [show (Fr.mk d s t 1 (m : Int) l o b r).t = t from rfl, hst]
        have HST := Lib.hid hst
        clear hst
        cases st
        · go_wp2_with (refine wpList_ld rfl _ _ rfl _ 15 rfl _ (HF1.out.rl HSIX.out) _ Try.underlying25 rfl (by rw [bys_len, HL.out]; exact inf3) ?_)
          refine (isZero_yes l HL.out _).mono ?_
          rintro e w2 ⟨rfl, hk2⟩
          have HF2 := Lib.hid (HF1.out.kept hk2 (fun hf => hf))
          have HK2 := Lib.hid (HK1.out.then hk2)
          have e22 := hk2.cell d22 (fun hf => hf)
          clear hk2 d22
          by_cases hl : l = z3
          · rw [decide_eq_true hl]
            go_wp2_with (refine wpList_ld rfl _ _ rfl _ 18 rfl _ (HF2.out.ro HSIX.out) _ Try.underlying25 rfl (by rw [bys_len, HO.out]; exact inf3) ?_)
            refine (isZero_yes o HO.out _).mono ?_
            rintro e w3 ⟨rfl, hk3⟩
            have HK3 := Lib.hid (HK2.out.then hk3)
            have f22 := hk3.cell e22 (fun hf => hf)
            clear hk3 e22
            by_cases ho : o = z3
            · rw [decide_eq_true ho]
              by_cases hr0 : nr = 0
              · subst hr0
                have HLL := Lib.hid hl
                have HOO := Lib.hid ho
                clear hl ho
                go_wp2
                go_ret
                refine ⟨?_, HK3.out⟩
                rw [show carryM ⟨d, s, t, 1, (m : Int), l, o, b, r⟩ = true by simp [carryM, HLL.out, HOO.out, HRL.out, HST.out, hy1, hy2]]
                rfl
              · have hr1 : ((nr : Int) == 0) = false := by rw [beq_eq_false_iff_ne]; omega
                have HR0 := Lib.hid hr0
                have HLL := Lib.hid hl
                have HOO := Lib.hid ho
                clear hl ho hr0
                go_wp2
                go_ret
                refine ⟨?_, HK3.out⟩
                rw [show carryM ⟨d, s, t, 1, (m : Int), l, o, b, r⟩ = false by have := HR0.out; simp [carryM, HRL.out, this]]
                rfl
            · rw [decide_eq_false ho]
              have HOO := Lib.hid ho
              clear hl ho
              go_wp2
              go_ret
              refine ⟨?_, HK3.out⟩
              rw [show carryM ⟨d, s, t, 1, (m : Int), l, o, b, r⟩ = false by simp [carryM, HOO.out]]
              rfl
          · rw [decide_eq_false hl]
            have HLL := Lib.hid hl
            clear hl
            go_wp2
            go_ret
            refine ⟨?_, HK2.out⟩
            rw [show carryM ⟨d, s, t, 1, (m : Int), l, o, b, r⟩ = false by simp [carryM, HLL.out]]
            rfl
        · go_wp2
          go_ret
          refine ⟨?_, HK1.out⟩
          rw [show carryM ⟨d, s, t, 1, (m : Int), l, o, b, r⟩ = false by simp [carryM, HST.out]]
          rfl
      · have hy3 : ¬ (y ≤ 65535) := hy2
        go_wp2
        go_ret
        refine ⟨?_, HK.out⟩
        rw [show carryM ⟨d, s, t, 1, y, l, o, b, r⟩ = false by have hq : ¬ (y ≤ 65535) := Int.not_le.2 (by omega); simp [carryM, hq]]
        rfl
    · go_wp2
      go_ret
      refine ⟨?_, HK.out⟩
      rw [show carryM ⟨d, s, t, 1, y, l, o, b, r⟩ = false by have hq : ¬ (1536 ≤ y) := Int.not_le.2 (by omega); simp [carryM, hq]]
      rfl
  · by_cases h2 : k = 2
    · subst h2
      by_cases hy0 : y = 0
      · subst hy0
        go_wp2_with (refine wpList_ld rfl _ _ rfl _ 18 rfl _ (HF.out.ro HSIX.out) _ Try.underlying25 rfl (by rw [bys_len, HO.out]; exact inf3) ?_)
        refine (isZero_yes o HO.out _).mono ?_
        rintro e w1 ⟨rfl, hk1⟩
        have HF1 := Lib.hid (HF.out.kept hk1 (fun hf => hf))
        have HK1 := Lib.hid (HK.out.then hk1)
        have d21 := hk1.cell c21 (fun hf => hf)
        clear hk1 c13 c14 c21 c22
        by_cases ho : o = z3
        · rw [decide_eq_true ho]
          have HOO := Lib.hid ho
          clear ho
          go_wp2_with (refine wpList_ld rfl _ _ rfl _ 15 rfl _ (HF1.out.rl HSIX.out) _ Try.underlying25 rfl (by rw [bys_len, HL.out]; exact inf3) ?_)
          refine (isSnap_yes l HL.out _).mono ?_
          rintro e w2 ⟨rfl, hk2⟩
          have HK2 := Lib.hid (HK1.out.then hk2)
          have e21 := hk2.cell d21 (fun hf => hf)
          clear hk2 d21
          by_cases hl : l = snapL
          · rw [decide_eq_true hl]
            have HLL := Lib.hid hl
            clear hl
            go_wp2
            go_ret
            refine ⟨?_, HK2.out⟩
            rw [show carryM ⟨d, s, t, 2, 0, l, o, b, r⟩ = false by simp [carryM, HLL.out]]
            rfl
          · rw [decide_eq_false hl]
            have HLL := Lib.hid hl
            clear hl
            have hw : IntKind.wrap .i64 (3 + (nb : Int)) = 3 + (nb : Int) := by rw [IntKind.wrap_i64]; omega
            by_cases hn : 3 + nb ≤ 1500
            · have hn' : 3 + (nb : Int) ≤ 1500 := by omega
              have HN := Lib.hid hn
              clear hn
              go_wp2
              go_ret
              refine ⟨?_, HK2.out⟩
              rw [show carryM ⟨d, s, t, 2, 0, l, o, b, r⟩ = true by have := HN.out; simp [carryM, HLL.out, HOO.out, HBL.out, this]]
              rfl
            · have hn' : decide (3 + (nb : Int) ≤ 1500) = false := decide_eq_false (by omega)
              have HN := Lib.hid hn
              clear hn
              go_wp2
              go_ret
              refine ⟨?_, HK2.out⟩
              rw [show carryM ⟨d, s, t, 2, 0, l, o, b, r⟩ = false by have := HN.out; simp only [carryM, HBL.out, decide_eq_false this]; simp]
              rfl
        · rw [decide_eq_false ho]
          have HOO := Lib.hid ho
          clear ho
          go_wp2
          go_ret
          refine ⟨?_, HK1.out⟩
          rw [show carryM ⟨d, s, t, 2, 0, l, o, b, r⟩ = false by simp [carryM, HOO.out]]
          rfl
      · go_wp2
        go_ret
        refine ⟨?_, HK.out⟩
        rw [show carryM ⟨d, s, t, 2, y, l, o, b, r⟩ = false by simp [carryM, hy0]]
        rfl
    · by_cases h3 : k = 3
      · subst h3
        by_cases hy0 : 0 ≤ y
        · by_cases hy2 : y ≤ 65535
          · go_wp2_with (refine wpList_ld rfl _ _ rfl _ 15 rfl _ (HF.out.rl HSIX.out) _ Try.underlying25 rfl (by rw [bys_len, HL.out]; exact inf3) ?_)
            refine (isSnap_yes l HL.out _).mono ?_
            rintro e w1 ⟨rfl, hk1⟩
            have HK1 := Lib.hid (HK.out.then hk1)
            have d21 := hk1.cell c21 (fun hf => hf)
            clear hk1 c13 c14 c21 c22
            by_cases hl : l = snapL
            · rw [decide_eq_true hl]
              have HLL := Lib.hid hl
              clear hl
              have hw : IntKind.wrap .i64 (8 + (nb : Int)) = 8 + (nb : Int) := by rw [IntKind.wrap_i64]; omega
              by_cases hn : 8 + nb ≤ 1500
              · have hn' : 8 + (nb : Int) ≤ 1500 := by omega
                have HN := Lib.hid hn
                clear hn
                go_wp2
                go_ret
                refine ⟨?_, HK1.out⟩
                rw [show carryM ⟨d, s, t, 3, y, l, o, b, r⟩ = true by have := HN.out; simp [carryM, HLL.out, HBL.out, this, hy0, hy2]]
                rfl
              · have hn' : decide (8 + (nb : Int) ≤ 1500) = false := decide_eq_false (by omega)
                have HN := Lib.hid hn
                clear hn
                go_wp2
                go_ret
                refine ⟨?_, HK1.out⟩
                rw [show carryM ⟨d, s, t, 3, y, l, o, b, r⟩ = false by have := HN.out; simp only [carryM, HBL.out, decide_eq_false this]; simp]
                rfl
            · rw [decide_eq_false hl]
              have HLL := Lib.hid hl
              clear hl
              go_wp2
              go_ret
              refine ⟨?_, HK1.out⟩
              rw [show carryM ⟨d, s, t, 3, y, l, o, b, r⟩ = false by simp [carryM, HLL.out]]
              rfl
          · go_wp2
            go_ret
            refine ⟨?_, HK.out⟩
            rw [show carryM ⟨d, s, t, 3, y, l, o, b, r⟩ = false by have hq : ¬ (y ≤ 65535) := Int.not_le.2 (by omega); simp [carryM, hq]]
            rfl
        · go_wp2
          go_ret
          refine ⟨?_, HK.out⟩
          rw [show carryM ⟨d, s, t, 3, y, l, o, b, r⟩ = false by have hq : ¬ (0 ≤ y) := Int.not_le.2 (by omega); simp [carryM, hq]]
          rfl
      · go_wp2
        go_ret
        refine ⟨?_, HK.out⟩
        rw [show carryM ⟨d, s, t, k, y, l, o, b, r⟩ = false by unfold carryM; rw [if_neg h1, if_neg h2, if_neg h3]]
        rfl
end Go.Proofs.Ytddpdopccejmbaa
