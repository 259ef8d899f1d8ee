/- tolllaw05.ArpKnown: the walk. -/
import Derived.Test.YtddpdopccejmbaaArpD
import Derived.Test.YtddpdopccejmbaaArpG
namespace Go.Proofs.Ytddpdopccejmbaa
open Go.RowKit Go.Sort
set_option linter.unusedVariables false

def wantL : List UInt8 := [0, 1, 8, 0, 6, 4, 0, 2, 2, 0, 0, 0, 0, 1, 10, 0, 0, 1, 2, 0, 0, 0, 0, 2, 10, 0, 0, 254]
def kP : Pk := ⟨2, [2, 0, 0, 0, 0, 1], 167772161, [2, 0, 0, 0, 0, 2], 167772414⟩
def kN : Pk := ⟨3, o6, 5, o6, 5⟩
def kI : Pk := ⟨1, o6, 5, o6, 5⟩
def k2 : Pk := ⟨2, o6, 0, o6, 0⟩
def k1 : Pk := ⟨1, o6, 0, o6, 0⟩
theorem kP_ok : kP.ok := ⟨by decide, rfl, by decide, rfl, by decide⟩
theorem kN_ok : kN.ok := ⟨by decide, rfl, by decide, rfl, by decide⟩
theorem kI_ok : kI.ok := ⟨by decide, rfl, by decide, rfl, by decide⟩
theorem k2_ok : k2.ok := ⟨by decide, rfl, by decide, rfl, by decide⟩
theorem k1_ok : k1.ok := ⟨by decide, rfl, by decide, rfl, by decide⟩
theorem kn_turn : ∀ k : Fin 7, getP (wantL.set k.val (wantL[k.val]'(by have := k.isLt; show k.val < 28; omega) ^^^ 1)) = (Pk.zero, 5) := by decide +kernel
theorem kn_bytes : bytesP kP = wantL := by decide +kernel
theorem kn_none : bytesP kN = [] := by decide +kernel
theorem kn_reply : replyP kN o6 = (Pk.zero, false) := by decide +kernel
theorem kn_flags : mayP kN = false ∧ itselfP kN = false ∧ itselfP kI = true ∧ probesP kI = false ∧ itselfP kP = false ∧ probesP k2 = false ∧ probesP k1 = true ∧ itselfP k1 = false := by decide +kernel
theorem xor_one (a : UInt8) : bits .xor .u8 (a.toNat : Int) 1 = ((a ^^^ 1).toNat : Int) := by
  have := u8_xor_nat a.toNat 1 a.toNat_lt (by omega)
  rw [show (1 : Int) = ((1 : Nat) : Int) from rfl, this, UInt8.toNat_xor]
  rfl
/-- Bytes of one's own, as a block known whole. -/
theorem own_blo {w : World} {base e : Nat} {v : Value} {n : Nat} {l : List UInt8} (h : w.ownsRow base e 1 v n (bys l)) (hn : 0 < n) : ∃ g cap r, v = .slice (some ⟨g, 0, none⟩) n cap ∧ base ≤ g ∧ Blo w g e (bys l ++ r).toArray ∧ n ≤ cap ∧ cap ≤ 9223372036854775807 := by
  rcases h.2 with ⟨e, h0⟩ | ⟨g, cap, cur, e, hb, hg, hnc, hcap, hsz, htk⟩
  · omega
  · refine ⟨g, cap, cur.toList.drop n, e, hb, ?_, hnc, by simpa [maxLen] using hcap⟩
    rw [Nat.mul_one] at htk
    rw [← htk, List.take_append_drop]
    exact hg
set_option maxRecDepth 100000 in
set_option maxHeartbeats 8000000 in
theorem aknown_yes (w : World) : Calls Try.prog 8 #[] w fun e w' => e = .returned (.bool true) ∧ Below w.heap.size w w' := by
  have HN0 := Lib.hid (PB.new w 49 Pk.zero)
  go_enter Try.func8, Try.ntmps8
  go_upto_region 2 with (first | (refine wpList_st rfl _ (.tmp 1) _ rfl _ 0 rfl (pcs kP) _ rfl rfl (infP _ kP_ok) 49 _ HN0.out (by rw [pcs_len Pk.zero_ok, pcs_len kP_ok]; omega) (pcs_one _) ?_; intro w1 hb1 hk1 hz1) | fail)
  have hk01 := ((Kept.refl Nil w).alloc (.cells (pcs Pk.zero).toArray 49)).fresh hk1 (fun i hi => by cases hi; exact Nat.le_refl _)
  have HP1 := Lib.hid (PB.of_all (p' := kP) Pk.zero_ok kP_ok hb1)
  have HK1 := Lib.hid hk01
  clear hb1 hk1 hz1 hk01 HN0
  try simp only [Act.put]
  have hk2 := (Kept.refl Nil w1).alloc (.cells (bys wantL).toArray 5)
  have HP2 := Lib.hid (HP1.out.kept hk2 (fun hf => hf))
  have HK2 := Lib.hid (HK1.out.then hk2)
  have HY2 := Lib.hid (Byt.lit w1 wantL 5 (by decide))
  clear hk2 HP1 HK1
  go_upto_region 3 with (fail)
  refine wp_nameE (fun W => PB W w.heap.size 49 kP ∧ Byt W (some ⟨w1.heap.size, 0, none⟩) 28 28 wantL ∧ Kept Nil w W) ⟨HP2.out, HY2.out, HK2.out⟩ ?_
  clear HP2 HY2 HK2
  rintro W ⟨hP, hY, hk⟩
  have HP := Lib.hid hP
  have HY := Lib.hid hY
  have HK := Lib.hid hk
  obtain ⟨gw, hgw⟩ : ∃ g, w1.heap.size = g := ⟨_, rfl⟩
  rw [hgw] at HY ⊢
  clear hP hY hk hgw
  go_wp2_with (fail)
  go_loopw [15] (fun i wr => ∃ k : Nat, k ≤ 7 ∧ i = .int .i64 (k : Int) ∧ Hid (PB wr w.heap.size 49 kP) ∧ Hid (Byt wr (some ⟨gw, 0, none⟩) 28 28 wantL) ∧ Hid (Kept Nil w wr)) (fun i _ => 7 - (intOf i).toNat)
  case atStart => exact ⟨0, by omega, rfl, HP, HY, HK⟩
  case round =>
    obtain ⟨k, hk7, rfl, HP, HY, HK⟩ := hrel
    by_cases hlt : k < 7
    · have hkl : k < wantL.length := by show k < 28; omega
      have HG := Lib.hid (kn_turn ⟨k, hlt⟩)
      simp only at HG
      go_wp2_with (fail)
      refine (bclone (some ⟨gw, 0, none⟩) 28 28 wantL _ HY.out (by decide)).mono ?_
      rintro e w2 ⟨v2, rfl, hm⟩
      have hown : w2.ownsRow wr.heap.size 5 1 v2 28 (bys wantL) := hm.1
      obtain ⟨g4, cap, r, rfl, hlo, hblo, hc1, hc2⟩ := own_blo hown (by decide)
      obtain ⟨x, hx⟩ : ∃ x, wantL[k]'hkl = x := ⟨_, rfl⟩
      have hx? : wantL[k]? = some x := by rw [List.getElem?_eq_getElem hkl, hx]
      have hxr := xor_one x
      have ck : w2.cell? ⟨g4, k, none⟩ = some (.int .u8 (x.toNat : Int)) := by
        have := byt_ge (blo_byt hblo 28 cap rfl hc1 hc2) k x hx?
        rwa [Nat.zero_add] at this
      rw [hx] at HG
      have HB2 := Lib.hid hblo
      have HP2 := Lib.hid (HP.out.kept hm.2 (fun hf => hf))
      have HY2 := Lib.hid (HY.out.kept hm.2 (fun _ _ hf => hf))
      have HK2 := Lib.hid (HK.out.then hm.2)
      have HLO := Lib.hid (And.intro hlo (And.intro HP.out.lt HY.out.lt))
      have HKS := Lib.hid HK.out.size
      have hk28 : k < 28 := by omega
      clear hm hown hblo hlo hx hx? HP HY HK
      go_upto_region 8 with (first | (refine wpList_st rfl _ _ _ rfl g4 k rfl [.int .u8 ((x ^^^ 1).toNat : Int)] _ rfl rfl sz5 5 _ HB2.out (by rw [List.length_append, bys_len, List.length_singleton]; show k + 1 ≤ 28 + _; omega) (by intro u hu; simp at hu; subst hu; rfl) ?_; intro w3 hb3 hk3 hz3) | fail)
      have HY3 := Lib.hid (blo_byt (blo_put hkl hb3) 28 cap (by rw [List.length_set]; rfl) hc1 hc2)
      have HP3 := Lib.hid (HP2.out.kept hk3 (fun hf => by unfold One at hf; have := HLO.out; omega))
      have HZ3 := Lib.hid (HY2.out.kept hk3 (fun i hi hf => by have := HLO.out.2.2 i hi; have := HLO.out.1; cases hf; omega))
      have HK3 := Lib.hid (HK2.out.fresh hk3 (fun i hi => by cases hi; have := HLO.out.1; have := HKS.out; omega))
      clear hb3 hk3 hz3 HB2 HP2 HY2 HK2 ck hxr HLO HKS
      try simp only [Act.put]
      go_wp2_with (fail)
      refine (pget_yes _ 28 cap _ _ HY3.out (by decide)).mono ?_
      rintro e w4 ⟨rfl, hk⟩
      rw [HG.out]
      have HP4 := Lib.hid (HP3.out.kept hk (fun hf => hf))
      have HZ4 := Lib.hid (HZ3.out.kept hk (fun _ _ hf => hf))
      have HK4 := Lib.hid (HK3.out.then hk)
      have HN4 := Lib.hid (PB.new w4 49 Pk.zero)
      clear hk HP3 HZ3 HK3 HY3 HG
      simp only
      go_wp2_with (first | (refine wpList_st rfl _ (.tmp 5) _ rfl _ 0 rfl (pcs Pk.zero) _ rfl rfl (infP _ Pk.zero_ok) 49 _ HN4.out (by rw [pcs_len Pk.zero_ok]; omega) (pcs_one _) ?_; intro w5 hb5 hk5 hz5) | fail)
      have hk45 := ((Kept.refl Nil w4).alloc (.cells (pcs Pk.zero).toArray 49)).fresh hk5 (fun i hi => by cases hi; exact Nat.le_refl _)
      have HP5 := Lib.hid (HP4.out.kept hk45 (fun hf => hf))
      have HZ5 := Lib.hid (HZ4.out.kept hk45 (fun _ _ hf => hf))
      have HK5 := Lib.hid (HK4.out.then hk45)
      clear hb5 hk5 hz5 hk45 HP4 HZ4 HK4 HN4
      go_roundw
      case rel => exact ⟨k + 1, by omega, by go_num, HP5, HZ5, HK5⟩
      case measure => simp [intOf]; omega
    · have HN6 := Lib.hid (PB.new wr 49 Pk.zero)
      obtain ⟨f1, f2, f3, f4, f5, f6, f7, f8⟩ := kn_flags
      go_upto_region 13 with (first | (refine wpList_st rfl _ (.tmp 7) _ rfl _ 0 rfl (pcs kN) _ rfl rfl (infP _ kN_ok) 49 _ HN6.out (by rw [pcs_len Pk.zero_ok, pcs_len kN_ok]; omega) (pcs_one _) ?_; intro w6 hb6 hk6 hz6) | fail)
      have hk06 := ((Kept.refl Nil wr).alloc (.cells (pcs Pk.zero).toArray 49)).fresh hk6 (fun i hi => by cases hi; exact Nat.le_refl _)
      have HN := Lib.hid (PB.of_all (p' := kN) Pk.zero_ok kN_ok hb6)
      have HP6 := Lib.hid (HP.out.kept hk06 (fun hf => hf))
      have HY6 := Lib.hid (HY.out.kept hk06 (fun _ _ hf => hf))
      have HK6 := Lib.hid (HK.out.then hk06)
      obtain ⟨g7, hg7⟩ : ∃ g, wr.heap.size = g := ⟨_, rfl⟩
      rw [hg7] at HN ⊢
      clear hb6 hk6 hz6 hk06 HN6 hg7 HP HY HK
      try simp only [Act.put]
      go_wp2_with (first
        | (refine wpList_ld rfl _ _ rfl g7 0 rfl (pcs kN) HN.out.all _ Try.underlying49 rfl (infP kN kN_ok) ?_)
        | fail)
      refine (reply_yes kN kN_ok o6 rfl _).mono ?_
      rintro e w7 ⟨rfl, hk⟩
      rw [kn_reply]
      have HN7 := Lib.hid (HN.out.kept hk (fun hf => hf))
      have HP7 := Lib.hid (HP6.out.kept hk (fun hf => hf))
      have HY7 := Lib.hid (HY6.out.kept hk (fun _ _ hf => hf))
      have HK7 := Lib.hid (HK6.out.then hk)
      have HQ7 := Lib.hid (PB.new w7 49 Pk.zero)
      clear hk HN HP6 HY6 HK6
      simp only
      go_upto_region 14 with (first | (refine wpList_st rfl _ (.tmp 8) _ rfl _ 0 rfl (pcs Pk.zero) _ rfl rfl (infP _ Pk.zero_ok) 49 _ HQ7.out (by rw [pcs_len Pk.zero_ok]; omega) (pcs_one _) ?_; intro w8 hb8 hk8 hz8) | fail)
      have hk78 := ((Kept.refl Nil w7).alloc (.cells (pcs Pk.zero).toArray 49)).fresh hk8 (fun i hi => by cases hi; exact Nat.le_refl _)
      have HN8 := Lib.hid (HN7.out.kept hk78 (fun hf => hf))
      have HP8 := Lib.hid (HP7.out.kept hk78 (fun hf => hf))
      have HY8 := Lib.hid (HY7.out.kept hk78 (fun _ _ hf => hf))
      have HK8 := Lib.hid (HK7.out.then hk78)
      have HQ8 := Lib.hid (PB.new w8 49 Pk.zero)
      clear hb8 hk8 hz8 hk78 HN7 HP7 HY7 HK7 HQ7
      try simp only [Act.put]
      go_upto_region 15 with (first | (refine wpList_st rfl _ (.tmp 10) _ rfl _ 0 rfl (pcs kI) _ rfl rfl (infP _ kI_ok) 49 _ HQ8.out (by rw [pcs_len Pk.zero_ok, pcs_len kI_ok]; omega) (pcs_one _) ?_; intro w9 hb9 hk9 hz9) | fail)
      have hk89 := ((Kept.refl Nil w8).alloc (.cells (pcs Pk.zero).toArray 49)).fresh hk9 (fun i hi => by cases hi; exact Nat.le_refl _)
      have HI9 := Lib.hid (PB.of_all (p' := kI) Pk.zero_ok kI_ok hb9)
      have HN9 := Lib.hid (HN8.out.kept hk89 (fun hf => hf))
      have HP9 := Lib.hid (HP8.out.kept hk89 (fun hf => hf))
      have HY9 := Lib.hid (HY8.out.kept hk89 (fun _ _ hf => hf))
      have HK9 := Lib.hid (HK8.out.then hk89)
      obtain ⟨g10, hg10⟩ : ∃ g, w8.heap.size = g := ⟨_, rfl⟩
      rw [hg10] at HI9 ⊢
      clear hb9 hk9 hz9 hk89 HQ8 hg10 HN8 HP8 HY8 HK8
      try simp only [Act.put]
      go_wp2_with (first
        | (refine wpList_ld rfl _ _ rfl w.heap.size 0 rfl (pcs kP) HP9.out.all _ Try.underlying49 rfl (infP kP kP_ok) ?_)
        | (refine wpList_ld rfl _ _ rfl g7 0 rfl (pcs kN) HN9.out.all _ Try.underlying49 rfl (infP kN kN_ok) ?_)
        | (refine wpList_ld rfl _ _ rfl g10 0 rfl (pcs kI) HI9.out.all _ Try.underlying49 rfl (infP kI kI_ok) ?_)
        | fail)
      refine (pbytes_yes kP kP_ok _).mono ?_
      rintro e w10 ⟨v10, rfl, hm⟩
      rw [kn_bytes] at hm
      obtain ⟨A10, c10, rfl, hy10, _⟩ := byt_own hm
      have HP10 := Lib.hid (HP9.out.kept hm.2 (fun hf => hf))
      have HN10 := Lib.hid (HN9.out.kept hm.2 (fun hf => hf))
      have HI10 := Lib.hid (HI9.out.kept hm.2 (fun hf => hf))
      have HK10 := Lib.hid (HK9.out.then hm.2)
      have HY10 := Lib.hid (HY9.out.kept hm.2 (fun _ _ hf => hf))
      clear HP9 HN9 HI9 HK9 HY9
      clear hm
      go_wp2_with (fail)
      refine (equal _ _ _ _ _ _ _ _ _ hy10 HY10.out).mono ?_
      rintro e w11 ⟨rfl, rfl⟩
      rw [beq_self_eq_true]
      clear hy10 HY10
      go_wp2_with (first
        | (refine wpList_ld rfl _ _ rfl w.heap.size 0 rfl (pcs kP) HP10.out.all _ Try.underlying49 rfl (infP kP kP_ok) ?_)
        | (refine wpList_ld rfl _ _ rfl g7 0 rfl (pcs kN) HN10.out.all _ Try.underlying49 rfl (infP kN kN_ok) ?_)
        | (refine wpList_ld rfl _ _ rfl g10 0 rfl (pcs kI) HI10.out.all _ Try.underlying49 rfl (infP kI kI_ok) ?_)
        | fail)
      refine (pmay_yes kN kN_ok _).mono ?_
      rintro e w12 ⟨rfl, hk⟩
      rw [f1]
      have HP11 := Lib.hid (HP10.out.kept hk (fun hf => hf))
      have HN11 := Lib.hid (HN10.out.kept hk (fun hf => hf))
      have HI11 := Lib.hid (HI10.out.kept hk (fun hf => hf))
      have HK11 := Lib.hid (HK10.out.then hk)
      clear HP10 HN10 HI10 HK10
      clear hk
      go_wp2_with (first
        | (refine wpList_ld rfl _ _ rfl w.heap.size 0 rfl (pcs kP) HP11.out.all _ Try.underlying49 rfl (infP kP kP_ok) ?_)
        | (refine wpList_ld rfl _ _ rfl g7 0 rfl (pcs kN) HN11.out.all _ Try.underlying49 rfl (infP kN kN_ok) ?_)
        | (refine wpList_ld rfl _ _ rfl g10 0 rfl (pcs kI) HI11.out.all _ Try.underlying49 rfl (infP kI kI_ok) ?_)
        | fail)
      refine (pbytes_yes kN kN_ok _).mono ?_
      rintro e w13 ⟨v13, rfl, hm⟩
      rw [kn_none] at hm
      obtain ⟨A13, c13, rfl, -, -⟩ := byt_own hm
      have HP12 := Lib.hid (HP11.out.kept hm.2 (fun hf => hf))
      have HN12 := Lib.hid (HN11.out.kept hm.2 (fun hf => hf))
      have HI12 := Lib.hid (HI11.out.kept hm.2 (fun hf => hf))
      have HK12 := Lib.hid (HK11.out.then hm.2)
      clear HP11 HN11 HI11 HK11
      clear hm
      simp only [List.length_nil]
      go_wp2_with (first
        | (refine wpList_ld rfl _ _ rfl w.heap.size 0 rfl (pcs kP) HP12.out.all _ Try.underlying49 rfl (infP kP kP_ok) ?_)
        | (refine wpList_ld rfl _ _ rfl g7 0 rfl (pcs kN) HN12.out.all _ Try.underlying49 rfl (infP kN kN_ok) ?_)
        | (refine wpList_ld rfl _ _ rfl g10 0 rfl (pcs kI) HI12.out.all _ Try.underlying49 rfl (infP kI kI_ok) ?_)
        | fail)
      refine (itself_yes kN kN_ok _).mono ?_
      rintro e w14 ⟨rfl, hk⟩
      rw [f2]
      have HP13 := Lib.hid (HP12.out.kept hk (fun hf => hf))
      have HN13 := Lib.hid (HN12.out.kept hk (fun hf => hf))
      have HI13 := Lib.hid (HI12.out.kept hk (fun hf => hf))
      have HK13 := Lib.hid (HK12.out.then hk)
      clear HP12 HN12 HI12 HK12
      clear hk
      go_wp2_with (first
        | (refine wpList_ld rfl _ _ rfl w.heap.size 0 rfl (pcs kP) HP13.out.all _ Try.underlying49 rfl (infP kP kP_ok) ?_)
        | (refine wpList_ld rfl _ _ rfl g7 0 rfl (pcs kN) HN13.out.all _ Try.underlying49 rfl (infP kN kN_ok) ?_)
        | (refine wpList_ld rfl _ _ rfl g10 0 rfl (pcs kI) HI13.out.all _ Try.underlying49 rfl (infP kI kI_ok) ?_)
        | fail)
      refine (itself_yes kI kI_ok _).mono ?_
      rintro e w15 ⟨rfl, hk⟩
      rw [f3]
      have HP14 := Lib.hid (HP13.out.kept hk (fun hf => hf))
      have HN14 := Lib.hid (HN13.out.kept hk (fun hf => hf))
      have HI14 := Lib.hid (HI13.out.kept hk (fun hf => hf))
      have HK14 := Lib.hid (HK13.out.then hk)
      clear HP13 HN13 HI13 HK13
      clear hk
      go_wp2_with (first
        | (refine wpList_ld rfl _ _ rfl w.heap.size 0 rfl (pcs kP) HP14.out.all _ Try.underlying49 rfl (infP kP kP_ok) ?_)
        | (refine wpList_ld rfl _ _ rfl g7 0 rfl (pcs kN) HN14.out.all _ Try.underlying49 rfl (infP kN kN_ok) ?_)
        | (refine wpList_ld rfl _ _ rfl g10 0 rfl (pcs kI) HI14.out.all _ Try.underlying49 rfl (infP kI kI_ok) ?_)
        | fail)
      refine (probes_yes kI kI_ok _).mono ?_
      rintro e w16 ⟨rfl, hk⟩
      rw [f4]
      have HP15 := Lib.hid (HP14.out.kept hk (fun hf => hf))
      have HN15 := Lib.hid (HN14.out.kept hk (fun hf => hf))
      have HI15 := Lib.hid (HI14.out.kept hk (fun hf => hf))
      have HK15 := Lib.hid (HK14.out.then hk)
      clear HP14 HN14 HI14 HK14
      clear hk
      go_wp2_with (first
        | (refine wpList_ld rfl _ _ rfl w.heap.size 0 rfl (pcs kP) HP15.out.all _ Try.underlying49 rfl (infP kP kP_ok) ?_)
        | (refine wpList_ld rfl _ _ rfl g7 0 rfl (pcs kN) HN15.out.all _ Try.underlying49 rfl (infP kN kN_ok) ?_)
        | (refine wpList_ld rfl _ _ rfl g10 0 rfl (pcs kI) HI15.out.all _ Try.underlying49 rfl (infP kI kI_ok) ?_)
        | fail)
      refine (itself_yes kP kP_ok _).mono ?_
      rintro e w17 ⟨rfl, hk⟩
      rw [f5]
      have HP16 := Lib.hid (HP15.out.kept hk (fun hf => hf))
      have HN16 := Lib.hid (HN15.out.kept hk (fun hf => hf))
      have HI16 := Lib.hid (HI15.out.kept hk (fun hf => hf))
      have HK16 := Lib.hid (HK15.out.then hk)
      clear HP15 HN15 HI15 HK15
      clear hk
      go_wp2_with (first
        | (refine wpList_ld rfl _ _ rfl w.heap.size 0 rfl (pcs kP) HP16.out.all _ Try.underlying49 rfl (infP kP kP_ok) ?_)
        | (refine wpList_ld rfl _ _ rfl g7 0 rfl (pcs kN) HN16.out.all _ Try.underlying49 rfl (infP kN kN_ok) ?_)
        | (refine wpList_ld rfl _ _ rfl g10 0 rfl (pcs kI) HI16.out.all _ Try.underlying49 rfl (infP kI kI_ok) ?_)
        | fail)
      refine (probes_yes k2 k2_ok _).mono ?_
      rintro e w18 ⟨rfl, hk⟩
      rw [f6]
      have HP17 := Lib.hid (HP16.out.kept hk (fun hf => hf))
      have HN17 := Lib.hid (HN16.out.kept hk (fun hf => hf))
      have HI17 := Lib.hid (HI16.out.kept hk (fun hf => hf))
      have HK17 := Lib.hid (HK16.out.then hk)
      clear HP16 HN16 HI16 HK16
      clear hk
      go_wp2_with (first
        | (refine wpList_ld rfl _ _ rfl w.heap.size 0 rfl (pcs kP) HP17.out.all _ Try.underlying49 rfl (infP kP kP_ok) ?_)
        | (refine wpList_ld rfl _ _ rfl g7 0 rfl (pcs kN) HN17.out.all _ Try.underlying49 rfl (infP kN kN_ok) ?_)
        | (refine wpList_ld rfl _ _ rfl g10 0 rfl (pcs kI) HI17.out.all _ Try.underlying49 rfl (infP kI kI_ok) ?_)
        | fail)
      refine (probes_yes k1 k1_ok _).mono ?_
      rintro e w19 ⟨rfl, hk⟩
      rw [f7]
      have HP18 := Lib.hid (HP17.out.kept hk (fun hf => hf))
      have HN18 := Lib.hid (HN17.out.kept hk (fun hf => hf))
      have HI18 := Lib.hid (HI17.out.kept hk (fun hf => hf))
      have HK18 := Lib.hid (HK17.out.then hk)
      clear HP17 HN17 HI17 HK17
      clear hk
      go_wp2_with (first
        | (refine wpList_ld rfl _ _ rfl w.heap.size 0 rfl (pcs kP) HP18.out.all _ Try.underlying49 rfl (infP kP kP_ok) ?_)
        | (refine wpList_ld rfl _ _ rfl g7 0 rfl (pcs kN) HN18.out.all _ Try.underlying49 rfl (infP kN kN_ok) ?_)
        | (refine wpList_ld rfl _ _ rfl g10 0 rfl (pcs kI) HI18.out.all _ Try.underlying49 rfl (infP kI kI_ok) ?_)
        | fail)
      refine (itself_yes k1 k1_ok _).mono ?_
      rintro e w20 ⟨rfl, hk⟩
      rw [f8]
      have HP19 := Lib.hid (HP18.out.kept hk (fun hf => hf))
      have HN19 := Lib.hid (HN18.out.kept hk (fun hf => hf))
      have HI19 := Lib.hid (HI18.out.kept hk (fun hf => hf))
      have HK19 := Lib.hid (HK18.out.then hk)
      clear HP18 HN18 HI18 HK18
      clear hk
      go_wp2_with (first
        | (refine wpList_ld rfl _ _ rfl w.heap.size 0 rfl (pcs kP) HP19.out.all _ Try.underlying49 rfl (infP kP kP_ok) ?_)
        | (refine wpList_ld rfl _ _ rfl g7 0 rfl (pcs kN) HN19.out.all _ Try.underlying49 rfl (infP kN kN_ok) ?_)
        | (refine wpList_ld rfl _ _ rfl g10 0 rfl (pcs kI) HI19.out.all _ Try.underlying49 rfl (infP kI kI_ok) ?_)
        | fail)
      refine (wakes_yes _).mono ?_
      rintro e w21 ⟨rfl, hk⟩
      have HKF := Lib.hid (HK19.out.then hk)
      clear hk
      go_wp2
      go_ret
      exact ⟨rfl, HKF.out.below (Nat.le_refl _) (fun _ hf => hf.elim)⟩
end Go.Proofs.Ytddpdopccejmbaa
