/- Package trans: contracts of Right, Seal. -/
import Derived.Test.YthjbabkmjmfmjaaDoorMg27
namespace Go.Proofs.YthjbabkmjmfmjaaDoor
open Go.RowKit
open Go.Maps (Keyed int_keyed keyOf_int_mk)
set_option linter.unusedVariables false

theorem nos_uns (p : Nat) (l : List UInt8) : nosM p l = (decide (p = 17) && unsM l) := rfl
theorem sum_none (l : List UInt8) : (accM l == 65535) = decide (sumM l = 0) := by
  have := accM_le l
  unfold sumM
  rw [Bool.eq_iff_iff]
  simp only [beq_iff_eq, decide_eq_true_eq]
  omega
theorem sum_u16 (l : List UInt8) : sumM l < 65536 := by unfold sumM; omega
set_option maxRecDepth 100000 in
set_option maxHeartbeats 4000000 in
theorem tright_yes (s d p : Nat) (hs : s < 4294967296) (hd : d < 4294967296) (hp : p < 256) (A : Option Addr) (n c : Nat) (l : List UInt8) (w : World) (h : Byt w A n c l) (hn : n ≤ 1099511627776) :
    Calls Tryd.prog 23 #[.int .u32 (s : Int), .int .u32 (d : Int), .int .u8 (p : Int), .slice A n c] w fun e w' => e = .returned (.bool (rightM s d p l)) ∧ Kept Nil w w' := by
  have hl := h.1
  have HB := Lib.hid h
  by_cases hb : n ≤ 65535
  · have hb' : ¬ (65535 : Int) < (n : Int) := by omega
    have HR := Lib.hid (show rightM s d p l = ((decide (p = 17) && unsM l) || decide (sumM (allB s d p l) = 0)) by unfold rightM; rw [decide_eq_true (by omega), Bool.true_and, nos_uns, sum_none])
    have HS := Lib.hid (fun u hu => tsum_yes s d p hs hd hp A n c l u hu hb)
    have HU := Lib.hid (fun u hu => uns_yes A n c l u hu hn)
    obtain ⟨x, hx⟩ : ∃ x, sumM (allB s d p l) = x := ⟨_, rfl⟩
    obtain ⟨y, hy⟩ : ∃ y, unsM l = y := ⟨_, rfl⟩
    rw [hx] at HR HS
    rw [hy] at HR HU
    clear h hl hx hy hb
    go_enter Tryd.func23, Tryd.ntmps23
    go_wp2_with (fail)
    refine (HS.out _ HB.out).mono ?_
    rintro e w1 ⟨rfl, hk1⟩
    have HK1 := Lib.hid hk1
    have HB1 := Lib.hid (HB.out.kept hk1 (fun _ _ hf => hf))
    clear hk1 HS HB
    by_cases h0 : x = 0
    · subst h0
      have h0' : (((0 : Nat) : Int) == 0) = true := rfl
      have HRR := Lib.hid (show rightM s d p l = true by rw [HR.out]; simp)
      clear HR
      go_wp2_with (fail)
      go_ret
      exact ⟨by rw [HRR.out]; rfl, HK1.out⟩
    · have h0' : ((x : Int) == 0) = false := by simp; omega
      have HRR := Lib.hid (show rightM s d p l = (decide (p = 17) && y) by rw [HR.out, decide_eq_false h0, Bool.or_false])
      clear HR h0
      by_cases h17 : p = 17
      · subst h17
        have h17' : (((17 : Nat) : Int) == 17) = true := rfl
        go_wp2_with (fail)
        refine (HU.out _ HB1.out).mono ?_
        rintro e w2 ⟨rfl, hk2⟩
        have HK2 := Lib.hid (HK1.out.then hk2)
        clear hk2
        go_wp2_with (fail)
        go_ret
        exact ⟨by rw [HRR.out]; rfl, HK2.out⟩
      · have h17' : ((p : Int) == 17) = false := by simp; omega
        have HR3 := Lib.hid (show rightM s d p l = false by rw [HRR.out, decide_eq_false h17]; rfl)
        clear h17 HRR
        go_wp2_with (fail)
        go_ret
        exact ⟨by rw [HR3.out]; rfl, HK1.out⟩
  · have hb' : (65535 : Int) < (n : Int) := by omega
    have HR := Lib.hid (show rightM s d p l = false by unfold rightM; rw [decide_eq_false (by omega), Bool.false_and])
    clear h hl hb
    go_enter Tryd.func23, Tryd.ntmps23
    go_wp2_with (fail)
    go_ret
    exact ⟨by rw [HR.out]; rfl, Kept.refl _ _⟩
theorem laid_zero (p x : Nat) : laidM p x = if p = 17 ∧ x = 0 then 65535 else x := rfl
/-- What Seal answers. -/
def SealIs (w : World) (e : Ending) (w' : World) (r : List UInt8 × Int) : Prop := ∃ v, e = .returned (.tuple #[v, .int .i64 r.2]) ∧ Made w w' v r.1
theorem seal_none {w w' : World} {r : List UInt8 × Int} {er : Int} (h : r = ([], er)) (hk : Kept Nil w w') : SealIs w (.returned (.tuple #[.slice none 0 0, .int .i64 er])) w' r := by
  subst h
  exact ⟨_, rfl, World.ownsRow_nil _ _ _ _, hk⟩
set_option maxRecDepth 100000 in
set_option maxHeartbeats 8000000 in
theorem tseal6 (s d : Nat) (hs : s < 4294967296) (hd : d < 4294967296) (A : Option Addr) (n c : Nat) (l : List UInt8) (w : World) (h : Byt w A n c l) (hn : n ≤ 1099511627776) :
    Calls Tryd.prog 16 #[.int .u32 (s : Int), .int .u32 (d : Int), .int .u8 6, .slice A n c] w fun e w' => SealIs w e w' (sealM s d 6 l) := by
  have hl := h.1
  have HB := Lib.hid h
  have HL := Lib.hid hl
  have HSE := Lib.hid (show sealM s d 6 l = if 65535 < n then ([], 1) else if n < 16 + 2 then ([], 4) else (l.take (atM 6) ++ (beM 2 (laidM 6 (sumM (allB s d 6 (bareM 6 l)))) ++ l.drop (atM 6 + 2)), 0) by
    unfold sealM
    rw [hl, show atM 6 = 16 from rfl]
    simp)
  clear h hl
  go_enter Tryd.func16, Tryd.ntmps16
  go_wp2_with (fail)
  refine (sums_yes _).mono ?_
  rintro e w1 ⟨gm, rfl, hmap, hk⟩
  have HB1 := Lib.hid (HB.out.kept hk (fun _ _ hf => hf))
  have HK1 := Lib.hid hk
  have HMP := Lib.hid hmap
  clear hk hmap HB
  go_upto_region 2 with (first
    | (at_lookup; refine wpList_lookup_own_ok_int _ rfl _ _ _ rfl 5 3 .i64 (int_keyed Tryd.underlying5) Tryd.underlying91 Tryd.underlying3 (zeroI _) gm 2 sumsD rfl HMP.out (.int .u8 6) (.int .u8 6) rfl (keyOf_int_mk Tryd.underlying5 (by decide)) ?_; intro x hat hwc; rw [show (Lit.int IntKind.u8 6) = Lit.int .u8 ((6 : Nat) : Int) from rfl] at hat ⊢; rw [(sums_at 6).1] at hat; rw [(sums_at 6).2]; injection hat with hat; injection hat with _ hat; obtain rfl : 16 = x := hat; clear hwc; simp only [Act.put])
    | fail)
  clear HMP
  by_cases hb : 65535 < n
  · have hb' : (65535 : Int) < (n : Int) := by omega
    have HR := Lib.hid (show sealM s d 6 l = ([], 1) by rw [HSE.out, if_pos hb])
    clear hb HSE
    go_wp2_with (fail)
    go_ret2
    exact seal_none HR.out HK1.out
  · have hb' : ¬ (65535 : Int) < (n : Int) := by omega
    by_cases ha : n < 16 + 2
    · have ha' : (n : Int) < 16 + 2 := by omega
      have HR := Lib.hid (show sealM s d 6 l = ([], 4) by rw [HSE.out, if_neg hb, if_pos ha])
      clear hb ha HSE
      go_wp2_with (fail)
      go_ret2
      exact seal_none HR.out HK1.out
    · have ha' : ¬ (n : Int) < 16 + 2 := by omega
      have HR := Lib.hid (show sealM s d 6 l = (l.take (atM 6) ++ (beM 2 (laidM 6 (sumM (allB s d 6 (bareM 6 l)))) ++ l.drop (atM 6 + 2)), 0) by rw [HSE.out, if_neg hb, if_neg ha])
      have HA := Lib.hid (show 16 + 2 ≤ n ∧ n ≤ 65535 by omega)
      have HAT := Lib.hid (show atM 6 + 2 ≤ l.length by rw [HL.out]; show 16 + 2 ≤ n; omega)
      clear hb ha HSE
      go_wp2_with (fail)
      refine (Lay_yes _).mono ?_
      rintro e w2 ⟨rfl, hp2, hk2⟩
      obtain ⟨g, hg⟩ : ∃ g, w1.heap.size = g := ⟨_, rfl⟩
      rw [hg] at hp2 ⊢
      have HP2 := Lib.hid hp2
      have HB2 := Lib.hid (HB1.out.kept hk2 (fun _ _ hf => hf))
      have HK2 := Lib.hid (HK1.out.then hk2)
      have HG := Lib.hid (show w.heap.size ≤ g ∧ g ≤ w2.heap.size by have := HK1.out.size; have := hk2.size; omega)
      have HBL := Lib.hid (show ∀ i, Lies A n i → i < g from fun i hi => by rw [← hg]; exact HB1.out.lt i hi)
      clear hp2 hk2 hg HB1 HK1
      go_wp2_with (fail)
      refine (PByte_yes g g _ [] A n c (l.map UInt8.toNat) _ HP2.out HB2.out.nums HG.out.2 (fun i hi hf => by have := HBL.out i hi; have := HP2.out.foot_ge i hf; omega) (by have := HA.out; simp; omega) (fun x hx => by obtain ⟨y, _, rfl⟩ := List.mem_map.1 hx; exact y.toNat_lt)).mono ?_
      rintro e w3 ⟨v3, rfl, hp3, hk3, hn3⟩
      rw [beAll_bytes, List.nil_append] at hp3
      have HP3 := Lib.hid hp3
      have HK3 := Lib.hid (HK2.out.fresh hk3 (fun i hi => by have := HP2.out.foot_ge i hi; have := HG.out; omega))
      clear hp3 hk3 hn3 HP2 HB2 HK2
      go_wp2_with (fail)
      refine (Fill_ok g g v3 l 16 0 _ HP3.out (by have := HL.out; have := HA.out; omega) (by have := HL.out; have := HA.out; omega) (by decide)).mono ?_
      rintro e w4 ⟨rfl, hp4, hk4⟩
      have hp4' : Padd w4 g g v3 (bareM 6 l) := by rw [← bare_is 6 l HAT.out]; exact hp4
      have HP4 := Lib.hid hp4'
      have HK4 := Lib.hid (HK3.out.fresh hk4 (fun i hi => by have := HP3.out.foot_ge i hi; have := HG.out; omega))
      clear hp4 hp4' hk4 HP3 HK3
      go_wp2_with (fail)
      refine (Done_yes _ g v3 _ _ HP4.out (by rw [bare_len _ _ HAT.out, HL.out]; have := HA.out; omega)).mono ?_
      rintro e w5 ⟨v5, rfl, hm5⟩
      obtain ⟨A5, c5, rfl, hb5, -⟩ := Byt.of_own hm5.1
      have HB5 := Lib.hid hb5
      have HP5 := Lib.hid (HP4.out.kept hm5.2 (fun _ _ hf => hf))
      have HK5 := Lib.hid (HK4.out.then hm5.2)
      clear hm5 hb5 HP4 HK4
      go_wp2_with (fail)
      refine (tsum_yes s d 6 hs hd (by decide) A5 _ c5 _ _ HB5.out (by rw [bare_len _ _ HAT.out, HL.out]; exact HA.out.2)).mono ?_
      rintro e w6 ⟨rfl, hk6⟩
      have HP6 := Lib.hid (HP5.out.kept hk6 (fun _ _ hf => hf))
      have HK6 := Lib.hid (HK5.out.then hk6)
      have hx := sum_u16 (allB s d 6 (bareM 6 l))
      obtain ⟨x, hxx⟩ : ∃ x, sumM (allB s d 6 (bareM 6 l)) = x := ⟨_, rfl⟩
      rw [hxx] at HR hx ⊢
      have HXL := Lib.hid (laid_lt 6 x hx)
      obtain ⟨y, hy⟩ : ∃ y, laidM 6 x = y := ⟨_, rfl⟩
      rw [hy] at HR HXL
      have HFI := Lib.hid (fun u hu => Fill_ok g g v3 (bareM 6 l) 16 y u hu (by rw [bare_len _ _ HAT.out, HL.out]; have := HA.out; omega) (by rw [bare_len _ _ HAT.out, HL.out]; exact HA.out.1) HXL.out)
      clear hk6 hxx HP5 HK5 HB5
      by_cases h0 : x = 0
      · subst h0
        have h0' : (((0 : Nat) : Int) == 0) = true := rfl
        obtain rfl : 0 = y := by rw [← hy]; rfl
        have hnot : bits .xor .u16 IntKind.u16.max ((0 : Nat) : Int) = 65535 := not_u16 0 (by decide)
        have hnot' : bits .xor .u16 IntKind.u16.max 0 = 65535 := not_u16 0 (by decide)
        clear hy
        go_wp2_with (fail)
        refine (HFI.out _ HP6.out).mono ?_
        rintro e w7 ⟨rfl, hp7, hk7⟩
        rw [show (16 : Nat) = atM 6 from rfl, laid_is 6 l _ HAT.out] at hp7
        have HP7 := Lib.hid hp7
        have HK7 := Lib.hid (HK6.out.fresh hk7 (fun i hi => by have := HP6.out.foot_ge i hi; have := HG.out; omega))
        clear hp7 hk7 HP6 HK6
        go_wp2_with (fail)
        refine (Done_yes _ g v3 _ _ HP7.out (by simp only [List.length_append, List.length_take, List.length_drop, beM_len]; have := HL.out; have := HA.out; omega)).mono ?_
        rintro e w8 ⟨v8, rfl, hm8⟩
        have HM := Lib.hid (show Made w w8 v8 (sealM s d 6 l).1 by rw [HR.out]; exact ⟨own_mono hm8.1 (by have := HK7.out.size; omega), HK7.out.then hm8.2⟩)
        clear hm8
        go_wp2_with (fail)
        go_ret2
        exact ⟨v8, by rw [HR.out]; rfl, HM.out⟩
      · have h0' : ((x : Int) == 0) = false := by simp; omega
        obtain rfl : x = y := by rw [← hy]; unfold laidM; rw [if_neg (fun h => h0 h.2)]
        clear hy h0
        go_wp2_with (fail)
        refine (HFI.out _ HP6.out).mono ?_
        rintro e w7 ⟨rfl, hp7, hk7⟩
        rw [show (16 : Nat) = atM 6 from rfl, laid_is 6 l _ HAT.out] at hp7
        have HP7 := Lib.hid hp7
        have HK7 := Lib.hid (HK6.out.fresh hk7 (fun i hi => by have := HP6.out.foot_ge i hi; have := HG.out; omega))
        clear hp7 hk7 HP6 HK6
        go_wp2_with (fail)
        refine (Done_yes _ g v3 _ _ HP7.out (by simp only [List.length_append, List.length_take, List.length_drop, beM_len]; have := HL.out; have := HA.out; omega)).mono ?_
        rintro e w8 ⟨v8, rfl, hm8⟩
        have HM := Lib.hid (show Made w w8 v8 (sealM s d 6 l).1 by rw [HR.out]; exact ⟨own_mono hm8.1 (by have := HK7.out.size; omega), HK7.out.then hm8.2⟩)
        clear hm8
        go_wp2_with (fail)
        go_ret2
        exact ⟨v8, by rw [HR.out]; rfl, HM.out⟩
set_option maxRecDepth 100000 in
set_option maxHeartbeats 8000000 in
theorem tseal17 (s d : Nat) (hs : s < 4294967296) (hd : d < 4294967296) (A : Option Addr) (n c : Nat) (l : List UInt8) (w : World) (h : Byt w A n c l) (hn : n ≤ 1099511627776) :
    Calls Tryd.prog 16 #[.int .u32 (s : Int), .int .u32 (d : Int), .int .u8 17, .slice A n c] w fun e w' => SealIs w e w' (sealM s d 17 l) := by
  have hl := h.1
  have HB := Lib.hid h
  have HL := Lib.hid hl
  have HSE := Lib.hid (show sealM s d 17 l = if 65535 < n then ([], 1) else if n < 6 + 2 then ([], 4) else (l.take (atM 17) ++ (beM 2 (laidM 17 (sumM (allB s d 17 (bareM 17 l)))) ++ l.drop (atM 17 + 2)), 0) by
    unfold sealM
    rw [hl, show atM 17 = 6 from rfl]
    simp)
  clear h hl
  go_enter Tryd.func16, Tryd.ntmps16
  go_wp2_with (fail)
  refine (sums_yes _).mono ?_
  rintro e w1 ⟨gm, rfl, hmap, hk⟩
  have HB1 := Lib.hid (HB.out.kept hk (fun _ _ hf => hf))
  have HK1 := Lib.hid hk
  have HMP := Lib.hid hmap
  clear hk hmap HB
  go_upto_region 2 with (first
    | (at_lookup; refine wpList_lookup_own_ok_int _ rfl _ _ _ rfl 5 3 .i64 (int_keyed Tryd.underlying5) Tryd.underlying91 Tryd.underlying3 (zeroI _) gm 2 sumsD rfl HMP.out (.int .u8 17) (.int .u8 17) rfl (keyOf_int_mk Tryd.underlying5 (by decide)) ?_; intro x hat hwc; rw [show (Lit.int IntKind.u8 17) = Lit.int .u8 ((17 : Nat) : Int) from rfl] at hat ⊢; rw [(sums_at 17).1] at hat; rw [(sums_at 17).2]; injection hat with hat; injection hat with _ hat; obtain rfl : 6 = x := hat; clear hwc; simp only [Act.put])
    | fail)
  clear HMP
  by_cases hb : 65535 < n
  · have hb' : (65535 : Int) < (n : Int) := by omega
    have HR := Lib.hid (show sealM s d 17 l = ([], 1) by rw [HSE.out, if_pos hb])
    clear hb HSE
    go_wp2_with (fail)
    go_ret2
    exact seal_none HR.out HK1.out
  · have hb' : ¬ (65535 : Int) < (n : Int) := by omega
    by_cases ha : n < 6 + 2
    · have ha' : (n : Int) < 6 + 2 := by omega
      have HR := Lib.hid (show sealM s d 17 l = ([], 4) by rw [HSE.out, if_neg hb, if_pos ha])
      clear hb ha HSE
      go_wp2_with (fail)
      go_ret2
      exact seal_none HR.out HK1.out
    · have ha' : ¬ (n : Int) < 6 + 2 := by omega
      have HR := Lib.hid (show sealM s d 17 l = (l.take (atM 17) ++ (beM 2 (laidM 17 (sumM (allB s d 17 (bareM 17 l)))) ++ l.drop (atM 17 + 2)), 0) by rw [HSE.out, if_neg hb, if_neg ha])
      have HA := Lib.hid (show 6 + 2 ≤ n ∧ n ≤ 65535 by omega)
      have HAT := Lib.hid (show atM 17 + 2 ≤ l.length by rw [HL.out]; show 6 + 2 ≤ n; omega)
      clear hb ha HSE
      go_wp2_with (fail)
      refine (Lay_yes _).mono ?_
      rintro e w2 ⟨rfl, hp2, hk2⟩
      obtain ⟨g, hg⟩ : ∃ g, w1.heap.size = g := ⟨_, rfl⟩
      rw [hg] at hp2 ⊢
      have HP2 := Lib.hid hp2
      have HB2 := Lib.hid (HB1.out.kept hk2 (fun _ _ hf => hf))
      have HK2 := Lib.hid (HK1.out.then hk2)
      have HG := Lib.hid (show w.heap.size ≤ g ∧ g ≤ w2.heap.size by have := HK1.out.size; have := hk2.size; omega)
      have HBL := Lib.hid (show ∀ i, Lies A n i → i < g from fun i hi => by rw [← hg]; exact HB1.out.lt i hi)
      clear hp2 hk2 hg HB1 HK1
      go_wp2_with (fail)
      refine (PByte_yes g g _ [] A n c (l.map UInt8.toNat) _ HP2.out HB2.out.nums HG.out.2 (fun i hi hf => by have := HBL.out i hi; have := HP2.out.foot_ge i hf; omega) (by have := HA.out; simp; omega) (fun x hx => by obtain ⟨y, _, rfl⟩ := List.mem_map.1 hx; exact y.toNat_lt)).mono ?_
      rintro e w3 ⟨v3, rfl, hp3, hk3, hn3⟩
      rw [beAll_bytes, List.nil_append] at hp3
      have HP3 := Lib.hid hp3
      have HK3 := Lib.hid (HK2.out.fresh hk3 (fun i hi => by have := HP2.out.foot_ge i hi; have := HG.out; omega))
      clear hp3 hk3 hn3 HP2 HB2 HK2
      go_wp2_with (fail)
      refine (Fill_ok g g v3 l 6 0 _ HP3.out (by have := HL.out; have := HA.out; omega) (by have := HL.out; have := HA.out; omega) (by decide)).mono ?_
      rintro e w4 ⟨rfl, hp4, hk4⟩
      have hp4' : Padd w4 g g v3 (bareM 17 l) := by rw [← bare_is 17 l HAT.out]; exact hp4
      have HP4 := Lib.hid hp4'
      have HK4 := Lib.hid (HK3.out.fresh hk4 (fun i hi => by have := HP3.out.foot_ge i hi; have := HG.out; omega))
      clear hp4 hp4' hk4 HP3 HK3
      go_wp2_with (fail)
      refine (Done_yes _ g v3 _ _ HP4.out (by rw [bare_len _ _ HAT.out, HL.out]; have := HA.out; omega)).mono ?_
      rintro e w5 ⟨v5, rfl, hm5⟩
      obtain ⟨A5, c5, rfl, hb5, -⟩ := Byt.of_own hm5.1
      have HB5 := Lib.hid hb5
      have HP5 := Lib.hid (HP4.out.kept hm5.2 (fun _ _ hf => hf))
      have HK5 := Lib.hid (HK4.out.then hm5.2)
      clear hm5 hb5 HP4 HK4
      go_wp2_with (fail)
      refine (tsum_yes s d 17 hs hd (by decide) A5 _ c5 _ _ HB5.out (by rw [bare_len _ _ HAT.out, HL.out]; exact HA.out.2)).mono ?_
      rintro e w6 ⟨rfl, hk6⟩
      have HP6 := Lib.hid (HP5.out.kept hk6 (fun _ _ hf => hf))
      have HK6 := Lib.hid (HK5.out.then hk6)
      have hx := sum_u16 (allB s d 17 (bareM 17 l))
      obtain ⟨x, hxx⟩ : ∃ x, sumM (allB s d 17 (bareM 17 l)) = x := ⟨_, rfl⟩
      rw [hxx] at HR hx ⊢
      have HXL := Lib.hid (laid_lt 17 x hx)
      obtain ⟨y, hy⟩ : ∃ y, laidM 17 x = y := ⟨_, rfl⟩
      rw [hy] at HR HXL
      have HFI := Lib.hid (fun u hu => Fill_ok g g v3 (bareM 17 l) 6 y u hu (by rw [bare_len _ _ HAT.out, HL.out]; have := HA.out; omega) (by rw [bare_len _ _ HAT.out, HL.out]; exact HA.out.1) HXL.out)
      clear hk6 hxx HP5 HK5 HB5
      by_cases h0 : x = 0
      · subst h0
        have h0' : (((0 : Nat) : Int) == 0) = true := rfl
        obtain rfl : 65535 = y := by rw [← hy]; rfl
        have hnot : bits .xor .u16 IntKind.u16.max ((0 : Nat) : Int) = 65535 := not_u16 0 (by decide)
        have hnot' : bits .xor .u16 IntKind.u16.max 0 = 65535 := not_u16 0 (by decide)
        clear hy
        go_wp2_with (fail)
        refine (HFI.out _ HP6.out).mono ?_
        rintro e w7 ⟨rfl, hp7, hk7⟩
        rw [show (6 : Nat) = atM 17 from rfl, laid_is 17 l _ HAT.out] at hp7
        have HP7 := Lib.hid hp7
        have HK7 := Lib.hid (HK6.out.fresh hk7 (fun i hi => by have := HP6.out.foot_ge i hi; have := HG.out; omega))
        clear hp7 hk7 HP6 HK6
        go_wp2_with (fail)
        refine (Done_yes _ g v3 _ _ HP7.out (by simp only [List.length_append, List.length_take, List.length_drop, beM_len]; have := HL.out; have := HA.out; omega)).mono ?_
        rintro e w8 ⟨v8, rfl, hm8⟩
        have HM := Lib.hid (show Made w w8 v8 (sealM s d 17 l).1 by rw [HR.out]; exact ⟨own_mono hm8.1 (by have := HK7.out.size; omega), HK7.out.then hm8.2⟩)
        clear hm8
        go_wp2_with (fail)
        go_ret2
        exact ⟨v8, by rw [HR.out]; rfl, HM.out⟩
      · have h0' : ((x : Int) == 0) = false := by simp; omega
        obtain rfl : x = y := by rw [← hy]; unfold laidM; rw [if_neg (fun h => h0 h.2)]
        clear hy h0
        go_wp2_with (fail)
        refine (HFI.out _ HP6.out).mono ?_
        rintro e w7 ⟨rfl, hp7, hk7⟩
        rw [show (6 : Nat) = atM 17 from rfl, laid_is 17 l _ HAT.out] at hp7
        have HP7 := Lib.hid hp7
        have HK7 := Lib.hid (HK6.out.fresh hk7 (fun i hi => by have := HP6.out.foot_ge i hi; have := HG.out; omega))
        clear hp7 hk7 HP6 HK6
        go_wp2_with (fail)
        refine (Done_yes _ g v3 _ _ HP7.out (by simp only [List.length_append, List.length_take, List.length_drop, beM_len]; have := HL.out; have := HA.out; omega)).mono ?_
        rintro e w8 ⟨v8, rfl, hm8⟩
        have HM := Lib.hid (show Made w w8 v8 (sealM s d 17 l).1 by rw [HR.out]; exact ⟨own_mono hm8.1 (by have := HK7.out.size; omega), HK7.out.then hm8.2⟩)
        clear hm8
        go_wp2_with (fail)
        go_ret2
        exact ⟨v8, by rw [HR.out]; rfl, HM.out⟩
set_option maxRecDepth 100000 in
set_option maxHeartbeats 8000000 in
theorem tseal_no (s d p : Nat) (hp : p < 256) (h6 : p ≠ 6) (h17 : p ≠ 17) (A : Option Addr) (n c : Nat) (l : List UInt8) (w : World) (h : Byt w A n c l) (hn : n ≤ 1099511627776) :
    Calls Tryd.prog 16 #[.int .u32 (s : Int), .int .u32 (d : Int), .int .u8 (p : Int), .slice A n c] w fun e w' => SealIs w e w' (sealM s d p l) := by
  have HR := Lib.hid (show sealM s d p l = ([], 1) by unfold sealM; rw [if_pos (.inl ⟨h6, h17⟩)])
  have hwf : (Lit.int .u8 (p : Int)).wf = true := by simp [Lit.wf, IntKind.min, IntKind.max, IntKind.signed, IntKind.bits]; omega
  have hat0 := sums_at p
  rw [if_neg h6, if_neg h17, show decide (p = 6 ∨ p = 17) = false by simp [h6, h17]] at hat0
  have HAT := Lib.hid hat0
  clear h hat0
  go_enter Tryd.func16, Tryd.ntmps16
  go_wp2_with (fail)
  refine (sums_yes _).mono ?_
  rintro e w1 ⟨gm, rfl, hmap, hk⟩
  have HK1 := Lib.hid hk
  have HMP := Lib.hid hmap
  clear hk hmap
  go_wp2_with (first
    | (at_lookup; refine wpList_lookup_own_ok_int _ rfl _ _ _ rfl 5 3 .i64 (int_keyed Tryd.underlying5) Tryd.underlying91 Tryd.underlying3 (zeroI _) gm 2 sumsD rfl HMP.out (.int .u8 (p : Int)) (.int .u8 (p : Int)) rfl (keyOf_int_mk Tryd.underlying5 hwf) ?_; intro x hat hwc; rw [HAT.out.1] at hat; rw [HAT.out.2]; injection hat with hat; injection hat with _ hat; subst hat; clear hwc; simp only [Act.put])
    | fail)
  go_ret2
  exact seal_none HR.out HK1.out
theorem tseal_yes (s d p : Nat) (hs : s < 4294967296) (hd : d < 4294967296) (hp : p < 256) (A : Option Addr) (n c : Nat) (l : List UInt8) (w : World) (h : Byt w A n c l) (hn : n ≤ 1099511627776) :
    Calls Tryd.prog 16 #[.int .u32 (s : Int), .int .u32 (d : Int), .int .u8 (p : Int), .slice A n c] w fun e w' => SealIs w e w' (sealM s d p l) := by
  by_cases h6 : p = 6
  · subst h6; exact tseal6 s d hs hd A n c l w h hn
  · by_cases h17 : p = 17
    · subst h17; exact tseal17 s d hs hd A n c l w h hn
    · exact tseal_no s d p hp h6 h17 A n c l w h hn
end Go.Proofs.YthjbabkmjmfmjaaDoor
