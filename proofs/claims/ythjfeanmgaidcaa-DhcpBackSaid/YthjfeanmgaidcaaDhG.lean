/- Package dhcp: contract of Get. -/
import Derived.Test.YthjfeanmgaidcaaDhD
import Derived.Test.YthjfeanmgaidcaaDhF
namespace Go.Proofs.Ythjfeanmgaidcaa
open Go.RowKit Go.Sort
set_option linter.unusedVariables false

theorem get_cases {l : List UInt8} {hd : Dh} {s1 s2 : Cst} {os : List Opn} (h1 : HdR l hd s1) (h2 : OptRes s1 os s2) (hk : s2.k ≤ s2.l.length) :
    ((takeM s2 (leftM s2)).2.er ≠ 0 ∧ getD l = (Dh.zero, (takeM s2 (leftM s2)).2.er)) ∨ ((takeM s2 (leftM s2)).2.er = 0 ∧ getD l = ({ hd with os := os, bh := (takeM s2 (leftM s2)).1 }, 0)) := by
  have herr : ∀ s : Cst, s.er ≠ 0 → (takeM s (leftM s)).2 = s := fun s h => by
    obtain ⟨b, k, er⟩ := s
    rw [takeM_err b k er h]
  rcases h1.is with ⟨g1, g2, g3⟩ | ⟨g1, g2, g3, g4⟩ | ⟨g1, g2, rfl, rfl⟩
  · rcases h2 with ⟨e1, rfl⟩ | ⟨e1, _⟩ | ⟨e1, _⟩
    · refine .inl ?_
      rw [herr _ e1, g3]
      exact ⟨by decide, by unfold getD; rw [if_pos g1]⟩
    · rw [g3] at e1; cases e1
    · rw [g3] at e1; cases e1
  · rcases h2 with ⟨e1, rfl⟩ | ⟨e1, _⟩ | ⟨e1, _⟩
    · refine .inl ?_
      rw [herr _ e1, g4]
      exact ⟨by decide, by unfold getD; rw [if_neg (by omega), if_pos g2]⟩
    · rw [g4] at e1; cases e1
    · rw [g4] at e1; cases e1
  · have hg : getD l = match optM (l.drop 240) with
        | none => (Dh.zero, 4)
        | some x => ({ headOf l with os := x.1, bh := x.2 }, 0) := by unfold getD; rw [if_neg (by omega), if_neg (by rw [g2]; simp)]; cases optM (l.drop 240) <;> rfl
    rcases h2 with ⟨e1, _⟩ | ⟨_, e2, e3, e4⟩ | ⟨_, e2, e3, e4⟩
    · exact absurd rfl e1
    · refine .inr ?_
      obtain ⟨b, k, er⟩ := s2
      simp only at e2 e3 hk
      subst e2 e3
      have e4' : optM (b.drop 240) = some (os, b.drop k) := e4
      have hl : leftM ⟨b, k, 0⟩ = ((b.length - k : Nat) : Int) := by simp [leftM]; omega
      rw [hl, takeM_ok b k (b.length - k) (by omega)]
      refine ⟨rfl, ?_⟩
      rw [hg, e4', List.take_of_length_le (by simp)]
    · refine .inl ?_
      have e4' : optM (l.drop 240) = none := e4
      rw [herr _ (by rw [e2]; decide), e2]
      exact ⟨by decide, by rw [hg, e4']⟩
theorem DhIn.zero (D : Nat → Prop) (w : World) : DhIn D w Dh.zero nilv nilv := ⟨Dh.zero_ok, ⟨none, 0, 0, rfl, Opts.none _ _ _⟩, ⟨none, 0, 0, rfl, Byt.none _, fun i hi => absurd hi.1 (by omega)⟩⟩
/-- What Get answers. -/
def GetR (w : World) (e : Ending) (w' : World) (r : Dh × Int) : Prop := ∃ vo vb, e = .returned (.tuple #[dhv r.1 vo vb, .int .i64 r.2]) ∧ DhIn (fun i => w.heap.size ≤ i) w' r.1 vo vb ∧ Kept Nil w w'
theorem infSO : (Try.prog.info? 30).map (·.size) = some 1 := by kernel_rfl
theorem infSB : (Try.prog.info? 31).map (·.size) = some 1 := by kernel_rfl
theorem one_sl (A : Option Addr) (n c : Nat) : ∀ u ∈ [Value.slice A n c], u.oneCell' = true := by intro u hu; simp at hu; subst hu; rfl
set_option maxRecDepth 100000 in
set_option maxHeartbeats 8000000 in
theorem dget_yes (A : Option Addr) (n c : Nat) (l : List UInt8) (w : World) (h : Byt w A n c l) (hn : n ≤ 1099511627776) : Calls Try.prog 8 #[.slice A n c] w fun e w' => GetR w e w' (getD l) := by
  have HY := Lib.hid h
  have HN := Lib.hid hn
  clear h hn
  go_enter Try.func8, Try.ntmps8
  go_upto_region 1 with (first | (refine wpList_al rfl 33 rfl (dcs Dh.zero nilv nilv) al_dh ?_; intro w1 hb1 hk1 hz1) | fail)
  have HB1 := Lib.hid (show DB w1 w.heap.size 33 Dh.zero nilv nilv from hb1)
  have HK1 := Lib.hid hk1
  have HY1 := Lib.hid (HY.out.kept hk1 (fun _ _ hf => hf))
  obtain ⟨g2, hg2⟩ : ∃ g, w.heap.size = g := ⟨_, rfl⟩
  have HW2 := Lib.hid (show w.heap.size = g2 from hg2)
  rw [hg2] at HB1 ⊢
  clear hb1 hk1 hz1 hg2 HY
  go_wp2_with (fail)
  refine (new_yes A n c l _ HY1.out (by have := HN.out; omega)).mono ?_
  rintro e w2 ⟨gc, A2, c2, rfl, hc, hk, hgc, hA2⟩
  have HC2 := Lib.hid hc
  have HG2 := Lib.hid (show g2 < gc from Nat.lt_of_lt_of_le HB1.out.lt hgc)
  have HB2 := Lib.hid (HB1.out.kept hk (fun hf => hf))
  have HK2 := Lib.hid (HK1.out.then hk)
  have HLA := Lib.hid (show ∀ i, Lies A2 n i → g2 < i from fun i hi => Nat.lt_of_lt_of_le HB1.out.lt (hA2 i hi))
  clear hc hk hgc hA2 HB1 HK1 HY1
  go_wp2_with (fail)
  refine (head_yes gc A2 n c2 l _ HC2.out (by have := HN.out; omega)).mono ?_
  rintro e w3 ⟨hd, s1, rfl, hh, hc, hk⟩
  have HH := Lib.hid hh
  have HC3 := Lib.hid hc
  have HB3 := Lib.hid (HB2.out.kept hk (fun hf => by have := HG2.out; cases hf; omega))
  have HK3 := Lib.hid (HK2.out.fresh hk (fun i hi => by have := HG2.out; have := HW2.out; cases hi; omega))
  clear hh hc hk HB2 HK2 HC2
  go_wp2_with (first
    | (refine wpList_al rfl 33 rfl (dcs Dh.zero nilv nilv) al_dh ?_; intro w4 hb4 hk4 hz4)
    | (refine wpList_st rfl _ (.tmp 5) (.tmp 9) rfl w3.heap.size 0 rfl (dcs hd nilv nilv) _ rfl rfl (infDh _ HH.out.ok.s6 _ _) 33 (dcs Dh.zero nilv nilv) hb4 (by rw [dcs_len HH.out.ok.s6, dcs_len Dh.zero_ok.s6]; decide) (dcs_one rfl rfl) ?_; intro w5 hb5 hk5 hz5; simp only [Act.put])
    | fail)
  have hk := hk4.fresh hk5 (fun j hj => by cases hj; exact Nat.le_refl _)
  have HM5 := Lib.hid (DB.of_all (h' := hd) Dh.zero_ok.s6 HH.out.ok.s6 hb5)
  have HGM := Lib.hid (show gc < w3.heap.size from HC3.out.blo.lt)
  have HLM := Lib.hid (show ∀ i, Lies A2 n i → i < w3.heap.size from HC3.out.byt.lt)
  have HC5 := Lib.hid (HC3.out.kept hk (fun hf => hf) (fun _ _ hf => hf))
  have HB5 := Lib.hid (HB3.out.kept hk (fun hf => hf))
  have HK5 := Lib.hid (HK3.out.then hk)
  obtain ⟨gm, hgm⟩ : ∃ g, w3.heap.size = g := ⟨_, rfl⟩
  rw [hgm] at HM5 HGM HLM ⊢
  clear hk hk4 hb4 hz4 hk5 hb5 hz5 hgm HB3 HK3 HC3
  refine (topt_yes gc A2 n c2 s1 _ HC5.out HN.out).mono ?_
  rintro e w6 ⟨v, os, s2, rfl, hv, ho, hc, hk⟩
  obtain ⟨Ao, co, rfl, hop⟩ := hv.opts
  have HOP := Lib.hid (show Opts (fun i => w5.heap.size ≤ i) .u8 w6 Ao os.length co os from hop.mono (fun i h => by rcases h with h | h <;> exact h))
  have HR := Lib.hid ho
  have HC6 := Lib.hid hc
  have HG5 := Lib.hid (show gm < w5.heap.size from HM5.out.lt)
  have HB6 := Lib.hid (HB5.out.kept hk (fun hf => by have := HG2.out; cases hf; omega))
  have HM6 := Lib.hid (HM5.out.kept hk (fun hf => by have := HGM.out; cases hf; omega))
  have HW5 := Lib.hid (show w.heap.size ≤ w5.heap.size from HK5.out.size)
  have HS6 := Lib.hid (show w5.heap.size ≤ w6.heap.size from hk.size)
  have HK6 := Lib.hid (HK5.out.fresh hk (fun i hi => by have := HG2.out; have := HW2.out; cases hi; omega))
  clear hv hop ho hc hk HB5 HM5 HK5 HC5
  obtain ⟨no, hno⟩ : ∃ m, os.length = m := ⟨_, rfl⟩
  rw [hno] at HOP ⊢
  have HNO := Lib.hid hno
  clear hno
  go_wp2_with (first
    | (refine wpList_st rfl _ (.tmp 12) (.tmp 11) rfl gm 217 rfl [.slice Ao no co] _ rfl rfl infSO 33 (dcs hd nilv nilv) HM6.out (by rw [dcs_len HH.out.ok.s6]; show 217 + 1 ≤ 219; omega) (one_sl _ _ _) ?_; intro w7 hb7 hk7 hz7; simp only [Act.put])
    | fail)
  have HM7 := Lib.hid (show DB w7 gm 33 hd (.slice Ao no co) nilv from DB.set_e _ (.inl ⟨rfl, rfl, rfl⟩) HH.out.ok.s6 hb7)
  have HC7 := Lib.hid (HC6.out.kept hk7 (fun hf => by have := HGM.out; cases hf; omega) (fun j hj hf => by have := HLM.out j hj; cases hf; omega))
  have HB7 := Lib.hid (HB6.out.kept hk7 (fun hf => by have := HGM.out; have := HG2.out; cases hf; omega))
  have HO7 := Lib.hid (HOP.out.kept hk7 (fun i hi hf => by have := HG5.out; cases hf; omega))
  have HS7 := Lib.hid (show w5.heap.size ≤ w7.heap.size by have := HS6.out; omega)
  have HK7 := Lib.hid (HK6.out.fresh hk7 (fun i hi => by have := HGM.out; have := HG2.out; have := HW2.out; cases hi; omega))
  clear hb7 hk7 hz7 HM6 HC6 HB6 HOP HK6
  refine (Rest_yes gc A2 n c2 s2 _ HC7.out (by have := HN.out; omega)).mono ?_
  rintro e w8 ⟨v2, rfl, ho, hc, hk⟩
  have hcs := get_cases HH.out HR.out (by have := HC7.out.le; have := HC7.out.len; omega)
  generalize (takeM s2 (leftM s2)).2 = s3 at *
  generalize (takeM s2 (leftM s2)).1 = r at *
  obtain ⟨A3, c3, rfl, hy, hl⟩ := Byt.of_own ho
  obtain ⟨nb, hnb⟩ : ∃ m, r.length = m := ⟨_, rfl⟩
  rw [hnb] at hy hl ⊢
  have HCS := Lib.hid hcs
  have HY8 := Lib.hid hy
  have HL8 := Lib.hid (show ∀ i, Lies A3 nb i → w5.heap.size ≤ i from fun i hi => Nat.le_trans HS7.out (hl i hi))
  have HC8 := Lib.hid hc
  have HB8 := Lib.hid (HB7.out.kept hk (fun hf => by have := HG2.out; cases hf; omega))
  have HM8 := Lib.hid (HM7.out.kept hk (fun hf => by have := HGM.out; cases hf; omega))
  have HO8 := Lib.hid (HO7.out.kept hk (fun i hi hf => by have := HG5.out; have := HGM.out; cases hf; omega))
  have HK8 := Lib.hid (HK7.out.fresh hk (fun i hi => by have := HG2.out; have := HW2.out; cases hi; omega))
  clear ho hc hk hcs hy hl hnb HB7 HM7 HO7 HK7 HC7 HR
  go_upto_region 5 with (first
    | (refine wpList_st rfl _ (.tmp 15) (.tmp 14) rfl gm 218 rfl [.slice A3 nb c3] _ rfl rfl infSB 33 (dcs hd (.slice Ao no co) nilv) HM8.out (by rw [dcs_len HH.out.ok.s6]; show 218 + 1 ≤ 219; omega) (one_sl _ _ _) ?_; intro w9 hb9 hk9 hz9; simp only [Act.put])
    | fail)
  have HM9 := Lib.hid (show DB w9 gm 33 hd (.slice Ao no co) (.slice A3 nb c3) from DB.set_e _ (.inr ⟨rfl, rfl, rfl⟩) HH.out.ok.s6 hb9)
  have HC9 := Lib.hid (HC8.out.kept hk9 (fun hf => by have := HGM.out; cases hf; omega) (fun j hj hf => by have := HLM.out j hj; cases hf; omega))
  have HB9 := Lib.hid (HB8.out.kept hk9 (fun hf => by have := HGM.out; have := HG2.out; cases hf; omega))
  have HO9 := Lib.hid (HO8.out.kept hk9 (fun i hi hf => by have := HG5.out; cases hf; omega))
  have HY9 := Lib.hid (HY8.out.kept hk9 (fun i hi hf => by have := HG5.out; have := HL8.out i hi; cases hf; omega))
  have HK9 := Lib.hid (HK8.out.fresh hk9 (fun i hi => by have := HGM.out; have := HG2.out; have := HW2.out; cases hi; omega))
  clear hb9 hk9 hz9 HM8 HC8 HB8 HO8 HY8 HK8
  have r0 := HC9.out.c0
  have r3 := HC9.out.c3
  by_cases her : s3.er = 0
  · have HG : Hid (getD l = ({ hd with os := os, bh := r }, 0)) := by
      rcases HCS.out with ⟨h1, _⟩ | ⟨_, h2⟩
      · exact absurd her h1
      · exact h2
    have b1 : (s3.er != 0) = false := by simp [her]
    clear her HCS
    go_wp2_with (first
      | (go_at_call 33; refine (err_yes gc _ _ r0 r3).mono ?_; rintro e w' ⟨rfl, rfl⟩)
      | (refine wpList_ld rfl _ _ rfl gm 0 rfl (dcs hd (.slice Ao no co) (.slice A3 nb c3)) HM9.out.all _ Try.underlying33 rfl (infDh _ HH.out.ok.s6 _ _) ?_; simp only [Act.put, List.setIfInBounds_toArray, List.set_cons_succ, List.set_cons_zero])
      | (refine wpList_st rfl _ (.tmp 2) _ rfl g2 0 rfl (dcs hd (.slice Ao no co) (.slice A3 nb c3)) _ rfl rfl (infDh _ HH.out.ok.s6 _ _) 33 _ HB9.out (by rw [dcs_len HH.out.ok.s6, dcs_len Dh.zero_ok.s6]; decide) (dcs_one rfl rfl) ?_; intro wd hbd hkd hzd; simp only [Act.put])
      | fail)
    have h2 := DB.of_all Dh.zero_ok.s6 HH.out.ok.s6 hbd
    refine bodyPost_ret (res_cell1 Try.results8 rfl rfl h2.all Try.underlying33 rfl (infDh _ HH.out.ok.s6 _ _)) rfl ?_
    have hok := getD_ok l
    rw [HG.out] at hok ⊢
    refine ⟨.slice Ao no co, .slice A3 nb c3, rfl, ⟨hok, ⟨_, _, _, rfl, ?_⟩, ⟨_, _, _, rfl, ?_, ?_⟩⟩, HK9.out.fresh hkd (fun i hi => by have := HW2.out; cases hi; omega)⟩
    · rw [← HNO.out] at HO9 ⊢
      exact (HO9.out.kept hkd (fun i hi hf => by have := HG5.out; have := HGM.out; have := HG2.out; cases hf; omega)).mono (fun i hi => Nat.le_trans HW5.out hi)
    · exact HY9.out.kept hkd (fun i hi hf => by have := HG5.out; have := HGM.out; have := HG2.out; have := HL8.out i hi; cases hf; omega)
    · exact fun i hi => Nat.le_trans HW5.out (HL8.out i hi)
  · have HG : Hid (getD l = (Dh.zero, s3.er)) := by
      rcases HCS.out with ⟨_, h2⟩ | ⟨h1, _⟩
      · exact h2
      · exact absurd h1 her
    have b1 : (s3.er != 0) = true := by simp [her]
    clear her HCS
    go_wp2_with (first
      | (go_at_call 33; refine (err_yes gc _ _ r0 r3).mono ?_; rintro e w' ⟨rfl, rfl⟩)
      | (refine wpList_bd rfl 33 _ rfl #[] rfl (dhv Dh.zero nilv nilv) bd_zero ?_)
      | (refine wpList_st rfl _ (.tmp 2) (.tmp 19) rfl g2 0 rfl (dcs Dh.zero nilv nilv) _ rfl rfl (infDh _ Dh.zero_ok.s6 _ _) 33 _ HB9.out (by rw [dcs_len Dh.zero_ok.s6]; decide) (dcs_one rfl rfl) ?_; intro wd hbd hkd hzd; simp only [Act.put])
      | fail)
    have h2 := DB.of_all Dh.zero_ok.s6 Dh.zero_ok.s6 hbd
    refine bodyPost_ret (res_cell1 Try.results8 rfl rfl h2.all Try.underlying33 rfl (infDh _ Dh.zero_ok.s6 _ _)) rfl ?_
    rw [HG.out]
    exact ⟨nilv, nilv, rfl, DhIn.zero _ _, HK9.out.fresh hkd (fun i hi => by have := HW2.out; cases hi; omega)⟩
end Go.Proofs.Ythjfeanmgaidcaa
