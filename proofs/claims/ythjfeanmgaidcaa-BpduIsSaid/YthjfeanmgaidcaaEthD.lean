/- Package ether: contracts of read, Get, Behind. -/
import Derived.Test.YthjfeanmgaidcaaEthC
import Derived.Test.YthjfeanmgaidcaaMg5
namespace Go.Proofs.Ythjfeanmgaidcaa
open Go.RowKit Go.Sort
set_option linter.unusedVariables false

/-- Tags in memory of the call's own. -/
def NewT (w w' : World) (v : Value) (l : List Tg) : Prop := ∃ A n c, v = .slice A n c ∧ Tags w' A n c l ∧ ∀ i, Lies A n i → w.heap.size ≤ i
theorem NewT.nil (w w' : World) : NewT w w' (.slice none 0 0) [] := ⟨none, 0, 0, rfl, Tags.nil w', fun i hi => absurd hi.1 (by omega)⟩
theorem NewT.kept {w w' w'' : World} {v : Value} {l : List Tg} (h : NewT w w' v l) (k : Kept Nil w' w'') : NewT w w'' v l := by
  obtain ⟨A, n, c, e, hb, hi⟩ := h
  exact ⟨A, n, c, e, hb.kept k (fun _ _ hf => hf), hi⟩
theorem NewT.far {w w' w'' : World} {v : Value} {l : List Tg} {g : Nat} (h : NewT w w' v l) (k : Kept (One g) w' w'') (hg : g < w.heap.size) : NewT w w'' v l := by
  obtain ⟨A, n, c, e, hb, hi⟩ := h
  exact ⟨A, n, c, e, hb.kept k (fun i hx hf => by cases hf; exact Nat.lt_irrefl _ (Nat.lt_of_lt_of_le hg (hi _ hx))), hi⟩
theorem NewT.base {w w1 w' : World} {v : Value} {l : List Tg} (h : NewT w1 w' v l) (hw : w.heap.size ≤ w1.heap.size) : NewT w w' v l := by
  obtain ⟨A, n, c, e, hb, hi⟩ := h
  exact ⟨A, n, c, e, hb, fun i hx => Nat.le_trans hw (hi i hx)⟩
theorem NewT.one {w w' : World} {v : Value} {l : List Tg} (h : NewT w w' v l) : v.oneCell' = true := by
  obtain ⟨A, n, c, rfl, _⟩ := h
  rfl
theorem NewT.cells1 {w w' : World} {v : Value} {l : List Tg} (h : NewT w w' v l) : v.cells = [v].toArray := by
  obtain ⟨A, n, c, rfl, _⟩ := h
  rfl
theorem car_six (b : List UInt8) : (carM b).1.six := by
  unfold carM
  split
  · exact Fr.zero_six
  · split
    · exact ⟨rfl, rfl, rfl, rfl⟩
    · split
      · exact Fr.zero_six
      · split
        · exact Fr.zero_six
        · exact llc_six _ _
/-- A frame told of, what is behind its source, an error; all of its slices are new. -/
def ToldR (w w' : World) (R : Fr × List UInt8 × Int) (v : Value) : Prop :=
  ∃ vt vb vr vx, v = .tuple #[frv R.1 vt vb vr, vx, .int .i64 R.2.2] ∧ NewT w w' vt R.1.t ∧ NewB w w' vb R.1.b ∧ NewB w w' vr R.1.r ∧ NewB w w' vx R.2.1
theorem ToldR.zero (w w' : World) (e : Int) : ToldR w w' (Fr.zero, [], e) (.tuple #[frv Fr.zero nilv nilv nilv, nilv, .int .i64 e]) := ⟨nilv, nilv, nilv, nilv, rfl, NewT.nil _ _, NewB.nil _ _, NewB.nil _ _, NewB.nil _ _⟩
/-- What the cutter comes to: the addresses, and all behind. -/
theorem two_macs (l : List UInt8) (h : 12 ≤ l.length) : takeM ⟨l, 0, 0⟩ 6 = (l.take 6, ⟨l, 6, 0⟩) ∧ takeM ⟨l, 6, 0⟩ 6 = ((l.drop 6).take 6, ⟨l, 12, 0⟩) ∧ takeM ⟨l, 12, 0⟩ (leftM ⟨l, 12, 0⟩) = (l.drop 12, ⟨l, l.length, 0⟩) ∧ macM (l.take 6) = l.take 6 ∧ macM ((l.drop 6).take 6) = (l.drop 6).take 6 := by
  have e1 := takeM_ok l 0 6 (by omega)
  have e2 := takeM_ok l 6 6 (by omega)
  rw [show ((6 : Nat) : Int) = 6 from rfl] at e1 e2
  simp only [List.drop_zero, Nat.zero_add] at e1
  refine ⟨e1, e2, rest_of l 12 h, ?_, ?_⟩
  · unfold macM
    rw [show 6 - (l.take 6).length = 0 by simp; omega]
    simp
  · unfold macM
    rw [show 6 - ((l.drop 6).take 6).length = 0 by simp; omega]
    simp
theorem few_macs (l : List UInt8) (h : l.length < 12) : (takeM (takeM (takeM ⟨l, 0, 0⟩ 6).2 6).2 (leftM (takeM (takeM ⟨l, 0, 0⟩ 6).2 6).2)).2.er = 4 := by
  by_cases h6 : l.length < 6
  · have e1 := takeM_short l 0 6 (by omega) (by omega)
    rw [show ((6 : Nat) : Int) = 6 from rfl] at e1
    rw [e1]
    simp only
    rw [takeM_err l 0 4 (by decide), rest_err _ (by simp)]
  · have e1 := takeM_ok l 0 6 (by omega)
    have e2 := takeM_short l 6 6 (by omega) (by omega)
    rw [show ((6 : Nat) : Int) = 6 from rfl] at e1 e2
    simp only [List.drop_zero, Nat.zero_add] at e1
    rw [e1]
    simp only
    rw [e2, rest_err _ (by simp)]
theorem blo_whole {w : World} {g : Nat} {T : TypeId} {cs l : List Value} (h : Blo w g T (cs.take 0 ++ l ++ cs.drop (0 + l.length)).toArray) (hl : cs.length = l.length) : Blo w g T l.toArray := by
  rw [Nat.zero_add, List.drop_of_length_le (by omega)] at h
  simpa using h
set_option maxRecDepth 100000 in
set_option maxHeartbeats 4000000 in
theorem eread_yes (A : Option Addr) (n c : Nat) (l : List UInt8) (w : World) (h : Byt w A n c l) (hn : n ≤ 140737488355328) :
    Calls Try.prog 51 #[.slice A n c] w fun e w' => ∃ v, e = .returned v ∧ ToldR w w' (getM l) v ∧ Kept Nil w w' := by
  have hF2 := FB.new w 57 Fr.zero nilv nilv nilv
  have hk0 := (Kept.refl Nil w).alloc (.cells (fcs Fr.zero nilv nilv nilv).toArray 57)
  have hb := h.kept hk0 (fun _ _ hf => hf)
  have hln := h.1
  have HF2 := Lib.hid hF2
  have HK0 := Lib.hid hk0
  have HB := Lib.hid hb
  have HLN := Lib.hid hln
  clear hF2 hk0 hb h
  by_cases hlong : 65535 < n
  · have hl' : (65535 : Int) < (n : Int) := by omega
    have HR := Lib.hid (show getM l = (Fr.zero, [], 3) by unfold getM; rw [if_pos (by omega)])
    clear hlong hln
    go_enter Try.func51, Try.ntmps51
    go_wp2_with (refine wpList_st rfl _ _ _ rfl _ 0 rfl (fcs Fr.zero nilv nilv nilv) _ rfl rfl infF 57 _ HF2.out (by rw [fcs_len Fr.zero_six]; omega) (fcs_one rfl rfl rfl) ?_; intro w4 hb4 hk4 hz4)
    have HF44 := Lib.hid (FB.of_all (f' := Fr.zero) Fr.zero_six Fr.zero_six hb4)
    refine bodyPost_ret (res_cell2 Try.results51 rfl rfl rfl HF44.out.all Try.underlying57 rfl infF) rfl ?_
    rw [HR.out]
    exact ⟨_, rfl, ToldR.zero _ _ _, HK0.out.fresh hk4 (fun i hi => by cases hi; exact Nat.le_refl _)⟩
  · have hl' : ¬ (65535 : Int) < (n : Int) := by omega
    have hget : getM l = if l.length < 12 then (Fr.zero, [], 4) else if (readM (l.drop 12)).2.2 ≠ 0 then (Fr.zero, [], (readM (l.drop 12)).2.2) else
      if (carM (readM (l.drop 12)).2.1).2 ≠ 0 then (Fr.zero, [], (carM (readM (l.drop 12)).2.1).2) else
      ({ (carM (readM (l.drop 12)).2.1).1 with d := l.take 6, s := (l.drop 6).take 6, t := (readM (l.drop 12)).1 }, l.drop 12, 0) := by
      rw [getM, if_neg (by omega)]
    have HG1 := Lib.hid hget
    have HLO := Lib.hid hlong
    clear hget hlong hln
    go_enter Try.func51, Try.ntmps51
    go_wp2_with fail
    refine (new_yes _ _ _ _ _ HB.out hn).mono ?_
    rintro e w1 ⟨g, A1, c1, rfl, hc, hk, hg, hi⟩
    have HC1 := Lib.hid hc
    have HK1 := Lib.hid (HK0.out.then hk)
    have HF21 := Lib.hid (HF2.out.kept hk (fun hf => hf))
    have HG := Lib.hid (show w.heap.size ≠ g by simp at hg; omega)
    have HGL := Lib.hid (show w.heap.size ≤ g by simp at hg; omega)
    clear hc hk hg hi HF2 HK0 HB
    go_wp2_with fail
    refine (Mac_yes _ _ _ _ _ _ HC1.out).mono ?_
    rintro e w2 ⟨rfl, hc, hk⟩
    have hm1 : (macM (takeM ⟨l, 0, 0⟩ 6).1).length = 6 := macM_len _ (takeM_len2 _ 6)
    have HC2 := Lib.hid hc
    have HK2 := Lib.hid (HK1.out.fresh hk (fun i hi => by cases hi; exact HGL.out))
    have HF22 := Lib.hid (HF21.out.kept hk (fun hf => HG.out hf))
    have HM1 := Lib.hid hm1
    clear hc hk HC1 HK1 HF21 hm1
    go_wp2_with fail
    refine (Mac_yes _ _ _ _ _ _ HC2.out).mono ?_
    rintro e w3 ⟨rfl, hc, hk⟩
    have hm2 : (macM (takeM (takeM ⟨l, 0, 0⟩ 6).2 6).1).length = 6 := macM_len _ (takeM_len2 _ 6)
    have HC3 := Lib.hid hc
    have HK3 := Lib.hid (HK2.out.fresh hk (fun i hi => by cases hi; exact HGL.out))
    have HF23 := Lib.hid (HF22.out.kept hk (fun hf => HG.out hf))
    have HM2 := Lib.hid hm2
    clear hc hk HC2 HK2 HF22 hm2
    go_wp2_with fail
    refine (Rest_yes _ _ _ _ _ _ HC3.out hn).mono ?_
    rintro e w4 ⟨vx, rfl, ho, hc, hk⟩
    have HO4 := Lib.hid (NewB.of_own (w0 := w3) ho (Nat.le_refl _))
    have HC4 := Lib.hid hc
    have HK4 := Lib.hid (HK3.out.fresh hk (fun i hi => by cases hi; exact HGL.out))
    have HF24 := Lib.hid (HF23.out.kept hk (fun hf => HG.out hf))
    have HS3 := Lib.hid HK3.out.size
    have HL3 := Lib.hid HF23.out.lt
    clear hc hk ho HC3 HK3 HF23
    obtain ⟨m1, hm1e⟩ : ∃ m, macM (takeM ⟨l, 0, 0⟩ 6).1 = m := ⟨_, rfl⟩
    obtain ⟨m2, hm2e⟩ : ∃ m, macM (takeM (takeM ⟨l, 0, 0⟩ 6).2 6).1 = m := ⟨_, rfl⟩
    rw [hm1e] at HM1 ⊢
    rw [hm2e] at HM2 ⊢
    have HE1 := Lib.hid hm1e
    have HE2 := Lib.hid hm2e
    have hB6 : Blo ((w4.alloc (.cells (bys z6).toArray 26)).alloc (.cells (bys z6).toArray 26)) w4.heap.size 26 (bys z6).toArray := (Blo.new w4 26 (bys z6).toArray).alloc _
    have hB7 : Blo ((w4.alloc (.cells (bys z6).toArray 26)).alloc (.cells (bys z6).toArray 26)) (w4.heap.size + 1) 26 (bys z6).toArray := Blo.at_new (by simp)
    have hk45 : Kept Nil w4 ((w4.alloc (.cells (bys z6).toArray 26)).alloc (.cells (bys z6).toArray 26)) := ((Kept.refl Nil w4).alloc _).alloc _
    have HB6 := Lib.hid hB6
    have HB7 := Lib.hid hB7
    have HK45 := Lib.hid hk45
    clear hB6 hB7 hk45 hm1e hm2e
    go_wp2_with (first
      | (refine wpList_st rfl _ _ _ rfl _ 0 rfl (bys m1) _ rfl rfl (by rw [bys_len, HM1.out]; exact infm) 26 _ HB6.out (by simp only [bys_len, HM1.out]; decide) (bys_one m1) ?_; intro w5 hb5 hk5 hz5; have HB75 := Lib.hid (HB7.out.kept hk5 (fun hf => Nat.succ_ne_self _ hf)))
      | (refine wpList_st rfl _ _ _ rfl _ 0 rfl (bys m2) _ rfl rfl (by rw [bys_len, HM2.out]; exact infm) 26 _ HB75.out (by simp only [bys_len, HM2.out]; decide) (bys_one m2) ?_; intro w6 hb6 hk6 hz6))
    have hks : Kept (fun i => w4.heap.size ≤ i) w4 w6 := (HK45.out.fresh (F' := One w4.heap.size) hk5 (fun i hi => by cases hi; exact Nat.le_refl _)).mono (F' := fun i => w4.heap.size ≤ i) (fun i hi hf => hf.elim) |>.trans (hk6.mono (F' := fun i => w4.heap.size ≤ i) (fun i _ hf => by cases hf; exact Nat.le_succ _)) (fun i hi hf => hf)
    have hk46 : Kept Nil w4 w6 := hks.mono (fun i hi hf => absurd hf (Nat.not_le.2 hi))
    have HB66 := Lib.hid (Blo.kept (blo_whole hb5 (by simp [bys_len, HM1.out, z6])) hk6 (fun hf => Nat.succ_ne_self _ hf.symm))
    have HB76 := Lib.hid (blo_whole hb6 (by simp [bys_len, HM2.out, z6]))
    have HC6 := Lib.hid (HC4.out.kept hk46 (fun hf => hf) (fun _ _ hf => hf))
    have HF26 := Lib.hid (HF24.out.kept hk46 (fun hf => hf))
    have HO6 := Lib.hid (HO4.out.kept hk46)
    have HK6 := Lib.hid (HK4.out.then hk46)
    have hg6 : w.heap.size < w4.heap.size := HF24.out.lt
    generalize w4.heap.size = g6 at *
    have HG6 := Lib.hid hg6
    have hlast : (takeM (takeM (takeM ⟨l, 0, 0⟩ 6).2 6).2 (leftM (takeM (takeM ⟨l, 0, 0⟩ 6).2 6).2)).2.er = if l.length < 12 then 4 else 0 := by
      by_cases h12 : l.length < 12
      · rw [if_pos h12, few_macs l h12]
      · obtain ⟨t1, t2, t3, _, _⟩ := two_macs l (by omega)
        rw [if_neg h12, t1]
        simp only
        rw [t2]
        simp only
        rw [t3]
    have hxx : 12 ≤ l.length → m1 = l.take 6 ∧ m2 = (l.drop 6).take 6 ∧ (takeM (takeM (takeM ⟨l, 0, 0⟩ 6).2 6).2 (leftM (takeM (takeM ⟨l, 0, 0⟩ 6).2 6).2)).1 = l.drop 12 := by
      intro h12
      obtain ⟨t1, t2, t3, t4, t5⟩ := two_macs l h12
      rw [← HE1.out, ← HE2.out, t1]
      simp only
      rw [t2]
      simp only
      rw [t3]
      exact ⟨t4, t5, rfl⟩
    generalize (takeM (takeM (takeM ⟨l, 0, 0⟩ 6).2 6).2 (leftM (takeM (takeM ⟨l, 0, 0⟩ 6).2 6).2)) = S at *
    have HXX := Lib.hid hxx
    clear hks hk46 hk5 hk6 hb5 hb6 hz5 hz6 hg6 HB6 HB7 HK45 HB75 HC4 HF24 HO4 HK4 HE1 HE2 hxx
    refine (err_yes _ _ _ HC6.out.c0 HC6.out.c3).mono ?_
    rintro e w7 ⟨rfl, rfl⟩
    by_cases h12 : l.length < 12
    · rw [if_pos h12] at hlast
      have e3 := HC6.out.c3
      rw [hlast] at e3 ⊢
      have E3 := Lib.hid e3
      have HR := Lib.hid (by have := HG1.out; rw [if_pos h12] at this; exact this)
      clear h12 hlast e3
      go_wp2_with fail
      refine (err_yes _ _ _ HC6.out.c0 E3.out).mono ?_
      rintro e w7 ⟨rfl, rfl⟩
      go_wp2_with (refine wpList_st rfl _ _ _ rfl _ 0 rfl (fcs Fr.zero nilv nilv nilv) _ rfl rfl infF 57 _ HF26.out (by rw [fcs_len Fr.zero_six]; omega) (fcs_one rfl rfl rfl) ?_; intro w8 hb8 hk8 hz8)
      have HF28 := Lib.hid (FB.of_all (f' := Fr.zero) Fr.zero_six Fr.zero_six hb8)
      refine bodyPost_ret (res_cell2 Try.results51 rfl rfl rfl HF28.out.all Try.underlying57 rfl infF) rfl ?_
      rw [HR.out]
      exact ⟨_, rfl, ToldR.zero _ _ _, HK6.out.fresh hk8 (fun i hi => by cases hi; exact Nat.le_refl _)⟩
    · rw [if_neg h12] at hlast
      rw [hlast]
      obtain ⟨rfl, rfl, hs1⟩ := HXX.out (by omega)
      have hox := HO6.out
      rw [hs1] at hox
      obtain ⟨Ax, nx, cx, rfl, hyx, hix⟩ := hox
      have hnx : nx ≤ 140737488355328 := by have := hyx.1; simp at this; have := HLN.out; omega
      have HG2 := Lib.hid (by have := HG1.out; rw [if_neg h12] at this; exact this)
      generalize hm1g : l.take 6 = m1 at *
      generalize hm2g : (l.drop 6).take 6 = m2 at *
      generalize hxg : l.drop 12 = x at *
      have HYX := Lib.hid hyx
      have HIX := Lib.hid hix
      have HNX := Lib.hid hnx
      clear hlast hs1 h12 hyx hix hnx hm1g hm2g hxg HXX HO6 HG1
      go_wp2_with fail
      refine (read_yes _ _ _ _ _ HYX.out HNX.out).mono ?_
      rintro e w7 ⟨v1, v2, rfl, hm⟩
      have HX7 := Lib.hid (show NewB w3 w7 (.slice Ax nx cx) x from ⟨_, _, _, rfl, HYX.out.kept hm.kept (fun _ _ hf => hf), HIX.out⟩)
      have HC7 := Lib.hid (HC6.out.kept hm.kept (fun hf => hf) (fun _ _ hf => hf))
      have HF27 := Lib.hid (HF26.out.kept hm.kept (fun hf => hf))
      have HB67 := Lib.hid (HB66.out.kept hm.kept (fun hf => hf))
      have HB77 := Lib.hid (HB76.out.kept hm.kept (fun hf => hf))
      have HK7 := Lib.hid (HK6.out.then hm.kept)
      have HL6 := Lib.hid HF26.out.lt
      have HS6 := Lib.hid HK6.out.size
      have HL7 := Lib.hid HF27.out.lt
      have HS7 := Lib.hid HK7.out.size
      obtain ⟨At, ct, rfl, htt, hti⟩ := Tags.of_own hm.tags hm.ok
      obtain ⟨Ar, cr, rfl, hyr, hri⟩ := Byt.of_own hm.rest
      have hrl : (readM x).2.1.length ≤ 140737488355328 := by
        rcases readM_back x with ⟨_, _, h⟩ | ⟨_, _, h⟩
        · rw [h]; simp
        · have h1 := congrArg List.length h
          rw [List.length_append] at h1
          have := HYX.out.1
          have := HNX.out
          omega
      have HT7 := Lib.hid (show NewT w6 w7 (.slice At (readM x).1.length ct) (readM x).1 from ⟨_, _, _, rfl, htt, hti⟩)
      have HYR := Lib.hid hyr
      have HRL := Lib.hid hrl
      clear hm htt hti hyr hri hrl HC6 HF26 HB66 HB76 HYX
      generalize readM x = R at *
      obtain ⟨ts, rb, er⟩ := R
      simp only at HT7 HYR HRL HG2 ⊢
      by_cases he : er = 0
      · subst he
        have HG3 := Lib.hid (by have := HG2.out; rw [if_neg (by simp)] at this; exact this)
        clear HG2
        go_wp2_with fail
        refine (carried_yes _ _ _ _ _ HYR.out HRL.out).mono ?_
        rintro e w8 ⟨v8, rfl, ⟨vb, vr, rfl, hnb, hnr⟩, hk⟩
        have HX8 := Lib.hid (HX7.out.kept hk)
        have HT8 := Lib.hid (HT7.out.kept hk)
        have HF28 := Lib.hid (HF27.out.kept hk (fun hf => hf))
        have HB68 := Lib.hid (HB67.out.kept hk (fun hf => hf))
        have HB78 := Lib.hid (HB77.out.kept hk (fun hf => hf))
        have HK8 := Lib.hid (HK7.out.then hk)
        have hsix := car_six rb
        generalize carM rb = C at *
        obtain ⟨F, er⟩ := C
        simp only at hnb hnr hsix HG3 ⊢
        have HNB := Lib.hid hnb
        have HNR := Lib.hid hnr
        have HSIX := Lib.hid hsix
        have HFN := Lib.hid (FB.new w8 57 Fr.zero nilv nilv nilv)
        clear hnb hnr hk hsix HX7 HT7 HF27 HB67 HB77 HC7 HYR
        by_cases hce : er = 0
        · subst hce
          have HG4 := Lib.hid (by have := HG3.out; rw [if_neg (by simp)] at this; exact this)
          clear HG3
          go_wp2_with (refine wpList_st rfl _ _ _ rfl _ 0 rfl (fcs F nilv vb vr) _ rfl rfl (by rw [fcs_len HSIX.out]; exact infF) 57 _ HFN.out (by rw [fcs_len Fr.zero_six, fcs_len HSIX.out]; omega) (fcs_one rfl HNB.out.one HNR.out.one) ?_; intro w9 hb9 hk9 hz9)
          have hk89 : Kept Nil w8 w9 := ((Kept.refl Nil w8).alloc _).fresh hk9 (fun i hi => by cases hi; exact Nat.le_refl _)
          have HF129 := Lib.hid (FB.of_all (f' := F) Fr.zero_six HSIX.out hb9)
          have HK89 := Lib.hid hk89
          have HB69 := Lib.hid (Blo.row [] (bys m1) [] (by simpa using HB68.out.kept hk89 (fun hf => hf)))
          have HB79 := Lib.hid (Blo.row [] (bys m2) [] (by simpa using HB78.out.kept hk89 (fun hf => hf)))
          have HN6 := Lib.hid (show g6 ≠ w8.heap.size by have := HB68.out.lt; omega)
          have HN7 := Lib.hid (show g6 + 1 ≠ w8.heap.size by have := HB78.out.lt; omega)
          clear hk89 hk9 hb9 hz9 HB68 HB78 HFN
          refine wp_region_acts (One w8.heap.size) [4, 6, 8] (fun i vl => (#[], 0)) (fun i => undef) (stI w8.heap.size 57 (fun i => if i = 0 then fcs F nilv vb vr else if i = 1 then fcs { F with d := m1 } nilv vb vr else if i = 2 then fcs { F with d := m1, s := m2 } nilv vb vr else fcs { F with d := m1, s := m2, t := ts } (.slice At ts.length ct) vb vr)) (fun i v => v = undef) 9 (by kernel_rfl) (by kernel_rfl) (stI_keeps _ _ _) ⟨HF129.out, fun _ h => h.elim⟩ ?_
          simp only [List.take_succ_cons, List.take_zero, List.drop_succ_cons, List.drop_zero]
          refine tLex_quiets 4 rfl (by kernel_rfl) ?_
          simp only [List.take_succ_cons, List.take_zero, List.drop_succ_cons, List.drop_zero]
          apply Exists.intro
          refine ⟨?hq, ?hv, ?ht⟩
          case hq =>
            intro V hV
            refine wpQuiet_ld rfl _ _ rfl g6 0 rfl (bys m1) (fun w hw => row_grown (HB69.out.kept hV (fun hf => HN6.out hf)) hw) _ Try.underlying26 rfl (by rw [bys_len, HM1.out]; exact infm) ?_
            refine wpQuiet_ld rfl _ _ rfl (g6 + 1) 0 rfl (bys m2) (fun w hw => row_grown (HB79.out.kept hV (fun hf => HN7.out hf)) hw) _ Try.underlying26 rfl (by rw [bys_len, HM2.out]; exact infm) ?_
            clear hV
            simp only [Act.put, List.setIfInBounds_toArray, List.set_cons_succ, List.set_cons_zero]
            repeat (go_big_quiet_step (fail))
            exact wpQuiet_nil rfl
          case hv => exact ⟨trivial, trivial, trivial, trivial, trivial⟩
          case ht =>
            refine tLex_st rfl 0 _ _ _ rfl rfl rfl rfl 0 rfl rfl (bys m1) _ rfl rfl (by rw [bys_len, HM1.out]; exact infm) (by simp only [if_pos, bys_len, HM1.out, fcs_len HSIX.out]; decide) (bys_one m1) (fcs_set_d m1 HM1.out HSIX.out) (fun v hv => hv) ?_
            simp only [Act.put]
            refine tLex_quiets 1 rfl (by kernel_rfl) ?_
            simp only [List.take_succ_cons, List.take_zero, List.drop_succ_cons, List.drop_zero]
            apply Exists.intro
            refine ⟨?hq1, ?hv1, ?ht1⟩
            case hq1 =>
              intro V hV
              clear hV
              repeat (go_big_quiet_step (fail))
              exact wpQuiet_nil rfl
            case hv1 => exact ⟨trivial, trivial⟩
            case ht1 =>
              refine tLex_st rfl 6 _ _ _ rfl rfl rfl rfl 1 rfl rfl (bys m2) _ rfl rfl (by rw [bys_len, HM2.out]; exact infm) (by show 6 + (bys m2).length ≤ (fcs { F with d := m1 } nilv vb vr).length; rw [bys_len, HM2.out, fcs_len (f := { F with d := m1 }) ⟨HM1.out, HSIX.out.s, HSIX.out.l, HSIX.out.o⟩]; decide) (bys_one m2) (fcs_set_s (f := { F with d := m1 }) m2 HM2.out ⟨HM1.out, HSIX.out.s, HSIX.out.l, HSIX.out.o⟩) (fun v hv => hv) ?_
              simp only [Act.put]
              refine tLex_quiets 1 rfl (by kernel_rfl) ?_
              simp only [List.take_succ_cons, List.take_zero, List.drop_succ_cons, List.drop_zero]
              apply Exists.intro
              refine ⟨?hq2, ?hv2, ?ht2⟩
              case hq2 =>
                intro V hV
                clear hV
                repeat (go_big_quiet_step (fail))
                exact wpQuiet_nil rfl
              case hv2 => exact ⟨trivial, trivial⟩
              case ht2 =>
                refine tLex_st rfl 12 _ _ _ rfl rfl rfl rfl 2 rfl rfl [.slice At ts.length ct] _ rfl rfl infSt (by show 12 + 1 ≤ (fcs { F with d := m1, s := m2 } nilv vb vr).length; rw [fcs_len (f := { F with d := m1, s := m2 }) ⟨HM1.out, HM2.out, HSIX.out.l, HSIX.out.o⟩]; decide) (by intro u hu; simp at hu; subst hu; rfl) (fcs_set_t (f := { F with d := m1, s := m2 }) (.slice At ts.length ct) ⟨HM1.out, HM2.out, HSIX.out.l, HSIX.out.o⟩) (fun v hv => hv) ?_
                simp only [Act.put]
                intro w10 hs
                have HF1210 := Lib.hid (show FB w10 w8.heap.size 57 { F with d := m1, s := m2, t := ts } (.slice At ts.length ct) vb vr from hs.know.1)
                have hk := HK89.out.fresh hs.kept (fun i hi => by cases hi; exact Nat.le_refl _)
                have HF210 := Lib.hid (HF28.out.kept hk (fun hf => hf))
                have HNB10 := Lib.hid (HNB.out.kept hk)
                have HNR10 := Lib.hid (HNR.out.kept hk)
                have HX10 := Lib.hid (HX8.out.kept hk)
                have HT10 := Lib.hid (HT8.out.kept hk)
                have HK10 := Lib.hid (HK8.out.then hk)
                have HSX := Lib.hid (show Fr.six { F with d := m1, s := m2, t := ts } from ⟨HM1.out, HM2.out, HSIX.out.l, HSIX.out.o⟩)
                clear hs hk HX8 HT8 HF28 HK8 HK89 HB69 HB79
                go_wp2_with (first
                  | (refine wpList_ld rfl _ _ rfl _ 0 rfl _ HF1210.out.all _ Try.underlying57 rfl (by rw [fcs_len HSX.out]; exact infF) ?_)
                  | (refine wpList_st rfl _ (.tmp 2) _ rfl _ 0 rfl (fcs { F with d := m1, s := m2, t := ts } (.slice At ts.length ct) vb vr) _ rfl rfl (by rw [fcs_len HSX.out]; exact infF) 57 _ HF210.out (by rw [fcs_len Fr.zero_six, fcs_len HSX.out]; omega) (fcs_one rfl HNB10.out.one HNR10.out.one) ?_; intro w11 hb11 hk11 hz11))
                have HF211 := Lib.hid (FB.of_all (f' := { F with d := m1, s := m2, t := ts }) Fr.zero_six HSX.out hb11)
                refine bodyPost_ret (res_cell2 Try.results51 rfl rfl rfl HF211.out.all Try.underlying57 rfl (by rw [fcs_len HSX.out]; exact infF)) rfl ?_
                rw [HG4.out]
                exact ⟨_, rfl, ⟨_, vb, vr, _, rfl, (HT10.out.far hk11 HL6.out).base HS6.out, (HNB10.out.far hk11 HL7.out).base HS7.out, (HNR10.out.far hk11 HL7.out).base HS7.out, (HX10.out.far hk11 HL3.out).base HS3.out⟩, HK10.out.fresh hk11 (fun i hi => by cases hi; exact Nat.le_refl _)⟩
        · have HG4 := Lib.hid (by have := HG3.out; rw [if_pos hce] at this; exact this)
          clear HG3
          go_wp2_with (first
            | (refine wpList_st rfl _ (.tmp 12) _ rfl _ 0 rfl (fcs F nilv vb vr) _ rfl rfl (by rw [fcs_len HSIX.out]; exact infF) 57 _ HFN.out (by rw [fcs_len Fr.zero_six, fcs_len HSIX.out]; omega) (fcs_one rfl HNB.out.one HNR.out.one) ?_; intro w9 hb9 hk9 hz9; have HF29 := Lib.hid (HF28.out.kept (((Kept.refl Nil w8).alloc _).fresh hk9 (fun i hi => by cases hi; exact Nat.le_refl _)) (fun hf => hf)))
            | (refine wpList_st rfl _ (.tmp 2) _ rfl _ 0 rfl (fcs Fr.zero nilv nilv nilv) _ rfl rfl infF 57 _ HF29.out (by rw [fcs_len Fr.zero_six]; omega) (fcs_one rfl rfl rfl) ?_; intro w10 hb10 hk10 hz10))
          have HF210 := Lib.hid (FB.of_all (f' := Fr.zero) Fr.zero_six Fr.zero_six hb10)
          refine bodyPost_ret (res_cell2 Try.results51 rfl rfl rfl HF210.out.all Try.underlying57 rfl infF) rfl ?_
          rw [HG4.out]
          exact ⟨_, rfl, ToldR.zero _ _ _, ((HK8.out.alloc _).fresh hk9 (fun i hi => by cases hi; exact HK8.out.size)).fresh hk10 (fun i hi => by cases hi; exact Nat.le_refl _)⟩
      · have HG3 := Lib.hid (by have := HG2.out; rw [if_pos he] at this; exact this)
        clear HG2
        go_wp2_with (refine wpList_st rfl _ _ _ rfl _ 0 rfl (fcs Fr.zero nilv nilv nilv) _ rfl rfl infF 57 _ HF27.out (by rw [fcs_len Fr.zero_six]; omega) (fcs_one rfl rfl rfl) ?_; intro w8 hb8 hk8 hz8)
        have HF28 := Lib.hid (FB.of_all (f' := Fr.zero) Fr.zero_six Fr.zero_six hb8)
        refine bodyPost_ret (res_cell2 Try.results51 rfl rfl rfl HF28.out.all Try.underlying57 rfl infF) rfl ?_
        rw [HG3.out]
        exact ⟨_, rfl, ToldR.zero _ _ _, HK7.out.fresh hk8 (fun i hi => by cases hi; exact Nat.le_refl _)⟩
end Go.Proofs.Ythjfeanmgaidcaa
