/- Package arp: contracts of takeAhead and Get. -/
import Derived.Test.YtddpdopccejmbaaArpB
import Derived.Test.YtddpdopccejmbaaCutD
import Derived.Test.YtddpdopccejmbaaEthT
namespace Go.Proofs.Ytddpdopccejmbaa
open Go.RowKit Go.Sort
set_option linter.unusedVariables false

theorem ta_aux (w : World) (g : Nat) (A : Option Addr) (n c : Nat) (s : Cst) (A' : Option Addr) (m c' : Nat) (w0 w1 : World) (hb : Byt w1 A' m c' (takeM s 6).1) (hc : Cutr w1 g A n c (takeM s 6).2)
    (hk : Kept (One g) w0 w1) (hw0 : ∃ q, w0 = ((w.alloc (.cells (bys o6).toArray 22)).alloc (.cells (bys o6).toArray 22)).drewN q) (hg : g < w.heap.size) :
    Hid (Blo w1 w.heap.size 22 (bys o6).toArray) ∧ Hid (Blo w1 (w.heap.size + 1) 22 (bys o6).toArray) ∧ Hid (Cutr w1 g A n c (takeM s 6).2) ∧ Hid (Kept (One g) w w1) ∧
    ∃ l, Hid ((takeM s 6).1 = l) ∧ Hid ((bys l).length = Nat.min m 6) ∧
      Hid (0 < (bys l).length → some (⟨w.heap.size + 1, 0, none⟩ : Addr) = some ⟨w.heap.size + 1, 0, none⟩ ∧ ∃ ad, A' = some ad ∧ ∀ j v, (bys l)[j]? = some v → w1.cell? (ad.add j) = some v) ∧
      Hid (0 + (bys l).length ≤ (bys o6).length) := by
  obtain ⟨q, rfl⟩ := hw0
  have h6 : (takeM s 6).1.length ≤ 6 := takeM_len2 s 6
  refine ⟨?_, ?_, hc, ?_, (takeM s 6).1, rfl, ?_, ?_, ?_⟩
  · exact (((Blo.new w _ _).alloc _).heap (w' := World.drewN _ q) rfl).kept hk (by unfold One; omega)
  · have := ((Blo.new (w.alloc (.cells (bys o6).toArray 22)) 22 (bys o6).toArray).heap (w' := World.drewN _ q) rfl).kept hk (by unfold One; simp; omega)
    rw [World.size_alloc] at this
    exact this
  · exact ((((Kept.refl (One g) w).alloc _).alloc _).drewN q).same hk
  · show (bys (takeM s 6).1).length = Nat.min m 6
    rw [bys_len, hb.1]
    have := hb.1
    simp only [Nat.min_def]
    split <;> omega
  · show 0 < (bys (takeM s 6).1).length → _
    intro h0
    refine ⟨rfl, ?_⟩
    obtain ⟨b, o, rfl, _⟩ := hb.at (i := 0) (by rw [bys_len] at h0; exact h0)
    exact ⟨_, rfl, hb.news⟩
  · show 0 + (bys (takeM s 6).1).length ≤ _
    rw [bys_len, bys_len]
    simpa [o6] using h6
theorem o6_splice (l : List UInt8) (h : l.length ≤ 6) : splice (bys o6) 0 (bys l) = bys (macM l) := mac_splice l h
set_option maxRecDepth 100000 in
theorem ta_yes (g : Nat) (A : Option Addr) (n c : Nat) (s : Cst) (w : World) (h : Cutr w g A n c s) (hn : n ≤ 140737488355328) :
    Calls Try.prog 43 #[.pointer (some ⟨g, 0, none⟩)] w fun e w' =>
      e = .returned (.agg (bys (macM (takeM s 6).1)).toArray) ∧ Cutr w' g A n c (takeM s 6).2 ∧ Kept (One g) w w' := by
  have h2 := (h.kept ((Kept.refl Nil w).alloc (.cells #[.int .u8 0, .int .u8 0, .int .u8 0, .int .u8 0, .int .u8 0, .int .u8 0] 22)) (fun hf => hf) (fun _ _ hf => hf))
  have h3 := (h2.kept ((Kept.refl Nil _).alloc (.cells #[.int .u8 0, .int .u8 0, .int .u8 0, .int .u8 0, .int .u8 0, .int .u8 0] 22)) (fun hf => hf) (fun _ _ hf => hf))
  have H3 := Lib.hid h3
  have HG0 := Lib.hid h.blo.lt
  clear h2 h3
  go_enter Try.func43, Try.ntmps43
  go_wp2_with fail
  go_region_law (first
    | (refine step_copy_splice rfl (.tmp 4) (.tmp 6) 26 26 rfl 5 Try.underlying26 sz5 _ A' 6 6 m c' rfl rfl (w.heap.size + 1) 0 (bys o6) 22 HB3.out (bys l) HM.out HP.out HF.out (bys_one l) (w.heap.size + 1) w1 (Below.refl _ _) (by simp) ?_; intro w2 hw2 hb2)
    | (go_simp; go_at_call 64; refine (Take_yes g A n c s 6 _ (by exact H3.out.heap rfl) (by omega) hn).mono ?_; rintro e w1 ⟨v1, rfl, ho, hc, hk⟩; obtain ⟨A', c', rfl, hb, _⟩ := Byt.of_own ho; obtain ⟨m, hm⟩ : ∃ m, (takeM s 6).1.length = m := ⟨_, rfl⟩; rw [hm] at hb ⊢; obtain ⟨HB2, HB3, HC, HK, l, HG, HM, HP, HF⟩ := ta_aux w g A n c s A' m c' _ w1 hb hc hk ⟨1, rfl⟩ HG0.out; clear hb hc hk ho hm))
  have h6 : l.length ≤ 6 := by have := HG.out; rw [← this]; exact takeM_len2 s 6
  have hm2 := hw2.out
  rw [o6_splice l h6] at hm2
  have hB2 : Blo w2 (w.heap.size + 1) 22 (bys (macM l)).toArray := hm2
  have hB1 : Blo w2 w.heap.size 22 (bys o6).toArray := (hb2.block _ (by omega)).trans HB2.out
  have HB := Lib.hid hB1
  have HE := Lib.hid hb2
  have HR := Lib.hid (Blo.row [] (bys (macM l)) [] (by simpa using hB2))
  have H6 := Lib.hid (macM_len l h6)
  clear hB1 hB2 hm2 hw2 hb2 h6
  go_wp2_with (first
    | (refine wpList_ld rfl _ _ rfl (w.heap.size + 1) 0 rfl (bys (macM l)) HR.out _ Try.underlying22 rfl (infN _ H6.out) ?_)
    | (refine wpList_st rfl _ (.tmp 2) _ rfl _ 0 rfl (bys (macM l)) _ rfl rfl (infN _ H6.out) 22 (bys o6) HB.out (by rw [bys_len, bys_len, H6.out]; decide) (bys_one _) ?_; intro w3 hb3 hk3 hz3))
  have h1 : Blo w3 w.heap.size 22 (bys (macM l)).toArray := by
    rw [bys_len, H6.out, List.drop_of_length_le (by rw [bys_len]; decide)] at hb3
    simpa using hb3
  have K2 : Kept (fun k => w.heap.size ≤ k) w1 w2 := (Kept.of_below' HE.out).mono fun i _ hi => Nat.le_of_succ_le hi
  have K3 : Kept (fun k => w.heap.size ≤ k) w1 w3 := K2.same (hk3.mono fun i _ hi => by cases hi; exact Nat.le_refl _)
  refine bodyPost_ret (res_cell0 Try.results43 rfl (Blo.row [] (bys (macM l)) [] (by simpa using h1)) Try.underlying22 rfl (infN _ H6.out)) rfl ⟨?_, ?_, ?_⟩
  · rw [HG.out]
  · exact HC.out.kept K3 (by have := HG0.out; omega) (fun i hi => by have := h.byt.lt i hi; omega)
  · exact HK.out.fresh K3 (fun i hi => hi)

/-- What Get answers. -/
def getP (b : List UInt8) : Pk × Int :=
  if b.length < 28 then (Pk.zero, 4) else
  if b.take 6 = headL ∧ mayP ⟨numM ((b.drop 6).take 2), (b.drop 8).take 6, numM ((b.drop 14).take 4), (b.drop 18).take 6, numM ((b.drop 24).take 4)⟩ = true then
    (⟨numM ((b.drop 6).take 2), (b.drop 8).take 6, numM ((b.drop 14).take 4), (b.drop 18).take 6, numM ((b.drop 24).take 4)⟩, 0)
  else (Pk.zero, 5)
theorem numM_le {l : List UInt8} {n : Nat} (h : l.length ≤ n) : numM l < 256 ^ n := Nat.lt_of_lt_of_le (numM_lt l) (Nat.pow_le_pow_right (by decide) h)
theorem got_ok (b : List UInt8) (h : 28 ≤ b.length) : (⟨numM ((b.drop 6).take 2), (b.drop 8).take 6, numM ((b.drop 14).take 4), (b.drop 18).take 6, numM ((b.drop 24).take 4)⟩ : Pk).ok :=
  ⟨numM_le (n := 2) (by simp; omega), by simp; omega, numM_le (n := 4) (by simp; omega), by simp; omega, numM_le (n := 4) (by simp; omega)⟩
theorem getP_ok (b : List UInt8) : (getP b).1.ok := by
  unfold getP
  split
  · exact Pk.zero_ok
  · rename_i h
    split
    · exact got_ok b (by omega)
    · exact Pk.zero_ok
theorem macM_full (l : List UInt8) (h : l.length = 6) : macM l = l := by unfold macM; rw [h]; simp
/-- What the calls of Get take. -/
theorem got_chain (b : List UInt8) {s1 s2 s3 s4 s5 s6 : Cst} {F G H : List UInt8} {o x y : Nat} (h1 : (takeM ⟨b, 0, 0⟩ 6).2 = s1) (h2 : (takeM s1 2).2 = s2) (h3 : (takeM s2 6).2 = s3) (h4 : (takeM s3 4).2 = s4) (h5 : (takeM s4 6).2 = s5) (h6 : (takeM s5 4).2 = s6)
    (hF : macM (takeM ⟨b, 0, 0⟩ 6).1 = F) (ho : numM (takeM s1 2).1 = o) (hG : macM (takeM s2 6).1 = G) (hx : numM (takeM s3 4).1 = x) (hH : macM (takeM s4 6).1 = H) (hy : numM (takeM s5 4).1 = y) :
    (28 ≤ b.length ∧ s6.er = 0 ∧ F = b.take 6 ∧ (⟨o, G, x, H, y⟩ : Pk) = ⟨numM ((b.drop 6).take 2), (b.drop 8).take 6, numM ((b.drop 14).take 4), (b.drop 18).take 6, numM ((b.drop 24).take 4)⟩) ∨ (b.length < 28 ∧ s6.er = 4) := by
  rcases Nat.lt_or_ge b.length 28 with hb | hb
  · refine .inr ⟨hb, ?_⟩
    have k1 := (took_start b).next 6
    rw [show (takeM ⟨b, 0, 0⟩ ((6 : Nat) : Int)).2 = s1 from h1] at k1
    have k2 := k1.next 2
    rw [show (takeM s1 ((2 : Nat) : Int)).2 = s2 from h2] at k2
    have k3 := k2.next 6
    rw [show (takeM s2 ((6 : Nat) : Int)).2 = s3 from h3] at k3
    have k4 := k3.next 4
    rw [show (takeM s3 ((4 : Nat) : Int)).2 = s4 from h4] at k4
    have k5 := k4.next 6
    rw [show (takeM s4 ((6 : Nat) : Int)).2 = s5 from h5] at k5
    have k6 := k5.next 4
    rw [show (takeM s5 ((4 : Nat) : Int)).2 = s6 from h6] at k6
    exact k6.done (by omega)
  · refine .inl ?_
    have e1 : takeM ⟨b, 0, 0⟩ 6 = _ := takeM_ok b 0 6 (by omega)
    rw [e1] at h1 hF
    subst h1
    have e2 : takeM ⟨b, 0 + 6, 0⟩ 2 = _ := takeM_ok b (0 + 6) 2 (by omega)
    rw [e2] at h2 ho
    subst h2
    have e3 : takeM ⟨b, 0 + 6 + 2, 0⟩ 6 = _ := takeM_ok b (0 + 6 + 2) 6 (by omega)
    rw [e3] at h3 hG
    subst h3
    have e4 : takeM ⟨b, 0 + 6 + 2 + 6, 0⟩ 4 = _ := takeM_ok b (0 + 6 + 2 + 6) 4 (by omega)
    rw [e4] at h4 hx
    subst h4
    have e5 : takeM ⟨b, 0 + 6 + 2 + 6 + 4, 0⟩ 6 = _ := takeM_ok b (0 + 6 + 2 + 6 + 4) 6 (by omega)
    rw [e5] at h5 hH
    subst h5
    have e6 : takeM ⟨b, 0 + 6 + 2 + 6 + 4 + 6, 0⟩ 4 = _ := takeM_ok b (0 + 6 + 2 + 6 + 4 + 6) 4 (by omega)
    rw [e6] at h6 hy
    subst h6
    rw [macM_full _ (by simp; omega)] at hF hG hH
    exact ⟨hb, rfl, by rw [← hF]; rfl, by rw [← ho, ← hG, ← hx, ← hH, ← hy]⟩

theorem Cutr.nil {w w' : World} {g n c : Nat} {A : Option Addr} {s : Cst} (h : Cutr w g A n c s) (k : Kept Nil w w') : Cutr w' g A n c s := h.kept k (fun hf => hf) (fun _ _ hf => hf)
theorem nil_f {g g' : Nat} (h : g ≠ g') : ¬ One g g' := fun e => h e.symm
theorem blo_six {w : World} {g : Nat} {T : TypeId} {a F : List UInt8} (h : Blo w g T ((bys a).take 0 ++ bys F ++ (bys a).drop (0 + (bys F).length)).toArray) (hl : a.length = F.length) : Blo w g T (bys F).toArray := by
  rw [bys_len, List.drop_of_length_le (by rw [bys_len]; omega)] at h
  simpa using h
set_option maxRecDepth 100000 in
set_option maxHeartbeats 2000000 in
theorem pget_yes (A : Option Addr) (n c : Nat) (b : List UInt8) (w : World) (h : Byt w A n c b) (hn : n ≤ 140737488355328) :
    Calls Try.prog 17 #[.slice A n c] w fun e w' => e = .returned (.tuple #[pkv (getP b).1, .int .i64 (getP b).2]) ∧ Kept Nil w w' := by
  have hk0 := (Kept.refl Nil w).alloc (.cells (pcs Pk.zero).toArray 49)
  have HB := Lib.hid (h.kept hk0 (fun _ _ hf => hf))
  have HP0 := Lib.hid (PB.new w 49 Pk.zero)
  have HK0 := Lib.hid hk0
  have HZ0 := Lib.hid (show w.heap.size + 1 ≤ (w.alloc (.cells (pcs Pk.zero).toArray 49)).heap.size by simp)
  clear hk0 h
  go_enter Try.func17, Try.ntmps17
  go_wp2_with fail
  refine (new_yes A n c b _ HB.out hn).mono ?_
  rintro e w1 ⟨g, A', c', rfl, hc, hk, hg, hl⟩
  have HC := Lib.hid hc
  have HP1 := Lib.hid (HP0.out.kept hk (fun hf => hf))
  have HK1 := Lib.hid (HK0.out.then hk)
  have HG := Lib.hid (Nat.le_trans HZ0.out hg)
  clear hc hk hg hl HB HP0 HK0 HZ0
  go_wp2_with fail
  refine (ta_yes g A' n c' _ _ HC.out hn).mono ?_
  rintro e w2 ⟨rfl, hc, hk⟩
  obtain ⟨s1, h1⟩ : ∃ s, (takeM ⟨b, 0, 0⟩ 6).2 = s := ⟨_, rfl⟩
  obtain ⟨F, hF⟩ : ∃ F, macM (takeM ⟨b, 0, 0⟩ 6).1 = F := ⟨_, rfl⟩
  have hF6 : F.length = 6 := by rw [← hF]; exact macM_len _ (takeM_len2 _ 6)
  rw [h1] at hc
  rw [hF]
  have HP2 := Lib.hid (HP1.out.kept hk (fun hf => by have := HG.out; cases hf; omega))
  have HK2 := Lib.hid (HK1.out.fresh hk (fun i hi => by cases hi; have := HG.out; omega))
  have HGL := Lib.hid hc.blo.lt
  have HN2 := Lib.hid (Blo.new w2 22 (bys o6).toArray)
  have HC2 := Lib.hid hc
  have HF6 := Lib.hid hF6
  clear hc hk HC HP1 HK1 hF6
  go_wp2_with (first | (refine wpList_st rfl _ (.tmp 5) _ rfl _ 0 rfl (bys F) _ rfl rfl (infN _ HF6.out) 22 (bys o6) HN2.out (by rw [bys_len, bys_len, HF6.out]; decide) (bys_one _) ?_; intro w3 hb3 hk3 hz3) | fail)
  have hk23 := ((Kept.refl Nil w2).alloc (.cells (bys o6).toArray 22)).fresh hk3 (fun i hi => by cases hi; exact Nat.le_refl _)
  have HM3 := Lib.hid (blo_six hb3 (by rw [HF6.out]; rfl))
  have HP3 := Lib.hid (HP2.out.kept hk23 (fun hf => hf))
  have HC3 := Lib.hid (HC2.out.nil hk23)
  have HK3 := Lib.hid (HK2.out.then hk23)
  have HMG := Lib.hid (show g < w2.heap.size from HGL.out)
  obtain ⟨gm, hgm⟩ : ∃ gm, w2.heap.size = gm := ⟨_, rfl⟩
  rw [hgm] at HM3 HMG ⊢
  have HH1 := Lib.hid h1
  have HHF := Lib.hid hF
  clear hb3 hk3 hz3 hk23 HN2 HP2 HC2 HK2 hgm h1 hF HGL
  go_wp2_with fail
  refine (Two_yes _ _ _ _ _ _ HC3.out).mono ?_
  rintro e w4 ⟨rfl, hc, hk⟩
  obtain ⟨s2, h2⟩ : ∃ s, (takeM s1 2).2 = s := ⟨_, rfl⟩
  obtain ⟨o, ho⟩ : ∃ o, numM (takeM s1 2).1 = o := ⟨_, rfl⟩
  have ho6 : o < 65536 := by rw [← ho]; exact numM_le (n := 2) (takeM_len2 _ 2)
  rw [h2] at hc
  rw [ho]
  have HC4 := Lib.hid hc
  have HP4 := Lib.hid (HP3.out.kept hk (fun hf => by have := HG.out; cases hf; omega))
  have HM4 := Lib.hid (HM3.out.kept hk (fun hf => by have := HMG.out; cases hf; omega))
  have HK4 := Lib.hid (HK3.out.fresh hk (fun i hi => by cases hi; have := HG.out; omega))
  have HH2 := Lib.hid h2
  have HHo := Lib.hid ho
  have Ho6 := Lib.hid ho6
  clear hc hk HC3 HP3 HM3 HK3 h2 ho ho6
  go_wp2_with fail
  refine (Mac_yes _ _ _ _ _ _ HC4.out).mono ?_
  rintro e w5 ⟨rfl, hc, hk⟩
  obtain ⟨s3, h3⟩ : ∃ s, (takeM s2 6).2 = s := ⟨_, rfl⟩
  obtain ⟨G, hG⟩ : ∃ G, macM (takeM s2 6).1 = G := ⟨_, rfl⟩
  have hG6 : G.length = 6 := by rw [← hG]; exact macM_len _ (takeM_len2 _ 6)
  rw [h3] at hc
  rw [hG]
  have HC5 := Lib.hid hc
  have HP5 := Lib.hid (HP4.out.kept hk (fun hf => by have := HG.out; cases hf; omega))
  have HM5 := Lib.hid (HM4.out.kept hk (fun hf => by have := HMG.out; cases hf; omega))
  have HK5 := Lib.hid (HK4.out.fresh hk (fun i hi => by cases hi; have := HG.out; omega))
  have HH3 := Lib.hid h3
  have HHG := Lib.hid hG
  have HG6 := Lib.hid hG6
  clear hc hk HC4 HP4 HM4 HK4 h3 hG hG6
  go_wp2_with fail
  refine (Four_yes _ _ _ _ _ _ HC5.out).mono ?_
  rintro e w6 ⟨rfl, hc, hk⟩
  obtain ⟨s4, h4⟩ : ∃ s, (takeM s3 4).2 = s := ⟨_, rfl⟩
  obtain ⟨x, hx⟩ : ∃ x, numM (takeM s3 4).1 = x := ⟨_, rfl⟩
  have hx6 : x < 4294967296 := by rw [← hx]; exact numM_le (n := 4) (takeM_len2 _ 4)
  rw [h4] at hc
  rw [hx]
  have HC6 := Lib.hid hc
  have HP6 := Lib.hid (HP5.out.kept hk (fun hf => by have := HG.out; cases hf; omega))
  have HM6 := Lib.hid (HM5.out.kept hk (fun hf => by have := HMG.out; cases hf; omega))
  have HK6 := Lib.hid (HK5.out.fresh hk (fun i hi => by cases hi; have := HG.out; omega))
  have HH4 := Lib.hid h4
  have HHx := Lib.hid hx
  have Hx6 := Lib.hid hx6
  clear hc hk HC5 HP5 HM5 HK5 h4 hx hx6
  go_wp2_with fail
  refine (Mac_yes _ _ _ _ _ _ HC6.out).mono ?_
  rintro e w7 ⟨rfl, hc, hk⟩
  obtain ⟨s5, h5⟩ : ∃ s, (takeM s4 6).2 = s := ⟨_, rfl⟩
  obtain ⟨H, hH⟩ : ∃ H, macM (takeM s4 6).1 = H := ⟨_, rfl⟩
  have hH6 : H.length = 6 := by rw [← hH]; exact macM_len _ (takeM_len2 _ 6)
  rw [h5] at hc
  rw [hH]
  have HC7 := Lib.hid hc
  have HP7 := Lib.hid (HP6.out.kept hk (fun hf => by have := HG.out; cases hf; omega))
  have HM7 := Lib.hid (HM6.out.kept hk (fun hf => by have := HMG.out; cases hf; omega))
  have HK7 := Lib.hid (HK6.out.fresh hk (fun i hi => by cases hi; have := HG.out; omega))
  have HH5 := Lib.hid h5
  have HHH := Lib.hid hH
  have HH6 := Lib.hid hH6
  clear hc hk HC6 HP6 HM6 HK6 h5 hH hH6
  go_wp2_with fail
  refine (Four_yes _ _ _ _ _ _ HC7.out).mono ?_
  rintro e w8 ⟨rfl, hc, hk⟩
  obtain ⟨s6, h6⟩ : ∃ s, (takeM s5 4).2 = s := ⟨_, rfl⟩
  obtain ⟨y, hy⟩ : ∃ y, numM (takeM s5 4).1 = y := ⟨_, rfl⟩
  have hy6 : y < 4294967296 := by rw [← hy]; exact numM_le (n := 4) (takeM_len2 _ 4)
  rw [h6] at hc
  rw [hy]
  have HC8 := Lib.hid hc
  have HP8 := Lib.hid (HP7.out.kept hk (fun hf => by have := HG.out; cases hf; omega))
  have HM8 := Lib.hid (HM7.out.kept hk (fun hf => by have := HMG.out; cases hf; omega))
  have HK8 := Lib.hid (HK7.out.fresh hk (fun i hi => by cases hi; have := HG.out; omega))
  have HH6' := Lib.hid h6
  have HHy := Lib.hid hy
  have Hy6 := Lib.hid hy6
  clear hc hk HC7 HP7 HM7 HK7 h6 hy hy6
  have hpk : (⟨o, G, x, H, y⟩ : Pk).ok := ⟨Ho6.out, HG6.out, Hx6.out, HH6.out, Hy6.out⟩
  obtain ⟨d0, d1, d2, d3, d4, d5, hd⟩ := six_of G HG6.out
  obtain ⟨e0, e1, e2, e3, e4, e5, he⟩ := six_of H HH6.out
  subst hd he
  have HPK := Lib.hid hpk
  have HN8 := Lib.hid (PB.new w8 49 Pk.zero)
  have hch := got_chain b HH1.out HH2.out HH3.out HH4.out HH5.out HH6'.out HHF.out HHo.out HHG.out HHx.out HHH.out HHy.out
  have HCH := Lib.hid hch
  clear hch hpk
  simp only [bys, List.map_cons, List.map_nil]
  go_wp2_with (first | (refine wpList_st rfl _ (.tmp 6) _ rfl _ 0 rfl (pcs ⟨o, [d0, d1, d2, d3, d4, d5], x, [e0, e1, e2, e3, e4, e5], y⟩) _ rfl rfl (infP _ HPK.out) 49 _ HN8.out (by rw [pcs_len Pk.zero_ok, pcs_len HPK.out]; omega) (pcs_one _) ?_; intro w9 hb9 hk9 hz9) | fail)
  have hk89 := ((Kept.refl Nil w8).alloc (.cells (pcs Pk.zero).toArray 49)).fresh hk9 (fun i hi => by cases hi; exact Nat.le_refl _)
  have HQ9 := Lib.hid (PB.of_all (p' := ⟨o, [d0, d1, d2, d3, d4, d5], x, [e0, e1, e2, e3, e4, e5], y⟩) Pk.zero_ok HPK.out hb9)
  have HP9 := Lib.hid (HP8.out.kept hk89 (fun hf => hf))
  have HM9 := Lib.hid (HM8.out.kept hk89 (fun hf => hf))
  have HC9 := Lib.hid (HC8.out.nil hk89)
  have HK9 := Lib.hid (HK8.out.then hk89)
  have HPL := Lib.hid (show w.heap.size < w8.heap.size from HP8.out.lt)
  obtain ⟨g6, hg6⟩ : ∃ g6, w8.heap.size = g6 := ⟨_, rfl⟩
  rw [hg6] at HQ9 HPL ⊢
  obtain ⟨p, hp⟩ : ∃ p : Pk, p = ⟨o, [d0, d1, d2, d3, d4, d5], x, [e0, e1, e2, e3, e4, e5], y⟩ := ⟨_, rfl⟩
  rw [← hp] at HQ9 HPK HCH
  clear hb9 hk9 hz9 hk89 hg6 hp HN8 HP8 HM8 HC8 HK8
  have r0 := HC9.out.c0
  have r3 := HC9.out.c3
  rcases HCH.out with ⟨hb, her, hFt, hpt⟩ | ⟨hb, her⟩
  · rw [her] at r3
    have HGP := Lib.hid (show getP b = if F = headL ∧ mayP p = true then (p, 0) else (Pk.zero, 5) by unfold getP; rw [if_neg (by omega), hFt, hpt])
    clear hb her hFt hpt HCH
    go_wp2_with (first
      | (go_at_call 47; refine (err_yes g _ _ (by assumption) (by assumption)).mono ?_; rintro e w' ⟨rfl, rfl⟩)
      | fail)
    have heq := eq_arr6 F headL HF6.out rfl
    by_cases hF : F = headL
    · rw [show (F == headL) = true by simp [hF]] at heq
      cases hm : mayP p
      · rw [hm, if_neg (by simp)] at HGP
        clear hF
        refine wp_region_quiet_below (by kernel_rfl) (by kernel_rfl) ?_
        repeat (first
          | (refine wpQuiet_ld rfl _ _ rfl gm 0 rfl (bys F) (fun w' hw => row_grown (Blo.row [] (bys F) [] (by simpa using HM9.out)) hw) _ Try.underlying22 rfl (infN _ HF6.out) ?_; simp only [Act.put, List.setIfInBounds_toArray, List.set_cons_succ, List.set_cons_zero])
          | (refine wpQuiet_ld rfl _ _ rfl g6 0 rfl (pcs p) (fun w1 hw => row_grown HQ9.out.all hw) _ Try.underlying49 rfl (infP p HPK.out) ?_; simp only [Act.put, List.setIfInBounds_toArray, List.set_cons_succ, List.set_cons_zero])
          | (go_big_quiet_step (first | with_reducible exact quietK (ahead_yes _) | exact quietK (by have := pmay_yes p HPK.out; rw [hm] at this; exact this _))))
        refine wpQuiet_nil ?_
        rintro w10 ⟨nq, hw⟩
        have hk10 : Kept Nil w9 w10 := by rw [hw]; exact kept_grown _ _
        have HP10 := Lib.hid (HP9.out.kept hk10 (fun hf => hf))
        have HQ10 := Lib.hid (HQ9.out.kept hk10 (fun hf => hf))
        have HK10 := Lib.hid (HK9.out.then hk10)
        clear hk10 hw r0 r3
        go_wp2_with (first
          | (refine wpList_ld rfl _ _ rfl g6 0 rfl (pcs p) HQ10.out.all _ Try.underlying49 rfl (infP p HPK.out) ?_)
          | (refine wpList_st rfl _ (.tmp 2) _ rfl _ 0 rfl (pcs Pk.zero) _ rfl rfl (infP _ Pk.zero_ok) 49 _ HP10.out (by rw [pcs_len Pk.zero_ok]; omega) (pcs_one _) ?_; intro w11 hb11 hk11 hz11))
        have h2 := PB.of_all Pk.zero_ok Pk.zero_ok hb11
        refine bodyPost_ret (res_cell1 Try.results17 rfl rfl h2.all Try.underlying49 rfl (infP _ Pk.zero_ok)) rfl ⟨by rw [HGP.out]; rfl, ?_⟩
        exact HK10.out.fresh hk11 (fun i hi => by cases hi; exact Nat.le_refl _)
      · rw [hm, if_pos ⟨hF, rfl⟩] at HGP
        clear hF
        refine wp_region_quiet_below (by kernel_rfl) (by kernel_rfl) ?_
        repeat (first
          | (refine wpQuiet_ld rfl _ _ rfl gm 0 rfl (bys F) (fun w' hw => row_grown (Blo.row [] (bys F) [] (by simpa using HM9.out)) hw) _ Try.underlying22 rfl (infN _ HF6.out) ?_; simp only [Act.put, List.setIfInBounds_toArray, List.set_cons_succ, List.set_cons_zero])
          | (refine wpQuiet_ld rfl _ _ rfl g6 0 rfl (pcs p) (fun w1 hw => row_grown HQ9.out.all hw) _ Try.underlying49 rfl (infP p HPK.out) ?_; simp only [Act.put, List.setIfInBounds_toArray, List.set_cons_succ, List.set_cons_zero])
          | (go_big_quiet_step (first | with_reducible exact quietK (ahead_yes _) | exact quietK (by have := pmay_yes p HPK.out; rw [hm] at this; exact this _))))
        refine wpQuiet_nil ?_
        rintro w10 ⟨nq, hw⟩
        have hk10 : Kept Nil w9 w10 := by rw [hw]; exact kept_grown _ _
        have HP10 := Lib.hid (HP9.out.kept hk10 (fun hf => hf))
        have HQ10 := Lib.hid (HQ9.out.kept hk10 (fun hf => hf))
        have HK10 := Lib.hid (HK9.out.then hk10)
        clear hk10 hw r0 r3
        go_wp2_with (first
          | (refine wpList_ld rfl _ _ rfl g6 0 rfl (pcs p) HQ10.out.all _ Try.underlying49 rfl (infP p HPK.out) ?_)
          | (refine wpList_st rfl _ (.tmp 2) _ rfl _ 0 rfl (pcs p) _ rfl rfl (infP _ HPK.out) 49 _ HP10.out (by rw [pcs_len Pk.zero_ok, pcs_len HPK.out]; omega) (pcs_one _) ?_; intro w11 hb11 hk11 hz11))
        have h2 := PB.of_all Pk.zero_ok HPK.out hb11
        refine bodyPost_ret (res_cell1 Try.results17 rfl rfl h2.all Try.underlying49 rfl (infP _ HPK.out)) rfl ⟨by rw [HGP.out]; rfl, ?_⟩
        exact HK10.out.fresh hk11 (fun i hi => by cases hi; exact Nat.le_refl _)
    · rw [show (F == headL) = false by simp [hF]] at heq
      rw [if_neg (by simp [hF])] at HGP
      clear hF
      refine wp_region_quiet_below (by kernel_rfl) (by kernel_rfl) ?_
      repeat (first
        | (refine wpQuiet_ld rfl _ _ rfl gm 0 rfl (bys F) (fun w' hw => row_grown (Blo.row [] (bys F) [] (by simpa using HM9.out)) hw) _ Try.underlying22 rfl (infN _ HF6.out) ?_; simp only [Act.put, List.setIfInBounds_toArray, List.set_cons_succ, List.set_cons_zero])
        | (refine wpQuiet_ld rfl _ _ rfl g6 0 rfl (pcs p) (fun w1 hw => row_grown HQ9.out.all hw) _ Try.underlying49 rfl (infP p HPK.out) ?_; simp only [Act.put, List.setIfInBounds_toArray, List.set_cons_succ, List.set_cons_zero])
        | (go_big_quiet_step (first | with_reducible exact quietK (ahead_yes _) | exact quietK (pmay_yes p HPK.out _))))
      refine wpQuiet_nil ?_
      rintro w10 ⟨nq, hw⟩
      have hk10 : Kept Nil w9 w10 := by rw [hw]; exact kept_grown _ _
      have HP10 := Lib.hid (HP9.out.kept hk10 (fun hf => hf))
      have HQ10 := Lib.hid (HQ9.out.kept hk10 (fun hf => hf))
      have HK10 := Lib.hid (HK9.out.then hk10)
      clear hk10 hw r0 r3
      go_wp2_with (first
        | (refine wpList_ld rfl _ _ rfl g6 0 rfl (pcs p) HQ10.out.all _ Try.underlying49 rfl (infP p HPK.out) ?_)
        | (refine wpList_st rfl _ (.tmp 2) _ rfl _ 0 rfl (pcs Pk.zero) _ rfl rfl (infP _ Pk.zero_ok) 49 _ HP10.out (by rw [pcs_len Pk.zero_ok]; omega) (pcs_one _) ?_; intro w11 hb11 hk11 hz11))
      have h2 := PB.of_all Pk.zero_ok Pk.zero_ok hb11
      refine bodyPost_ret (res_cell1 Try.results17 rfl rfl h2.all Try.underlying49 rfl (infP _ Pk.zero_ok)) rfl ⟨by rw [HGP.out]; rfl, ?_⟩
      exact HK10.out.fresh hk11 (fun i hi => by cases hi; exact Nat.le_refl _)
  · rw [her] at r3
    have HGP := Lib.hid (show getP b = (Pk.zero, 4) by unfold getP; rw [if_pos hb])
    clear hb her HCH
    go_wp2_with (first
      | (go_at_call 47; refine (err_yes g _ _ (by assumption) (by assumption)).mono ?_; rintro e w' ⟨rfl, rfl⟩)
      | (refine wpList_st rfl _ (.tmp 2) _ rfl _ 0 rfl (pcs Pk.zero) _ rfl rfl (infP _ Pk.zero_ok) 49 _ HP9.out (by rw [pcs_len Pk.zero_ok]; omega) (pcs_one _) ?_; intro w10 hb10 hk10 hz10))
    have h2 := PB.of_all Pk.zero_ok Pk.zero_ok hb10
    refine bodyPost_ret (res_cell1 Try.results17 rfl rfl h2.all Try.underlying49 rfl (infP _ Pk.zero_ok)) rfl ⟨by rw [HGP.out]; rfl, ?_⟩
    exact HK9.out.fresh hk10 (fun i hi => by cases hi; exact Nat.le_refl _)
end Go.Proofs.Ytddpdopccejmbaa
