/- Texts that belong together, one behind the other: TrC, PadA. Conditions: those of each. -/
import Derived.Test.YthjbabkmjmfmjaaDoorTrB
import Derived.Test.YthjbabkmjmfmjaaDoorMg8
import Derived.Test.YthjbabkmjmfmjaaDoorMg4
/- Package trans: contract of GetUdp. -/
namespace Go.Proofs.YthjbabkmjmfmjaaDoor
open Go.RowKit Go.Sort
set_option linter.unusedVariables false

/-- What is told where all is there; what is told else. -/
theorem ugot_of (l L : List UInt8) (n m0 : Nat) {x1 x2 x3 x4 : Nat} (hl : l.length = n) (hL : l.take m0 = L) (hm : m0 = min 8 n) (hb : 8 ≤ m0) (e : x1 = numM ((L.drop 0).take 2) ∧ x2 = numM ((L.drop 2).take 2) ∧ x3 = numM ((L.drop 4).take 2) ∧ x4 = numM ((L.drop 6).take 2)) :
    (x3 < 8 → getU l = (Ud.zero, 5)) ∧ (8 ≤ x3 → n < x3 → getU l = (Ud.zero, 4)) ∧ (8 ≤ x3 → x3 ≤ n → getU l = (⟨x1, x2, x3, x4, (l.take x3).drop 8⟩, 0)) := by
  subst hL
  obtain ⟨e1, e2, e3, e4⟩ := e
  rw [sub_at l m0 0 2 (by omega), List.drop_zero] at e1
  rw [sub_at l m0 2 2 (by omega)] at e2
  rw [sub_at l m0 4 2 (by omega)] at e3
  rw [sub_at l m0 6 2 (by omega)] at e4
  have hn : udN l = x3 := e3.symm
  refine ⟨fun h => ?_, fun h h2 => ?_, fun h h2 => ?_⟩
  · unfold getU
    rw [if_neg (by omega), hn, if_pos h]
  · unfold getU
    rw [if_neg (by omega), hn, if_neg (by omega), if_pos (by omega)]
  · unfold getU
    rw [if_neg (by omega), hn, if_neg (by omega), if_neg (by omega)]
    unfold udOf
    rw [hn, ← e1, ← e2, ← e4]
theorem ugot_short (l L : List UInt8) (n m0 : Nat) (hl : l.length = n) (hL : l.take m0 = L) (hm : m0 = min 8 n) (hb : L.length < 8) : getU l = (Ud.zero, 4) := by
  subst hL
  rw [List.length_take] at hb
  unfold getU
  rw [if_pos (by omega)]
theorem ugot_zero {w w' : World} {er : Int} {r : Ud × Int} (hr : r = (Ud.zero, er)) (hk : Kept Nil w w') : UGot w (.returned (.tuple #[.agg (ucs Ud.zero none 0 0).toArray, .int .i64 er])) w' r := by
  subst hr
  exact ⟨none, 0, 0, rfl, newB_none _ _, hk⟩
set_option maxRecDepth 100000 in
set_option maxHeartbeats 16000000 in
theorem uget_yes (A : Option Addr) (n c : Nat) (l : List UInt8) (w : World) (h : Byt w A n c l) (hn : n ≤ 1099511627776) : Calls Tryd.prog 12 #[.slice A n c] w fun e w' => UGot w e w' (getU l) := by
  have hnc := h.2.1
  have hcc := h.2.2.1
  obtain ⟨m0, hm, hmn, hm1, hm2, hm3⟩ := min8 n
  have hsl := run_cut_hi (P := Tryd.prog) Tryd.underlying22 inf5.1 A n c m0 (m0 : Int) rfl (by omega)
  have HLN := Lib.hid h.1
  have HBL := Lib.hid h
  have HBY := Lib.hid (h.pre hm1)
  have hll : (l.take m0).length = m0 := by rw [List.length_take, h.1]; omega
  obtain ⟨L, hL⟩ : ∃ L, l.take m0 = L := ⟨_, rfl⟩
  rw [hL] at HBY hll
  have HL0 := Lib.hid hL
  have HLL := Lib.hid hll
  have HM := Lib.hid (And.intro hm2 (And.intro hm3 (show m0 ≤ c by omega)))
  have HZ0 := Lib.hid (UB.new w 38 Ud.zero none 0 0)
  have HK0 := Lib.hid ((Kept.refl Nil w).alloc (.cells (ucs Ud.zero none 0 0).toArray 38))
  have HS0 := Lib.hid (show (w.alloc (.cells (ucs Ud.zero none 0 0).toArray 38)).heap.size = w.heap.size + 1 by simp)
  clear h hm3 hL hll hm1
  go_enter Tryd.func12, Tryd.ntmps12
  go_wp2_with (fail)
  refine (new_yes A m0 c L _ (HBY.out.kept HK0.out (fun _ _ hf => hf)) (by have := HM.out.1; omega)).mono ?_
  rintro e w1 ⟨g, A', c', rfl, hc, hk, hg, hl⟩
  obtain ⟨gz, hgz⟩ : ∃ gz, w.heap.size = gz := ⟨_, rfl⟩
  have HC0 := Lib.hid hc
  have HZa := Lib.hid (HZ0.out.kept hk (fun hf => hf))
  have HKa := Lib.hid (HK0.out.then hk)
  have HG := Lib.hid (show w.heap.size ≤ g ∧ gz < g by have := HS0.out; omega)
  have HLZ := Lib.hid (show w.heap.size ≤ gz ∧ gz < g by have := HS0.out; omega)
  have HA := Lib.hid (show ∀ i, Lies A' m0 i → gz < i ∧ i < w1.heap.size from fun i hi => by have := HS0.out; have := hl i hi; have := hc.byt.lt i hi; omega)
  have HGL0 := Lib.hid hc.blo.lt
  rw [hgz] at HZa ⊢
  clear hc hk hg hl HZ0 HK0 HS0 hsl hm hmn hgz
  have HZ0 := HZa
  have HK0 := HKa
  clear HZa HKa
  go_wp2_with (fail)
  refine (Two_yes _ _ _ _ _ _ HC0.out).mono ?_
  rintro e w2 ⟨rfl, hc, hk⟩
  obtain ⟨s1, h1⟩ : ∃ s, (takeM ⟨L, 0, 0⟩ 2).2 = s := ⟨_, rfl⟩
  obtain ⟨x1, h2⟩ : ∃ x, numM (takeM ⟨L, 0, 0⟩ 2).1 = x := ⟨_, rfl⟩
  have HX1 := Lib.hid (show x1 < 65536 by rw [← h2]; exact num_le (n := 2) (takeM_len2 _ 2))
  rw [h1] at hc
  rw [h2]
  have HC1 := Lib.hid hc
  have HZ1 := Lib.hid (HZ0.out.kept hk (fun hf => by have := HG.out; have := HLZ.out; cases hf; omega))
  have HK1 := Lib.hid (HK0.out.fresh hk (fun i hi => by cases hi; have := HG.out; omega))
  have HH1 := Lib.hid (And.intro h1 h2)
  clear hc hk h1 h2 HC0 HZ0 HK0
  go_wp2_with (fail)
  refine (Two_yes _ _ _ _ _ _ HC1.out).mono ?_
  rintro e w3 ⟨rfl, hc, hk⟩
  obtain ⟨s2, h1⟩ : ∃ s, (takeM s1 2).2 = s := ⟨_, rfl⟩
  obtain ⟨x2, h2⟩ : ∃ x, numM (takeM s1 2).1 = x := ⟨_, rfl⟩
  have HX2 := Lib.hid (show x2 < 65536 by rw [← h2]; exact num_le (n := 2) (takeM_len2 _ 2))
  rw [h1] at hc
  rw [h2]
  have HC2 := Lib.hid hc
  have HZ2 := Lib.hid (HZ1.out.kept hk (fun hf => by have := HG.out; have := HLZ.out; cases hf; omega))
  have HK2 := Lib.hid (HK1.out.fresh hk (fun i hi => by cases hi; have := HG.out; omega))
  have HH2 := Lib.hid (And.intro h1 h2)
  clear hc hk h1 h2 HC1 HZ1 HK1
  go_wp2_with (fail)
  refine (Two_yes _ _ _ _ _ _ HC2.out).mono ?_
  rintro e w4 ⟨rfl, hc, hk⟩
  obtain ⟨s3, h1⟩ : ∃ s, (takeM s2 2).2 = s := ⟨_, rfl⟩
  obtain ⟨x3, h2⟩ : ∃ x, numM (takeM s2 2).1 = x := ⟨_, rfl⟩
  have HX3 := Lib.hid (show x3 < 65536 by rw [← h2]; exact num_le (n := 2) (takeM_len2 _ 2))
  rw [h1] at hc
  rw [h2]
  have HC3 := Lib.hid hc
  have HZ3 := Lib.hid (HZ2.out.kept hk (fun hf => by have := HG.out; have := HLZ.out; cases hf; omega))
  have HK3 := Lib.hid (HK2.out.fresh hk (fun i hi => by cases hi; have := HG.out; omega))
  have HH3 := Lib.hid (And.intro h1 h2)
  clear hc hk h1 h2 HC2 HZ2 HK2
  go_wp2_with (fail)
  refine (Two_yes _ _ _ _ _ _ HC3.out).mono ?_
  rintro e w5 ⟨rfl, hc, hk⟩
  obtain ⟨s4, h1⟩ : ∃ s, (takeM s3 2).2 = s := ⟨_, rfl⟩
  obtain ⟨x4, h2⟩ : ∃ x, numM (takeM s3 2).1 = x := ⟨_, rfl⟩
  have HX4 := Lib.hid (show x4 < 65536 by rw [← h2]; exact num_le (n := 2) (takeM_len2 _ 2))
  rw [h1] at hc
  rw [h2]
  have HC4 := Lib.hid hc
  have HZ4 := Lib.hid (HZ3.out.kept hk (fun hf => by have := HG.out; have := HLZ.out; cases hf; omega))
  have HK4 := Lib.hid (HK3.out.fresh hk (fun i hi => by cases hi; have := HG.out; omega))
  have HH4 := Lib.hid (And.intro h1 h2)
  clear hc hk h1 h2 HC3 HZ3 HK3
  have HN4 := Lib.hid (UB.new w5 38 Ud.zero none 0 0)
  have HGC := Lib.hid HC4.out.blo.lt
  go_upto_region 3 with (first
    | (refine wpList_st rfl _ (.tmp 5) _ rfl _ 0 rfl (ucs ⟨x1, x2, x3, x4, []⟩ none 0 0) _ rfl rfl (infUc _ _ _ _) 38 _ HN4.out (by show 0 + 5 ≤ 5; omega) (ucs_one _ _ _ _) ?_; intro v5 hb hk hz; simp only [Act.put])
    | fail)
  have hk2 := ((Kept.refl Nil w5).alloc (.cells (ucs Ud.zero none 0 0).toArray 38)).fresh hk (fun i hi => by cases hi; exact Nat.le_refl _)
  have HT5 := Lib.hid (show UB v5 w5.heap.size 38 ⟨x1, x2, x3, x4, []⟩ none 0 0 from hb)
  have HZ5 := Lib.hid (HZ4.out.kept hk2 (fun hf => hf))
  have HC5 := Lib.hid (HC4.out.nil hk2)
  have HK5 := Lib.hid (HK4.out.then hk2)
  obtain ⟨gt, hgt⟩ : ∃ gt, w5.heap.size = gt := ⟨_, rfl⟩
  have HLT := Lib.hid (show w.heap.size ≤ gt ∧ g < gt ∧ gz < gt by have := HGC.out; have := HG.out; omega)
  rw [hgt] at HT5 ⊢
  clear hb hk hz hk2 hgt HZ4 HC4 HK4 HN4 HGC
  have hc2 := HT5.out.cn
  dsimp only at hc2
  have r0 := HC5.out.c0
  have hx3 := HX3.out
  rcases uchain L HH1.out HH2.out HH3.out HH4.out with ⟨hb, hs, hx⟩ | ⟨hb, her⟩
  · rw [hs] at HC5
    have r3 : v5.cell? ⟨g, 3, none⟩ = some (.int .i64 0) := HC5.out.c3
    have HGT := Lib.hid (ugot_of l L n m0 HLN.out HL0.out HM.out.2.1 (by rw [← HLL.out]; exact hb) hx)
    clear hs hx hb
    by_cases h8 : x3 < 8
    · have h8' : (x3 : Int) < 8 := by omega
      go_wp2_with (first
      | (go_at_call 40; refine (err_yes g _ _ r0 r3).mono ?_; rintro e w' ⟨rfl, rfl⟩)
      | (refine wpList_st rfl _ (.tmp 2) _ rfl gz 0 rfl (ucs Ud.zero none 0 0) _ rfl rfl (infUc _ _ _ _) 38 _ HZ5.out (by show 0 + 5 ≤ 5; omega) (ucs_one _ _ _ _) ?_; intro w40 hb9 hk9 hz9; simp only [Act.put])
      | fail)
      have h2 : UB w40 gz 38 Ud.zero none 0 0 := hb9
      refine bodyPost_ret (res_cell1 Tryd.results12 rfl rfl h2.all Tryd.underlying38 rfl (infUc _ _ _ _)) rfl ?_
      exact ugot_zero (HGT.out.1 h8) (HK5.out.fresh hk9 (fun i hi => by cases hi; exact HLZ.out.1))
    · have h8' : ¬ (x3 : Int) < 8 := by omega
      by_cases hnx : n < x3
      · have hnx' : (n : Int) < (x3 : Int) := by omega
        go_wp2_with (first
      | (go_at_call 40; refine (err_yes g _ _ r0 r3).mono ?_; rintro e w' ⟨rfl, rfl⟩)
      | (refine wpList_st rfl _ (.tmp 2) _ rfl gz 0 rfl (ucs Ud.zero none 0 0) _ rfl rfl (infUc _ _ _ _) 38 _ HZ5.out (by show 0 + 5 ≤ 5; omega) (ucs_one _ _ _ _) ?_; intro w40 hb9 hk9 hz9; simp only [Act.put])
        | fail)
        have h2 : UB w40 gz 38 Ud.zero none 0 0 := hb9
        refine bodyPost_ret (res_cell1 Tryd.results12 rfl rfl h2.all Tryd.underlying38 rfl (infUc _ _ _ _)) rfl ?_
        exact ugot_zero (HGT.out.2.1 (by omega) hnx) (HK5.out.fresh hk9 (fun i hi => by cases hi; exact HLZ.out.1))
      · have hnx' : ¬ (n : Int) < (x3 : Int) := by omega
        have HGR := Lib.hid (HGT.out.2.2 (by omega) (by omega))
        have hcut := run_cut (P := Tryd.prog) Tryd.underlying22 inf5.1 inf5.2 A n c 8 x3 8 (x3 : Int) rfl rfl (by omega) (by omega)
        have HBC := Lib.hid (HBL.out.cut (lo := 8) (hi := x3) (by omega) (by omega))
        have HYL := Lib.hid (show x3 - 8 ≤ 65536 by omega)
        obtain ⟨Y, hY⟩ : ∃ Y, (l.take x3).drop 8 = Y := ⟨_, rfl⟩
        rw [hY] at HBC HGR
        clear hY HGT
        go_wp2_with (first
      | (go_at_call 40; refine (err_yes g _ _ r0 r3).mono ?_; rintro e w' ⟨rfl, rfl⟩)
        | fail)
        refine (sclone (cutA A c 8) (x3 - 8) (c - 8) Y _ (HBC.out.kept HK5.out (fun _ _ hf => hf)) (by have := HYL.out; omega)).mono ?_
        rintro e w13 ⟨v2, rfl, hm⟩
        dsimp only
        obtain ⟨A2, c2, rfl, hnb⟩ := NewB.of_own (w0 := v5) hm.1 (Nat.le_refl _)
        have HNY := Lib.hid hnb
        have HTw := Lib.hid (HT5.out.kept hm.2 (fun hf => hf))
        have HZw := Lib.hid (HZ5.out.kept hm.2 (fun hf => hf))
        have HKw := Lib.hid (HK5.out.then hm.2)
        have HSY := Lib.hid (show w.heap.size ≤ v5.heap.size ∧ gt < v5.heap.size ∧ gz < v5.heap.size from ⟨HK5.out.size, HT5.out.lt, HZ5.out.lt⟩)
        clear hm hnb HT5 HZ5 HC5 HK5 r0 r3 hcut HBC hc2
        go_upto_region 11 with (first
          | (refine wpList_st rfl _ _ _ rfl gt 4 rfl [.slice A2 Y.length c2] _ rfl rfl infSl 38 _ HTw.out (by rw [ucs_len, List.length_singleton]; omega) (by intro u hu; simp at hu; subst hu; rfl) ?_; intro v14 hb hk hz; simp only [Act.put])
          | fail)
        have HT := Lib.hid (show UB v14 gt 38 ⟨x1, x2, x3, x4, Y⟩ A2 Y.length c2 from hb)
        have HZ := Lib.hid (HZw.out.kept hk (fun hf => by have := HLT.out; cases hf; omega))
        have HK := Lib.hid (HKw.out.fresh hk (fun i hi => by cases hi; exact HLT.out.1))
        have HNy := Lib.hid (HNY.out.kept hk (fun i hi hf => by have := HSY.out.2.1; cases hf; omega))
        clear hb hk hz HTw HZw HKw HNY
        go_wp2_with (first
          | (refine wpList_ld rfl _ _ rfl gt 0 rfl (ucs ⟨x1, x2, x3, x4, Y⟩ A2 Y.length c2) HT.out.all _ Tryd.underlying38 rfl (infUc _ _ _ _) ?_; simp only [Act.put, List.setIfInBounds_toArray, List.set_cons_succ, List.set_cons_zero])
          | (refine wpList_st rfl _ (.tmp 2) _ rfl gz 0 rfl (ucs ⟨x1, x2, x3, x4, Y⟩ A2 Y.length c2) _ rfl rfl (infUc _ _ _ _) 38 _ HZ.out (by show 0 + 5 ≤ 5; omega) (ucs_one _ _ _ _) ?_; intro v15 hb9 hk9 hz9; simp only [Act.put])
          | fail)
        have h2 : UB v15 gz 38 ⟨x1, x2, x3, x4, Y⟩ A2 Y.length c2 := hb9
        refine bodyPost_ret (res_cell1 Tryd.results12 rfl rfl h2.all Tryd.underlying38 rfl (infUc _ _ _ _)) rfl ?_
        rw [HGR.out]
        exact ⟨A2, _, c2, rfl, (HNy.out.kept hk9 (fun i hi hf => by have := HSY.out.2.2; cases hf; omega)).older HSY.out.1, HK.out.fresh hk9 (fun i hi => by cases hi; exact HLZ.out.1)⟩
  · have r3 := HC5.out.c3
    rw [her] at r3
    have HGR := Lib.hid (ugot_short l L n m0 HLN.out HL0.out HM.out.2.1 hb)
    clear her hb
    go_wp2_with (first
      | (go_at_call 40; refine (err_yes g _ _ r0 r3).mono ?_; rintro e w' ⟨rfl, rfl⟩)
      | (refine wpList_st rfl _ (.tmp 2) _ rfl gz 0 rfl (ucs Ud.zero none 0 0) _ rfl rfl (infUc _ _ _ _) 38 _ HZ5.out (by show 0 + 5 ≤ 5; omega) (ucs_one _ _ _ _) ?_; intro w40 hb9 hk9 hz9; simp only [Act.put])
      | fail)
    have h2 : UB w40 gz 38 Ud.zero none 0 0 := hb9
    refine bodyPost_ret (res_cell1 Tryd.results12 rfl rfl h2.all Tryd.underlying38 rfl (infUc _ _ _ _)) rfl ?_
    exact ugot_zero (HGR.out) (HK5.out.fresh hk9 (fun i hi => by cases hi; exact HLZ.out.1))
end Go.Proofs.YthjbabkmjmfmjaaDoor
/- Contracts of package cut's pad: laying numbers. -/
namespace Go.Proofs.YthjbabkmjmfmjaaDoor
open Go.RowKit
set_option linter.unusedVariables false

/-- A pad: its block, and bytes of its own. -/
structure Padd (w : World) (B g : Nat) (v : Value) (l : List UInt8) : Prop where
  blo : Blo w g 128 #[.bool true, v]
  own : w.ownsRow B 5 1 v l.length (bys l)
  ge : B ≤ g
/-- Where a pad lies. -/
def foot (g : Nat) (v : Value) : Nat → Prop := fun k => k = g ∨ v.ownBlock = some k
/-- The new row is the old one, or lies in a block that was made since. -/
def Newer (n : Nat) (v v' : Value) : Prop := ∀ k, v'.ownBlock = some k → v.ownBlock = some k ∨ n ≤ k

section
variable {w w' : World} {B g : Nat} {v : Value} {l : List UInt8}
theorem Padd.c0 (h : Padd w B g v l) : w.cell? ⟨g, 0, none⟩ = some (.bool true) := h.blo.cell 0
theorem Padd.c1 (h : Padd w B g v l) : w.cell? ⟨g, 1, none⟩ = some v := h.blo.cell 1
theorem Padd.own_ne (h : Padd w B g v l) : v.ownBlock ≠ some g := by
  intro e
  rcases h.own.2 with ⟨rfl, _⟩ | ⟨g', cap, cur, rfl, _, hg, _⟩
  · simp [Value.ownBlock] at e
  · have : g' = g := by simpa [Value.ownBlock] using e
    subst this
    exact (Blo.ne (show Blo w g' 5 cur from hg) h.blo (by decide)) rfl
theorem Padd.kept {F : Nat → Prop} (h : Padd w B g v l) (k : Kept F w w') (hF : ∀ i, foot g v i → ¬ F i) : Padd w' B g v l :=
  ⟨h.blo.kept k (hF g (.inl rfl)), own_kept h.own k (fun i hi => hF i (.inr hi)), h.ge⟩
theorem Padd.heap (h : Padd w B g v l) (e : w'.heap = w.heap) : Padd w' B g v l := ⟨h.blo.heap e, by have := h.own; unfold World.ownsRow at this ⊢; rw [e]; exact this, h.ge⟩
theorem Padd.foot_ge (h : Padd w B g v l) : ∀ k, foot g v k → B ≤ k := by
  rintro k (rfl | hk)
  · exact h.ge
  · exact (h.own.lt k hk).1
theorem Newer.refl (n : Nat) (v : Value) : Newer n v v := fun _ h => .inl h
theorem Newer.trans {n n' : Nat} {v v' v'' : Value} (h : Newer n v v') (k : Newer n' v' v'') (hn : n ≤ n') : Newer n v v'' := fun i hi => by
  rcases k i hi with h1 | h1
  · exact h i h1
  · exact .inr (by omega)
end

theorem foot_newer {n g : Nat} {v v' : Value} (h : Newer n v v') : ∀ i, i < n → foot g v' i → foot g v i := by
  rintro i hi (rfl | hf)
  · exact .inl rfl
  · rcases h i hf with h1 | h1
    · exact .inr h1
    · omega

theorem pnone_yes (g : Nat) (w : World) (h : w.cell? ⟨g, 0, none⟩ = some (.bool true)) :
    Calls Tryd.prog 71 #[.pointer (some ⟨g, 0, none⟩)] w fun e w' => e = .returned (.bool false) ∧ w = w' := by
  go_enter Tryd.func71, Tryd.ntmps71
  go_wp2
  go_ret
  exact ⟨rfl, rfl⟩

/-- One byte more: what an append and the store behind it leave. -/
theorem pad_step {w W w3 : World} {B g : Nat} {v v3 : Value} {L : List UInt8} {z : Int} {b : UInt8} {t : TypeId} (h : Padd w B g v L) (hW : ∃ q, W = (w.alloc (.cells #[.int .u8 z] t)).drewN q) (hz : z = (b.toNat : Int))
    (ho : w3.ownsRow B 5 1 v3 (L.length + 1) (bys L ++ [.int .u8 z])) (hg : W.grownBy w3 v.ownBlock) (hn : v3.ownBlock = v.ownBlock ∨ v3.ownBlock = some W.heap.size) :
    (w3.cell? ⟨g, 1, none⟩ = some v ∧ w3.frozen? ⟨g, 1, none⟩ = false) ∧
    Hid (Padd (w3.setCell ⟨g, 1, none⟩ v3) B g v3 (L ++ [b]) ∧ Kept (foot g v) w (w3.setCell ⟨g, 1, none⟩ v3) ∧ Newer w.heap.size v v3) := by
  obtain ⟨q, rfl⟩ := hW
  subst hz
  have K1 : Kept (foot g v) w w3 := (((Kept.refl (foot g v) w).alloc _).drewN q).grown hg (fun k hk _ => .inr hk)
  have K1' : Kept (fun k => v.ownBlock = some k) w w3 := (((Kept.refl (fun k => v.ownBlock = some k) w).alloc _).drewN q).grown hg (fun k hk _ => hk)
  have hB3 : Blo w3 g 128 #[.bool true, v] := h.blo.kept K1' (fun hf => h.own_ne hf)
  have hne : v3.ownBlock ≠ some g := by
    intro e
    rcases ho.2 with ⟨rfl, _⟩ | ⟨g', cap, cur, rfl, _, hg', _⟩
    · simp [Value.ownBlock] at e
    · have : g' = g := by simpa [Value.ownBlock] using e
      subst this
      exact (Blo.ne (show Blo w3 g' 5 cur from hg') hB3 (by decide)) rfl
  refine ⟨⟨hB3.cell 1, hB3.frozen 1⟩, ⟨by have := hB3.set 1 v3; simpa using this, ?_, h.ge⟩, K1.put (.inl rfl) _, ?_⟩
  · have := own_kept ho (Kept.one w3 g 1 none v3) (fun i hi hi' => hne (by cases hi'; exact hi))
    rw [bys_app, List.length_append]
    exact this
  · intro k hk
    rcases hn with e | e
    · exact .inl (e ▸ hk)
    · right
      rw [e] at hk
      injection hk with hk
      have : (((w.alloc (.cells #[.int .u8 (b.toNat : Int)] t)).drewN q)).heap.size = w.heap.size + 1 := by simp [World.drewN]
      omega

theorem beM_take (W x j : Nat) (h : j < W) : (beM W x).take (j + 1) = (beM W x).take j ++ [UInt8.ofNat (x / 2 ^ (8 * (W - 1 - j)))] := by
  rw [List.take_succ_eq_append_getElem (by rw [beM_len]; exact h)]
  simp [beM]
theorem lay_len (l : List UInt8) (W : Nat) (xs : List Nat) (k j n : Nat) (hk : k < xs.length) (hn : xs.length = n) (hj : j ≤ W) (hbd : l.length + n * W ≤ 1099511627776) :
    (l ++ beAll W (xs.take k) ++ (beM W xs[k]).take j).length ≤ 1099511627776 := by
  have h1 : (k + 1) * W ≤ n * W := Nat.mul_le_mul_right _ (by omega)
  have h2 : (xs.take k).length = k := by simp; omega
  simp only [List.length_append, beAll_len, List.length_take, beM_len, Nat.add_mul] at *
  rw [Nat.min_eq_left (by omega : k ≤ xs.length)]
  omega

theorem byte_s0 (x : Nat) (hx : x < 18446744073709551616) : IntKind.u8.wrap (IntKind.u64.wrap (x : Int)) = ((UInt8.ofNat (x / 2 ^ 0)).toNat : Int) := by
  rw [IntWalk.u64_in _ (by omega), IntKind.wrap_u8, UInt8.toNat_ofNat']; simp only [Nat.reducePow]; omega
theorem byte_s8 (x : Nat) (hx : x < 18446744073709551616) : IntKind.u8.wrap (IntKind.u64.wrap (x : Int) / 256) = ((UInt8.ofNat (x / 2 ^ 8)).toNat : Int) := by
  rw [IntWalk.u64_in _ (by omega), IntKind.wrap_u8, UInt8.toNat_ofNat']; simp only [Nat.reducePow]; omega
theorem byte_s16 (x : Nat) (hx : x < 18446744073709551616) : IntKind.u8.wrap (IntKind.u64.wrap (x : Int) / 65536) = ((UInt8.ofNat (x / 2 ^ 16)).toNat : Int) := by
  rw [IntWalk.u64_in _ (by omega), IntKind.wrap_u8, UInt8.toNat_ofNat']; simp only [Nat.reducePow]; omega
theorem byte_s24 (x : Nat) (hx : x < 18446744073709551616) : IntKind.u8.wrap (IntKind.u64.wrap (x : Int) / 16777216) = ((UInt8.ofNat (x / 2 ^ 24)).toNat : Int) := by
  rw [IntWalk.u64_in _ (by omega), IntKind.wrap_u8, UInt8.toNat_ofNat']; simp only [Nat.reducePow]; omega

set_option maxHeartbeats 1000000 in
theorem lay8 (B g : Nat) (v : Value) (l : List UInt8) (A : Option Addr) (n c : Nat) (xs : List Nat) (w : World) (h : Padd w B g v l) (hs : Nums .u8 w A n c xs) (hB : B ≤ w.heap.size)
    (hap : ∀ i, Lies A n i → ¬ foot g v i) (hbd : l.length + n * 1 ≤ 1099511627776) (hx : ∀ x ∈ xs, x < 256 ^ 1) :
    Calls Tryd.prog 70 #[.pointer (some ⟨g, 0, none⟩), .int .i64 1, .slice A n c] w fun e w' =>
      ∃ v', e = .returned (.pointer (some ⟨g, 0, none⟩)) ∧ Padd w' B g v' (l ++ beAll 1 xs) ∧ Kept (foot g v) w w' ∧ Newer w.heap.size v v' := by
  have hnc := hs.2.1
  have hcc := hs.2.2.1
  have h0 := h.c0
  go_enter Tryd.func70, Tryd.ntmps70
  go_wp2_with (go_at_call 71; refine (pnone_yes g _ h0).mono ?_; rintro e w' ⟨rfl, rfl⟩)
  go_loopw [15] (fun i wr => ∃ (k : Nat) (v' : Value), k ≤ n ∧ i = .int .i64 k ∧ Padd wr B g v' (l ++ beAll 1 (xs.take k)) ∧ Kept (foot g v) w wr ∧ Newer w.heap.size v v') (fun i _ => n - (intOf i).toNat)
  case atStart => exact ⟨0, v, Nat.zero_le _, rfl, by simpa [beAll] using h, Kept.refl _ _, Newer.refl _ _⟩
  case round =>
    obtain ⟨k, v', hk, rfl, hp, hkp, hnw⟩ := hrel
    by_cases hlt : k < n
    · have hkl : k < xs.length := by rw [hs.1]; exact hlt
      obtain ⟨b, o, rfl, hce⟩ := (hs.kept hkp hap).at hkl
      have HP := Lib.hid hp
      have HK := Lib.hid hkp
      have HN := Lib.hid hnw
      have hxk : xs[k] < 256 ^ 1 := hx _ (List.getElem_mem hkl)
      have hxk' : xs[k] < 18446744073709551616 := Nat.lt_of_lt_of_le hxk (by decide)
      have HX := Lib.hid hxk
      clear hp hkp hnw hxk
      go_wp2
      obtain ⟨wo, rfl⟩ : ∃ wo : World, wo = wr := ⟨_, rfl⟩
      go_loopw [9] (fun sh wr => ∃ (j : Nat) (v' : Value) (z : Int), j ≤ 1 ∧ z = 8 * (1 - 1 : Int) - 8 * j ∧ sh = .int .i64 z ∧ Padd wr B g v' (l ++ beAll 1 (xs.take k) ++ (beM 1 xs[k]).take j) ∧ Kept (foot g v) w wr ∧ Newer w.heap.size v v') (fun sh _ => (intOf sh + 8).toNat)
      case atStart => exact ⟨0, v', 8 * (1 - 1), by omega, by omega, by go_num, by simpa using HP.out, HK.out, HN.out⟩
      case round =>
        obtain ⟨j, v2, z, hj, hz, rfl, hp, hkp, hnw⟩ := hrel
        by_cases hjl : j < 1
        · have hLl := lay_len l 1 xs k j n hkl hs.1 hj hbd
          have hLn := beM_take 1 xs[k] j hjl
          obtain ⟨L, hL⟩ : ∃ L, L = l ++ beAll 1 (xs.take k) ++ (beM 1 xs[k]).take j := ⟨_, rfl⟩
          rw [← hL] at hp hLl
          obtain ⟨bb, hbb⟩ : ∃ bb, bb = UInt8.ofNat (xs[k] / 2 ^ (8 * (1 - 1 - j))) := ⟨_, rfl⟩
          rw [← hbb] at hLn
          have HL := Lib.hid hL
          have HLn := Lib.hid hLn
          have HBB := Lib.hid hbb
          have q1 := hp.c1
          have q2 := hp.blo.frozen 1
          have hgl : g < wr.heap.size := hp.blo.lt
          have hga := fun o => World.cell?_alloc_lt wr o ⟨g, 1, none⟩ hgl
          rw [q1] at hga
          have hsz : B ≤ wr.heap.size := Nat.le_trans hB hkp.size
          obtain ⟨i0, hi, hz0, hz1, hz2⟩ := info_parts Tryd.infb
          have HP2 := Lib.hid hp
          have HK2 := Lib.hid hkp
          have HN2 := Lib.hid hnw
          clear hp hkp hnw hL hLn hbb
          rcases (show z = 0 ∨ z = 8 ∨ z = 16 ∨ z = 24 by omega) with rfl | rfl | rfl | rfl
          all_goals first | (exfalso; omega) | skip
          all_goals
            have HZ := Lib.hid hz
            clear hz
            go_wp2
            go_region_law (refine step_own rfl (.tmp 30) (.tmp 36) 22 rfl B 5 i0 (.int .u8 0) 1 1 Tryd.underlying22 hi hz0 hz1 hz2 rfl (by decide) v2 _ _ rfl (by exact HP2.out.own.alloc _) ⟨_, 0, none⟩ 1 1 [_] rfl rfl (cell_one_new _ _ _) (by intro u hu; simp at hu; subst hu; rfl) (by unfold maxLen; omega) (by omega) (by simp; omega) ?_; intro v3 w3 ho3 hg3 hn3; obtain ⟨A3, c3, rfl⟩ := own_form ho3; obtain ⟨⟨s1, s2⟩, HQ⟩ := pad_step (b := bb) HP2.out ⟨1, rfl⟩ (by rw [HBB.out]; first | (rw [show 8 * (1 - 1 - j) = 0 from by have := HZ.out; omega]; exact byte_s0 _ hxk') | (rw [show 8 * (1 - 1 - j) = 8 from by have := HZ.out; omega]; exact byte_s8 _ hxk') | (rw [show 8 * (1 - 1 - j) = 16 from by have := HZ.out; omega]; exact byte_s16 _ hxk') | (rw [show 8 * (1 - 1 - j) = 24 from by have := HZ.out; omega]; exact byte_s24 _ hxk')) ho3 hg3 hn3; clear ho3 hg3 hn3)
            all_goals
              go_wp2
              go_roundw
              case rel => exact ⟨j + 1, _, _, by omega, by have := HZ.out; omega, rfl, by rw [HLn.out, ← List.append_assoc, ← HL.out]; exact HQ.out.1, HK2.out.trans HQ.out.2.1 (foot_newer HN2.out), HN2.out.trans HQ.out.2.2 HK2.out.size⟩
              case measure => simp [intOf]
        · have hfull : (beM 1 xs[k]).take j = beM 1 xs[k] := List.take_of_length_le (by rw [beM_len]; omega)
          rw [hfull, List.append_assoc, ← beAll_snoc 1 xs k hkl] at hp
          have HP2 := Lib.hid hp
          have HK2 := Lib.hid hkp
          have HN2 := Lib.hid hnw
          clear hp hkp hnw hfull
          have hz2 : z < 0 := by omega
          have HZ := Lib.hid hz
          clear hz
          go_wp2
          go_roundw
          case rel => exact ⟨k + 1, _, by omega, by go_num, HP2.out, HK2.out, HN2.out⟩
          case measure => simp [intOf]; omega
    · have hfull : xs.take k = xs := List.take_of_length_le (by rw [hs.1]; omega)
      rw [hfull] at hp
      have HP2 := Lib.hid hp
      have HK2 := Lib.hid hkp
      have HN2 := Lib.hid hnw
      clear hp hkp hnw hfull
      go_wp2
      go_ret
      exact ⟨_, rfl, HP2.out, HK2.out, HN2.out⟩
set_option maxHeartbeats 1000000 in
theorem lay16 (B g : Nat) (v : Value) (l : List UInt8) (A : Option Addr) (n c : Nat) (xs : List Nat) (w : World) (h : Padd w B g v l) (hs : Nums .u16 w A n c xs) (hB : B ≤ w.heap.size)
    (hap : ∀ i, Lies A n i → ¬ foot g v i) (hbd : l.length + n * 2 ≤ 1099511627776) (hx : ∀ x ∈ xs, x < 256 ^ 2) :
    Calls Tryd.prog 74 #[.pointer (some ⟨g, 0, none⟩), .int .i64 2, .slice A n c] w fun e w' =>
      ∃ v', e = .returned (.pointer (some ⟨g, 0, none⟩)) ∧ Padd w' B g v' (l ++ beAll 2 xs) ∧ Kept (foot g v) w w' ∧ Newer w.heap.size v v' := by
  have hnc := hs.2.1
  have hcc := hs.2.2.1
  have h0 := h.c0
  go_enter Tryd.func74, Tryd.ntmps74
  go_wp2_with (go_at_call 71; refine (pnone_yes g _ h0).mono ?_; rintro e w' ⟨rfl, rfl⟩)
  go_loopw [15] (fun i wr => ∃ (k : Nat) (v' : Value), k ≤ n ∧ i = .int .i64 k ∧ Padd wr B g v' (l ++ beAll 2 (xs.take k)) ∧ Kept (foot g v) w wr ∧ Newer w.heap.size v v') (fun i _ => n - (intOf i).toNat)
  case atStart => exact ⟨0, v, Nat.zero_le _, rfl, by simpa [beAll] using h, Kept.refl _ _, Newer.refl _ _⟩
  case round =>
    obtain ⟨k, v', hk, rfl, hp, hkp, hnw⟩ := hrel
    by_cases hlt : k < n
    · have hkl : k < xs.length := by rw [hs.1]; exact hlt
      obtain ⟨b, o, rfl, hce⟩ := (hs.kept hkp hap).at hkl
      have HP := Lib.hid hp
      have HK := Lib.hid hkp
      have HN := Lib.hid hnw
      have hxk : xs[k] < 256 ^ 2 := hx _ (List.getElem_mem hkl)
      have hxk' : xs[k] < 18446744073709551616 := Nat.lt_of_lt_of_le hxk (by decide)
      have HX := Lib.hid hxk
      clear hp hkp hnw hxk
      go_wp2
      obtain ⟨wo, rfl⟩ : ∃ wo : World, wo = wr := ⟨_, rfl⟩
      go_loopw [9] (fun sh wr => ∃ (j : Nat) (v' : Value) (z : Int), j ≤ 2 ∧ z = 8 * (2 - 1 : Int) - 8 * j ∧ sh = .int .i64 z ∧ Padd wr B g v' (l ++ beAll 2 (xs.take k) ++ (beM 2 xs[k]).take j) ∧ Kept (foot g v) w wr ∧ Newer w.heap.size v v') (fun sh _ => (intOf sh + 8).toNat)
      case atStart => exact ⟨0, v', 8 * (2 - 1), by omega, by omega, by go_num, by simpa using HP.out, HK.out, HN.out⟩
      case round =>
        obtain ⟨j, v2, z, hj, hz, rfl, hp, hkp, hnw⟩ := hrel
        by_cases hjl : j < 2
        · have hLl := lay_len l 2 xs k j n hkl hs.1 hj hbd
          have hLn := beM_take 2 xs[k] j hjl
          obtain ⟨L, hL⟩ : ∃ L, L = l ++ beAll 2 (xs.take k) ++ (beM 2 xs[k]).take j := ⟨_, rfl⟩
          rw [← hL] at hp hLl
          obtain ⟨bb, hbb⟩ : ∃ bb, bb = UInt8.ofNat (xs[k] / 2 ^ (8 * (2 - 1 - j))) := ⟨_, rfl⟩
          rw [← hbb] at hLn
          have HL := Lib.hid hL
          have HLn := Lib.hid hLn
          have HBB := Lib.hid hbb
          have q1 := hp.c1
          have q2 := hp.blo.frozen 1
          have hgl : g < wr.heap.size := hp.blo.lt
          have hga := fun o => World.cell?_alloc_lt wr o ⟨g, 1, none⟩ hgl
          rw [q1] at hga
          have hsz : B ≤ wr.heap.size := Nat.le_trans hB hkp.size
          obtain ⟨i0, hi, hz0, hz1, hz2⟩ := info_parts Tryd.infb
          have HP2 := Lib.hid hp
          have HK2 := Lib.hid hkp
          have HN2 := Lib.hid hnw
          clear hp hkp hnw hL hLn hbb
          rcases (show z = 0 ∨ z = 8 ∨ z = 16 ∨ z = 24 by omega) with rfl | rfl | rfl | rfl
          all_goals first | (exfalso; omega) | skip
          all_goals
            have HZ := Lib.hid hz
            clear hz
            go_wp2
            go_region_law (refine step_own rfl (.tmp 30) (.tmp 36) 22 rfl B 5 i0 (.int .u8 0) 1 1 Tryd.underlying22 hi hz0 hz1 hz2 rfl (by decide) v2 _ _ rfl (by exact HP2.out.own.alloc _) ⟨_, 0, none⟩ 1 1 [_] rfl rfl (cell_one_new _ _ _) (by intro u hu; simp at hu; subst hu; rfl) (by unfold maxLen; omega) (by omega) (by simp; omega) ?_; intro v3 w3 ho3 hg3 hn3; obtain ⟨A3, c3, rfl⟩ := own_form ho3; obtain ⟨⟨s1, s2⟩, HQ⟩ := pad_step (b := bb) HP2.out ⟨1, rfl⟩ (by rw [HBB.out]; first | (rw [show 8 * (2 - 1 - j) = 0 from by have := HZ.out; omega]; exact byte_s0 _ hxk') | (rw [show 8 * (2 - 1 - j) = 8 from by have := HZ.out; omega]; exact byte_s8 _ hxk') | (rw [show 8 * (2 - 1 - j) = 16 from by have := HZ.out; omega]; exact byte_s16 _ hxk') | (rw [show 8 * (2 - 1 - j) = 24 from by have := HZ.out; omega]; exact byte_s24 _ hxk')) ho3 hg3 hn3; clear ho3 hg3 hn3)
            all_goals
              go_wp2
              go_roundw
              case rel => exact ⟨j + 1, _, _, by omega, by have := HZ.out; omega, rfl, by rw [HLn.out, ← List.append_assoc, ← HL.out]; exact HQ.out.1, HK2.out.trans HQ.out.2.1 (foot_newer HN2.out), HN2.out.trans HQ.out.2.2 HK2.out.size⟩
              case measure => simp [intOf]
        · have hfull : (beM 2 xs[k]).take j = beM 2 xs[k] := List.take_of_length_le (by rw [beM_len]; omega)
          rw [hfull, List.append_assoc, ← beAll_snoc 2 xs k hkl] at hp
          have HP2 := Lib.hid hp
          have HK2 := Lib.hid hkp
          have HN2 := Lib.hid hnw
          clear hp hkp hnw hfull
          have hz2 : z < 0 := by omega
          have HZ := Lib.hid hz
          clear hz
          go_wp2
          go_roundw
          case rel => exact ⟨k + 1, _, by omega, by go_num, HP2.out, HK2.out, HN2.out⟩
          case measure => simp [intOf]; omega
    · have hfull : xs.take k = xs := List.take_of_length_le (by rw [hs.1]; omega)
      rw [hfull] at hp
      have HP2 := Lib.hid hp
      have HK2 := Lib.hid hkp
      have HN2 := Lib.hid hnw
      clear hp hkp hnw hfull
      go_wp2
      go_ret
      exact ⟨_, rfl, HP2.out, HK2.out, HN2.out⟩
set_option maxHeartbeats 1000000 in
theorem lay32 (B g : Nat) (v : Value) (l : List UInt8) (A : Option Addr) (n c : Nat) (xs : List Nat) (w : World) (h : Padd w B g v l) (hs : Nums .u32 w A n c xs) (hB : B ≤ w.heap.size)
    (hap : ∀ i, Lies A n i → ¬ foot g v i) (hbd : l.length + n * 4 ≤ 1099511627776) (hx : ∀ x ∈ xs, x < 256 ^ 4) :
    Calls Tryd.prog 75 #[.pointer (some ⟨g, 0, none⟩), .int .i64 4, .slice A n c] w fun e w' =>
      ∃ v', e = .returned (.pointer (some ⟨g, 0, none⟩)) ∧ Padd w' B g v' (l ++ beAll 4 xs) ∧ Kept (foot g v) w w' ∧ Newer w.heap.size v v' := by
  have hnc := hs.2.1
  have hcc := hs.2.2.1
  have h0 := h.c0
  go_enter Tryd.func75, Tryd.ntmps75
  go_wp2_with (go_at_call 71; refine (pnone_yes g _ h0).mono ?_; rintro e w' ⟨rfl, rfl⟩)
  go_loopw [15] (fun i wr => ∃ (k : Nat) (v' : Value), k ≤ n ∧ i = .int .i64 k ∧ Padd wr B g v' (l ++ beAll 4 (xs.take k)) ∧ Kept (foot g v) w wr ∧ Newer w.heap.size v v') (fun i _ => n - (intOf i).toNat)
  case atStart => exact ⟨0, v, Nat.zero_le _, rfl, by simpa [beAll] using h, Kept.refl _ _, Newer.refl _ _⟩
  case round =>
    obtain ⟨k, v', hk, rfl, hp, hkp, hnw⟩ := hrel
    by_cases hlt : k < n
    · have hkl : k < xs.length := by rw [hs.1]; exact hlt
      obtain ⟨b, o, rfl, hce⟩ := (hs.kept hkp hap).at hkl
      have HP := Lib.hid hp
      have HK := Lib.hid hkp
      have HN := Lib.hid hnw
      have hxk : xs[k] < 256 ^ 4 := hx _ (List.getElem_mem hkl)
      have hxk' : xs[k] < 18446744073709551616 := Nat.lt_of_lt_of_le hxk (by decide)
      have HX := Lib.hid hxk
      clear hp hkp hnw hxk
      go_wp2
      obtain ⟨wo, rfl⟩ : ∃ wo : World, wo = wr := ⟨_, rfl⟩
      go_loopw [9] (fun sh wr => ∃ (j : Nat) (v' : Value) (z : Int), j ≤ 4 ∧ z = 8 * (4 - 1 : Int) - 8 * j ∧ sh = .int .i64 z ∧ Padd wr B g v' (l ++ beAll 4 (xs.take k) ++ (beM 4 xs[k]).take j) ∧ Kept (foot g v) w wr ∧ Newer w.heap.size v v') (fun sh _ => (intOf sh + 8).toNat)
      case atStart => exact ⟨0, v', 8 * (4 - 1), by omega, by omega, by go_num, by simpa using HP.out, HK.out, HN.out⟩
      case round =>
        obtain ⟨j, v2, z, hj, hz, rfl, hp, hkp, hnw⟩ := hrel
        by_cases hjl : j < 4
        · have hLl := lay_len l 4 xs k j n hkl hs.1 hj hbd
          have hLn := beM_take 4 xs[k] j hjl
          obtain ⟨L, hL⟩ : ∃ L, L = l ++ beAll 4 (xs.take k) ++ (beM 4 xs[k]).take j := ⟨_, rfl⟩
          rw [← hL] at hp hLl
          obtain ⟨bb, hbb⟩ : ∃ bb, bb = UInt8.ofNat (xs[k] / 2 ^ (8 * (4 - 1 - j))) := ⟨_, rfl⟩
          rw [← hbb] at hLn
          have HL := Lib.hid hL
          have HLn := Lib.hid hLn
          have HBB := Lib.hid hbb
          have q1 := hp.c1
          have q2 := hp.blo.frozen 1
          have hgl : g < wr.heap.size := hp.blo.lt
          have hga := fun o => World.cell?_alloc_lt wr o ⟨g, 1, none⟩ hgl
          rw [q1] at hga
          have hsz : B ≤ wr.heap.size := Nat.le_trans hB hkp.size
          obtain ⟨i0, hi, hz0, hz1, hz2⟩ := info_parts Tryd.infb
          have HP2 := Lib.hid hp
          have HK2 := Lib.hid hkp
          have HN2 := Lib.hid hnw
          clear hp hkp hnw hL hLn hbb
          rcases (show z = 0 ∨ z = 8 ∨ z = 16 ∨ z = 24 by omega) with rfl | rfl | rfl | rfl
          all_goals first | (exfalso; omega) | skip
          all_goals
            have HZ := Lib.hid hz
            clear hz
            go_wp2
            go_region_law (refine step_own rfl (.tmp 30) (.tmp 36) 22 rfl B 5 i0 (.int .u8 0) 1 1 Tryd.underlying22 hi hz0 hz1 hz2 rfl (by decide) v2 _ _ rfl (by exact HP2.out.own.alloc _) ⟨_, 0, none⟩ 1 1 [_] rfl rfl (cell_one_new _ _ _) (by intro u hu; simp at hu; subst hu; rfl) (by unfold maxLen; omega) (by omega) (by simp; omega) ?_; intro v3 w3 ho3 hg3 hn3; obtain ⟨A3, c3, rfl⟩ := own_form ho3; obtain ⟨⟨s1, s2⟩, HQ⟩ := pad_step (b := bb) HP2.out ⟨1, rfl⟩ (by rw [HBB.out]; first | (rw [show 8 * (4 - 1 - j) = 0 from by have := HZ.out; omega]; exact byte_s0 _ hxk') | (rw [show 8 * (4 - 1 - j) = 8 from by have := HZ.out; omega]; exact byte_s8 _ hxk') | (rw [show 8 * (4 - 1 - j) = 16 from by have := HZ.out; omega]; exact byte_s16 _ hxk') | (rw [show 8 * (4 - 1 - j) = 24 from by have := HZ.out; omega]; exact byte_s24 _ hxk')) ho3 hg3 hn3; clear ho3 hg3 hn3)
            all_goals
              go_wp2
              go_roundw
              case rel => exact ⟨j + 1, _, _, by omega, by have := HZ.out; omega, rfl, by rw [HLn.out, ← List.append_assoc, ← HL.out]; exact HQ.out.1, HK2.out.trans HQ.out.2.1 (foot_newer HN2.out), HN2.out.trans HQ.out.2.2 HK2.out.size⟩
              case measure => simp [intOf]
        · have hfull : (beM 4 xs[k]).take j = beM 4 xs[k] := List.take_of_length_le (by rw [beM_len]; omega)
          rw [hfull, List.append_assoc, ← beAll_snoc 4 xs k hkl] at hp
          have HP2 := Lib.hid hp
          have HK2 := Lib.hid hkp
          have HN2 := Lib.hid hnw
          clear hp hkp hnw hfull
          have hz2 : z < 0 := by omega
          have HZ := Lib.hid hz
          clear hz
          go_wp2
          go_roundw
          case rel => exact ⟨k + 1, _, by omega, by go_num, HP2.out, HK2.out, HN2.out⟩
          case measure => simp [intOf]; omega
    · have hfull : xs.take k = xs := List.take_of_length_le (by rw [hs.1]; omega)
      rw [hfull] at hp
      have HP2 := Lib.hid hp
      have HK2 := Lib.hid hkp
      have HN2 := Lib.hid hnw
      clear hp hkp hnw hfull
      go_wp2
      go_ret
      exact ⟨_, rfl, HP2.out, HK2.out, HN2.out⟩
end Go.Proofs.YthjbabkmjmfmjaaDoor
