/- Texts that belong together, one behind the other: TrGl, TrC. Conditions: those of each. -/
import Derived.Test.YthjbabkmjmfmjaaDoorTrM
import Derived.Test.YthjbabkmjmfmjaaDoorRows
import Derived.LaidSub
import Derived.Lib.LaidTab
import Derived.FnData
import Derived.OpenShut
import Derived.Shelf.Vars
import Derived.Test.YthjbabkmjmfmjaaDoorTrB
/- What a row's listed variables and the world's shape say of this stage's variables. -/
namespace Go.Proofs.YthjbabkmjmfmjaaDoor
open Go Go.RowKit
set_option linter.unusedVariables false

/-- An array of texts that reads as the listed one holds these texts. -/
theorem cells_of_texts {H : Type} {enc : TypeId × Value → H} {P : Program} {w : World} {base : Nat} {sp : Nat → Bool} {held : Bool} {fuel : Nat} {t e : TypeId} {n : Nat} {cs : List Value} {zs : List (List UInt8)} {p : List MemPlace}
    (ht : P.underlying t = some (.array n e)) (he : P.underlying e = some .string) (hce : P.cellsOf e = 1) (hct : P.cellsOf t = n)
    (h : DataW.trod enc P w base sp held fuel t cs = some (.agg (zs.map fun z => .lit (.string z)), p)) : cs = zs.map fun z => Value.string ⟨z.toArray⟩ := by
  obtain ⟨xs, m, _, hx, hl, hxs, hel⟩ := DataW.trod_array ht h
  rw [hct] at hl
  rw [hce] at hel
  have hx2 : xs.map (·.1) = zs.map fun z => (DataW.lit (.string z) : DataW H) := by
    have := congrArg Prod.fst hx
    simpa using this.symm
  have hzl : zs.length = n := by
    have := congrArg List.length hx2
    simp at this
    omega
  apply List.ext_getElem?
  intro i
  by_cases hi : i < n
  · have hf := hel i hi
    rw [List.getElem?_eq_getElem (by omega), Nat.mul_one] at hf
    have hci : i < cs.length := by omega
    have hd : (cs.drop i).take 1 = [cs[i]] := by
      rw [List.drop_eq_getElem_cons hci]
      rfl
    rw [hd] at hf
    obtain ⟨s, hc, hx3, _⟩ := DataW.trod_string he hf
    have h2 : (xs.map (·.1))[i]? = some (DataW.lit (.string s.data.toList) : DataW H) := by
      rw [List.getElem?_map, List.getElem?_eq_getElem (by omega), hx3]; rfl
    rw [hx2] at h2
    simp only [List.getElem?_map, Option.map_eq_some_iff, DataW.lit.injEq, Lit.string.injEq] at h2
    obtain ⟨z, hz, hz2⟩ := h2
    simp at hc
    rw [List.getElem?_eq_getElem hci, hc, List.getElem?_map, hz, hz2]
    rfl
  · rw [List.getElem?_eq_none (by omega), List.getElem?_eq_none (by simp; omega)]
/-- What a walk of this stage may read of the package-level variables. -/
structure Gl (w : World) : Prop where
  nm : Nm w
  mx : ∃ m : Int, w.cell? ⟨1, 0, none⟩ = some (.int .i64 m)
theorem Gl.kept {w w' : World} (h : Gl w) (k : Kept Nil w w') : Gl w' := ⟨h.nm.kept k, by obtain ⟨m, hm⟩ := h.mx; exact ⟨m, k.cell hm (fun hf => hf)⟩⟩
theorem gl_of {w : World} {l : List (String × DataW Unit)} (h : laidMetH Tryd.prog l w) (hsh : w.ShapedOpen Tryd.prog)
    (e1 : l.filter (fun x => x.1 == "toll/trans.names") = [("toll/trans.names", Rows.laid_toll_trans_names)]) : Gl w := by
  have h1 := h.filter (fun x => x.1 == "toll/trans.names")
  rw [e1] at h1
  have k1 : laidMet Tryd.prog [("toll/trans.names", Rows.laid_toll_trans_names)] w := h1
  refine ⟨?_, ?_⟩
  · obtain ⟨ps, ⟨g', t', cs, fuel, p, q, hg', ht', hvar, hd, _, _⟩, _⟩ := k1
    obtain rfl := Option.some.inj ((show Tryd.prog.globalNamed "toll/trans.names" = some 0 by kernel_rfl).symm.trans hg')
    obtain rfl := Option.some.inj ((show (Tryd.prog.globals[0]?).map (·.type) = some 111 by kernel_rfl).symm.trans ht')
    have hcs := cells_of_texts (zs := flagL) (n := 8) (e := 9) Tryd.underlying111 Tryd.underlying9 (by kernel_rfl) (by kernel_rfl) hd
    have hcs' : cs.toList = namesV := hcs
    intro i u hu
    have := World.var?_cell (show Tryd.prog.globalNamed "toll/trans.names" = some 0 by kernel_rfl) hvar i
    rw [Nat.zero_add, this]
    rw [← hcs'] at hu
    simpa using hu
  · exact cell_of_shapedOpen_int (P := Tryd.prog) (g := 1) (t := 3) (zero := #[.int .i64 0]) hsh (of_decide_eq_true (by kernel_rfl)) (by kernel_rfl) rfl (by kernel_rfl) (by kernel_rfl) Tryd.underlying3
end Go.Proofs.YthjbabkmjmfmjaaDoor
/- Package trans: contract of GetUdp. -/
namespace Go.Proofs.YthjbabkmjmfmjaaDoor
open Go.RowKit Go.Sort
set_option linter.unusedVariables false

/-- What is told where all is there; what is told else. -/
theorem ugot_of (l L : List UInt8) (n m0 : Nat) {x1 x2 x3 x4 : Nat} (hl : l.length = n) (hL : l.take m0 = L) (hm : m0 = min 8 n) (hb : 8 ≤ m0) (e : x1 = numM ((L.drop 0).take 2) ∧ x2 = numM ((L.drop 2).take 2) ∧ x3 = numM ((L.drop 4).take 2) ∧ x4 = numM ((L.drop 6).take 2)) :
    (x3 < 8 → getU l = (Ud.zero, 5)) ∧ (8 ≤ x3 → n < x3 → getU l = (Ud.zero, 4)) ∧ (8 ≤ x3 → x3 ≤ n → getU l = (⟨x1, x2, x3, x4, (l.take x3).drop 8⟩, 0)) := by
  subst hL
  obtain ⟨e1, e2, e3, e4⟩ := e
  rw [sub_at l m0 0 2 (by omega), List.drop_zero] at e1
  rw [sub_at l m0 2 2 (by omega)] at e2
  rw [sub_at l m0 4 2 (by omega)] at e3
  rw [sub_at l m0 6 2 (by omega)] at e4
  have hn : udN l = x3 := e3.symm
  refine ⟨fun h => ?_, fun h h2 => ?_, fun h h2 => ?_⟩
  · unfold getU
    rw [if_neg (by omega), hn, if_pos h]
  · unfold getU
    rw [if_neg (by omega), hn, if_neg (by omega), if_pos (by omega)]
  · unfold getU
    rw [if_neg (by omega), hn, if_neg (by omega), if_neg (by omega)]
    unfold udOf
    rw [hn, ← e1, ← e2, ← e4]
theorem ugot_short (l L : List UInt8) (n m0 : Nat) (hl : l.length = n) (hL : l.take m0 = L) (hm : m0 = min 8 n) (hb : L.length < 8) : getU l = (Ud.zero, 4) := by
  subst hL
  rw [List.length_take] at hb
  unfold getU
  rw [if_pos (by omega)]
theorem ugot_zero {w w' : World} {er : Int} {r : Ud × Int} (hr : r = (Ud.zero, er)) (hk : Kept Nil w w') : UGot w (.returned (.tuple #[.agg (ucs Ud.zero none 0 0).toArray, .int .i64 er])) w' r := by
  subst hr
  exact ⟨none, 0, 0, rfl, newB_none _ _, hk⟩
set_option maxRecDepth 100000 in
set_option maxHeartbeats 16000000 in
theorem uget_yes (A : Option Addr) (n c : Nat) (l : List UInt8) (w : World) (h : Byt w A n c l) (hn : n ≤ 1099511627776) : Calls Tryd.prog 12 #[.slice A n c] w fun e w' => UGot w e w' (getU l) := by
  have hnc := h.2.1
  have hcc := h.2.2.1
  obtain ⟨m0, hm, hmn, hm1, hm2, hm3⟩ := min8 n
  have hsl := run_cut_hi (P := Tryd.prog) Tryd.underlying22 inf5.1 A n c m0 (m0 : Int) rfl (by omega)
  have HLN := Lib.hid h.1
  have HBL := Lib.hid h
  have HBY := Lib.hid (h.pre hm1)
  have hll : (l.take m0).length = m0 := by rw [List.length_take, h.1]; omega
  obtain ⟨L, hL⟩ : ∃ L, l.take m0 = L := ⟨_, rfl⟩
  rw [hL] at HBY hll
  have HL0 := Lib.hid hL
  have HLL := Lib.hid hll
  have HM := Lib.hid (And.intro hm2 (And.intro hm3 (show m0 ≤ c by omega)))
  have HZ0 := Lib.hid (UB.new w 38 Ud.zero none 0 0)
  have HK0 := Lib.hid ((Kept.refl Nil w).alloc (.cells (ucs Ud.zero none 0 0).toArray 38))
  have HS0 := Lib.hid (show (w.alloc (.cells (ucs Ud.zero none 0 0).toArray 38)).heap.size = w.heap.size + 1 by simp)
  clear h hm3 hL hll hm1
  go_enter Tryd.func12, Tryd.ntmps12
  go_wp2_with (fail)
  refine (new_yes A m0 c L _ (HBY.out.kept HK0.out (fun _ _ hf => hf)) (by have := HM.out.1; omega)).mono ?_
  rintro e w1 ⟨g, A', c', rfl, hc, hk, hg, hl⟩
  obtain ⟨gz, hgz⟩ : ∃ gz, w.heap.size = gz := ⟨_, rfl⟩
  have HC0 := Lib.hid hc
  have HZa := Lib.hid (HZ0.out.kept hk (fun hf => hf))
  have HKa := Lib.hid (HK0.out.then hk)
  have HG := Lib.hid (show w.heap.size ≤ g ∧ gz < g by have := HS0.out; omega)
  have HLZ := Lib.hid (show w.heap.size ≤ gz ∧ gz < g by have := HS0.out; omega)
  have HA := Lib.hid (show ∀ i, Lies A' m0 i → gz < i ∧ i < w1.heap.size from fun i hi => by have := HS0.out; have := hl i hi; have := hc.byt.lt i hi; omega)
  have HGL0 := Lib.hid hc.blo.lt
  rw [hgz] at HZa ⊢
  clear hc hk hg hl HZ0 HK0 HS0 hsl hm hmn hgz
  have HZ0 := HZa
  have HK0 := HKa
  clear HZa HKa
  go_wp2_with (fail)
  refine (Two_yes _ _ _ _ _ _ HC0.out).mono ?_
  rintro e w2 ⟨rfl, hc, hk⟩
  obtain ⟨s1, h1⟩ : ∃ s, (takeM ⟨L, 0, 0⟩ 2).2 = s := ⟨_, rfl⟩
  obtain ⟨x1, h2⟩ : ∃ x, numM (takeM ⟨L, 0, 0⟩ 2).1 = x := ⟨_, rfl⟩
  have HX1 := Lib.hid (show x1 < 65536 by rw [← h2]; exact num_le (n := 2) (takeM_len2 _ 2))
  rw [h1] at hc
  rw [h2]
  have HC1 := Lib.hid hc
  have HZ1 := Lib.hid (HZ0.out.kept hk (fun hf => by have := HG.out; have := HLZ.out; cases hf; omega))
  have HK1 := Lib.hid (HK0.out.fresh hk (fun i hi => by cases hi; have := HG.out; omega))
  have HH1 := Lib.hid (And.intro h1 h2)
  clear hc hk h1 h2 HC0 HZ0 HK0
  go_wp2_with (fail)
  refine (Two_yes _ _ _ _ _ _ HC1.out).mono ?_
  rintro e w3 ⟨rfl, hc, hk⟩
  obtain ⟨s2, h1⟩ : ∃ s, (takeM s1 2).2 = s := ⟨_, rfl⟩
  obtain ⟨x2, h2⟩ : ∃ x, numM (takeM s1 2).1 = x := ⟨_, rfl⟩
  have HX2 := Lib.hid (show x2 < 65536 by rw [← h2]; exact num_le (n := 2) (takeM_len2 _ 2))
  rw [h1] at hc
  rw [h2]
  have HC2 := Lib.hid hc
  have HZ2 := Lib.hid (HZ1.out.kept hk (fun hf => by have := HG.out; have := HLZ.out; cases hf; omega))
  have HK2 := Lib.hid (HK1.out.fresh hk (fun i hi => by cases hi; have := HG.out; omega))
  have HH2 := Lib.hid (And.intro h1 h2)
  clear hc hk h1 h2 HC1 HZ1 HK1
  go_wp2_with (fail)
  refine (Two_yes _ _ _ _ _ _ HC2.out).mono ?_
  rintro e w4 ⟨rfl, hc, hk⟩
  obtain ⟨s3, h1⟩ : ∃ s, (takeM s2 2).2 = s := ⟨_, rfl⟩
  obtain ⟨x3, h2⟩ : ∃ x, numM (takeM s2 2).1 = x := ⟨_, rfl⟩
  have HX3 := Lib.hid (show x3 < 65536 by rw [← h2]; exact num_le (n := 2) (takeM_len2 _ 2))
  rw [h1] at hc
  rw [h2]
  have HC3 := Lib.hid hc
  have HZ3 := Lib.hid (HZ2.out.kept hk (fun hf => by have := HG.out; have := HLZ.out; cases hf; omega))
  have HK3 := Lib.hid (HK2.out.fresh hk (fun i hi => by cases hi; have := HG.out; omega))
  have HH3 := Lib.hid (And.intro h1 h2)
  clear hc hk h1 h2 HC2 HZ2 HK2
  go_wp2_with (fail)
  refine (Two_yes _ _ _ _ _ _ HC3.out).mono ?_
  rintro e w5 ⟨rfl, hc, hk⟩
  obtain ⟨s4, h1⟩ : ∃ s, (takeM s3 2).2 = s := ⟨_, rfl⟩
  obtain ⟨x4, h2⟩ : ∃ x, numM (takeM s3 2).1 = x := ⟨_, rfl⟩
  have HX4 := Lib.hid (show x4 < 65536 by rw [← h2]; exact num_le (n := 2) (takeM_len2 _ 2))
  rw [h1] at hc
  rw [h2]
  have HC4 := Lib.hid hc
  have HZ4 := Lib.hid (HZ3.out.kept hk (fun hf => by have := HG.out; have := HLZ.out; cases hf; omega))
  have HK4 := Lib.hid (HK3.out.fresh hk (fun i hi => by cases hi; have := HG.out; omega))
  have HH4 := Lib.hid (And.intro h1 h2)
  clear hc hk h1 h2 HC3 HZ3 HK3
  have HN4 := Lib.hid (UB.new w5 38 Ud.zero none 0 0)
  have HGC := Lib.hid HC4.out.blo.lt
  go_upto_region 3 with (first
    | (refine wpList_st rfl _ (.tmp 5) _ rfl _ 0 rfl (ucs ⟨x1, x2, x3, x4, []⟩ none 0 0) _ rfl rfl (infUc _ _ _ _) 38 _ HN4.out (by show 0 + 5 ≤ 5; omega) (ucs_one _ _ _ _) ?_; intro v5 hb hk hz; simp only [Act.put])
    | fail)
  have hk2 := ((Kept.refl Nil w5).alloc (.cells (ucs Ud.zero none 0 0).toArray 38)).fresh hk (fun i hi => by cases hi; exact Nat.le_refl _)
  have HT5 := Lib.hid (show UB v5 w5.heap.size 38 ⟨x1, x2, x3, x4, []⟩ none 0 0 from hb)
  have HZ5 := Lib.hid (HZ4.out.kept hk2 (fun hf => hf))
  have HC5 := Lib.hid (HC4.out.nil hk2)
  have HK5 := Lib.hid (HK4.out.then hk2)
  obtain ⟨gt, hgt⟩ : ∃ gt, w5.heap.size = gt := ⟨_, rfl⟩
  have HLT := Lib.hid (show w.heap.size ≤ gt ∧ g < gt ∧ gz < gt by have := HGC.out; have := HG.out; omega)
  rw [hgt] at HT5 ⊢
  clear hb hk hz hk2 hgt HZ4 HC4 HK4 HN4 HGC
  have hc2 := HT5.out.cn
  dsimp only at hc2
  have r0 := HC5.out.c0
  have hx3 := HX3.out
  rcases uchain L HH1.out HH2.out HH3.out HH4.out with ⟨hb, hs, hx⟩ | ⟨hb, her⟩
  · rw [hs] at HC5
    have r3 : v5.cell? ⟨g, 3, none⟩ = some (.int .i64 0) := HC5.out.c3
    have HGT := Lib.hid (ugot_of l L n m0 HLN.out HL0.out HM.out.2.1 (by rw [← HLL.out]; exact hb) hx)
    clear hs hx hb
    by_cases h8 : x3 < 8
    · have h8' : (x3 : Int) < 8 := by omega
      go_wp2_with (first
      | (go_at_call 40; refine (err_yes g _ _ r0 r3).mono ?_; rintro e w' ⟨rfl, rfl⟩)
      | (refine wpList_st rfl _ (.tmp 2) _ rfl gz 0 rfl (ucs Ud.zero none 0 0) _ rfl rfl (infUc _ _ _ _) 38 _ HZ5.out (by show 0 + 5 ≤ 5; omega) (ucs_one _ _ _ _) ?_; intro w40 hb9 hk9 hz9; simp only [Act.put])
      | fail)
      have h2 : UB w40 gz 38 Ud.zero none 0 0 := hb9
      refine bodyPost_ret (res_cell1 Tryd.results12 rfl rfl h2.all Tryd.underlying38 rfl (infUc _ _ _ _)) rfl ?_
      exact ugot_zero (HGT.out.1 h8) (HK5.out.fresh hk9 (fun i hi => by cases hi; exact HLZ.out.1))
    · have h8' : ¬ (x3 : Int) < 8 := by omega
      by_cases hnx : n < x3
      · have hnx' : (n : Int) < (x3 : Int) := by omega
        go_wp2_with (first
      | (go_at_call 40; refine (err_yes g _ _ r0 r3).mono ?_; rintro e w' ⟨rfl, rfl⟩)
      | (refine wpList_st rfl _ (.tmp 2) _ rfl gz 0 rfl (ucs Ud.zero none 0 0) _ rfl rfl (infUc _ _ _ _) 38 _ HZ5.out (by show 0 + 5 ≤ 5; omega) (ucs_one _ _ _ _) ?_; intro w40 hb9 hk9 hz9; simp only [Act.put])
        | fail)
        have h2 : UB w40 gz 38 Ud.zero none 0 0 := hb9
        refine bodyPost_ret (res_cell1 Tryd.results12 rfl rfl h2.all Tryd.underlying38 rfl (infUc _ _ _ _)) rfl ?_
        exact ugot_zero (HGT.out.2.1 (by omega) hnx) (HK5.out.fresh hk9 (fun i hi => by cases hi; exact HLZ.out.1))
      · have hnx' : ¬ (n : Int) < (x3 : Int) := by omega
        have HGR := Lib.hid (HGT.out.2.2 (by omega) (by omega))
        have hcut := run_cut (P := Tryd.prog) Tryd.underlying22 inf5.1 inf5.2 A n c 8 x3 8 (x3 : Int) rfl rfl (by omega) (by omega)
        have HBC := Lib.hid (HBL.out.cut (lo := 8) (hi := x3) (by omega) (by omega))
        have HYL := Lib.hid (show x3 - 8 ≤ 65536 by omega)
        obtain ⟨Y, hY⟩ : ∃ Y, (l.take x3).drop 8 = Y := ⟨_, rfl⟩
        rw [hY] at HBC HGR
        clear hY HGT
        go_wp2_with (first
      | (go_at_call 40; refine (err_yes g _ _ r0 r3).mono ?_; rintro e w' ⟨rfl, rfl⟩)
        | fail)
        refine (sclone (cutA A c 8) (x3 - 8) (c - 8) Y _ (HBC.out.kept HK5.out (fun _ _ hf => hf)) (by have := HYL.out; omega)).mono ?_
        rintro e w13 ⟨v2, rfl, hm⟩
        dsimp only
        obtain ⟨A2, c2, rfl, hnb⟩ := NewB.of_own (w0 := v5) hm.1 (Nat.le_refl _)
        have HNY := Lib.hid hnb
        have HTw := Lib.hid (HT5.out.kept hm.2 (fun hf => hf))
        have HZw := Lib.hid (HZ5.out.kept hm.2 (fun hf => hf))
        have HKw := Lib.hid (HK5.out.then hm.2)
        have HSY := Lib.hid (show w.heap.size ≤ v5.heap.size ∧ gt < v5.heap.size ∧ gz < v5.heap.size from ⟨HK5.out.size, HT5.out.lt, HZ5.out.lt⟩)
        clear hm hnb HT5 HZ5 HC5 HK5 r0 r3 hcut HBC hc2
        go_upto_region 11 with (first
          | (refine wpList_st rfl _ _ _ rfl gt 4 rfl [.slice A2 Y.length c2] _ rfl rfl infSl 38 _ HTw.out (by rw [ucs_len, List.length_singleton]; omega) (by intro u hu; simp at hu; subst hu; rfl) ?_; intro v14 hb hk hz; simp only [Act.put])
          | fail)
        have HT := Lib.hid (show UB v14 gt 38 ⟨x1, x2, x3, x4, Y⟩ A2 Y.length c2 from hb)
        have HZ := Lib.hid (HZw.out.kept hk (fun hf => by have := HLT.out; cases hf; omega))
        have HK := Lib.hid (HKw.out.fresh hk (fun i hi => by cases hi; exact HLT.out.1))
        have HNy := Lib.hid (HNY.out.kept hk (fun i hi hf => by have := HSY.out.2.1; cases hf; omega))
        clear hb hk hz HTw HZw HKw HNY
        go_wp2_with (first
          | (refine wpList_ld rfl _ _ rfl gt 0 rfl (ucs ⟨x1, x2, x3, x4, Y⟩ A2 Y.length c2) HT.out.all _ Tryd.underlying38 rfl (infUc _ _ _ _) ?_; simp only [Act.put, List.setIfInBounds_toArray, List.set_cons_succ, List.set_cons_zero])
          | (refine wpList_st rfl _ (.tmp 2) _ rfl gz 0 rfl (ucs ⟨x1, x2, x3, x4, Y⟩ A2 Y.length c2) _ rfl rfl (infUc _ _ _ _) 38 _ HZ.out (by show 0 + 5 ≤ 5; omega) (ucs_one _ _ _ _) ?_; intro v15 hb9 hk9 hz9; simp only [Act.put])
          | fail)
        have h2 : UB v15 gz 38 ⟨x1, x2, x3, x4, Y⟩ A2 Y.length c2 := hb9
        refine bodyPost_ret (res_cell1 Tryd.results12 rfl rfl h2.all Tryd.underlying38 rfl (infUc _ _ _ _)) rfl ?_
        rw [HGR.out]
        exact ⟨A2, _, c2, rfl, (HNy.out.kept hk9 (fun i hi hf => by have := HSY.out.2.2; cases hf; omega)).older HSY.out.1, HK.out.fresh hk9 (fun i hi => by cases hi; exact HLZ.out.1)⟩
  · have r3 := HC5.out.c3
    rw [her] at r3
    have HGR := Lib.hid (ugot_short l L n m0 HLN.out HL0.out HM.out.2.1 hb)
    clear her hb
    go_wp2_with (first
      | (go_at_call 40; refine (err_yes g _ _ r0 r3).mono ?_; rintro e w' ⟨rfl, rfl⟩)
      | (refine wpList_st rfl _ (.tmp 2) _ rfl gz 0 rfl (ucs Ud.zero none 0 0) _ rfl rfl (infUc _ _ _ _) 38 _ HZ5.out (by show 0 + 5 ≤ 5; omega) (ucs_one _ _ _ _) ?_; intro w40 hb9 hk9 hz9; simp only [Act.put])
      | fail)
    have h2 : UB w40 gz 38 Ud.zero none 0 0 := hb9
    refine bodyPost_ret (res_cell1 Tryd.results12 rfl rfl h2.all Tryd.underlying38 rfl (infUc _ _ _ _)) rfl ?_
    exact ugot_zero (HGR.out) (HK5.out.fresh hk9 (fun i hi => by cases hi; exact HLZ.out.1))
end Go.Proofs.YthjbabkmjmfmjaaDoor
