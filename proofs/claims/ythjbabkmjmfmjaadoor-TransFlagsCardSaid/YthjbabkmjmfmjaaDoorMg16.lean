/- Texts that belong together, one behind the other: MkC, TrW. Conditions: those of each. -/
import Derived.Test.YthjbabkmjmfmjaaDoorMg7
import Derived.Test.YthjbabkmjmfmjaaDoorMg5
import Derived.Laws.MakeOwn
import Derived.OwnWalk
import Derived.Deep.DeepCutAuto
import Derived.Test.YthjbabkmjmfmjaaDoorTrB
import Derived.Test.YthjbabkmjmfmjaaDoorTrN
/- Bytes made by make([]byte, n): the block known whole. -/
namespace Go.Proofs.YthjbabkmjmfmjaaDoor
open Go.RowKit Go.Sort
set_option linter.unusedVariables false

theorem made_bysC (n : Nat) : (madeCells (Value.int .u8 0).cells (n * 1)).toList = bys (List.replicate n 0) := by
  rw [Nat.mul_one]
  apply List.ext_getElem?
  intro i
  by_cases h : i < n
  · simp [madeCells, bys, Value.cells, h, Nat.mod_one]
  · simp [madeCells, bys, Value.cells, h]
theorem wpList_mkC {w : World} {ops : Array Oper} {rest : List Oper} {o : Oper} {a : Act} {Q : Exit → Act → World → Prop} (hg : o.guard = none) (l c : Operand) (hop : o.op = Op.makeSlice 22 l c) (n : Nat) (hn : n ≤ 1000000) (hl : a.eval l = .int .i64 (n : Int)) (hc : a.eval c = .int .i64 (n : Int))
    (hK : ∀ w', Blo w' w.heap.size 5 (bys (List.replicate n 0)).toArray → Kept Nil w w' → wpList Tryd.prog ops Q rest (a.put o.dst (.slice (some ⟨w.heap.size, 0, none⟩) n n)) w') : wpList Tryd.prog ops Q (o :: rest) a w := by
  obtain ⟨i0, hi, hz0, hz1, hz2⟩ := info_parts Tryd.infb
  refine wpList_make_full w hg l c 22 hop w.heap.size 5 i0 (.int .u8 0) 1 Tryd.underlying22 hi hz0 hz1 .i64 .i64 (n : Int) (n : Int) n hl hc rfl rfl (by rw [hz2]; omega) (by unfold maxLen; omega) (Nat.le_refl _) ?_
  intro w' ho hgr
  rw [made_bysC] at ho
  rcases ho.2 with ⟨e, h0⟩ | ⟨g, cap, cur, e, hb, hg, hnc, hcap, hsz, htk⟩
  · cases e
  · cases e
    refine hK w' ?_ ((Kept.refl Nil w).grown hgr (fun k hk => by cases hk))
    rw [Nat.mul_one] at htk
    rw [List.take_of_length_le (by rw [Array.length_toList, hsz]; omega)] at htk
    have hcu : cur = (bys (List.replicate n 0)).toArray := by rw [← htk]
    rw [← hcu]
    exact hg
theorem wpList_mkO {w : World} {ops : Array Oper} {rest : List Oper} {o : Oper} {a : Act} {Q : Exit → Act → World → Prop} (hgd : Region.wanted o (yielded ops a.tmps) = true) (l c : Operand) (hop : o.op = Op.makeSlice 22 l c) (n : Nat) (hn : n ≤ 1000000) (hl : a.eval l = .int .i64 (n : Int)) (hc : a.eval c = .int .i64 (n : Int))
    (hK : ∀ w', Blo w' w.heap.size 5 (bys (List.replicate n 0)).toArray → Kept Nil w w' → wpList Tryd.prog ops Q rest (a.put o.dst (.slice (some ⟨w.heap.size, 0, none⟩) n n)) w') : wpList Tryd.prog ops Q (o :: rest) a w := by
  obtain ⟨i0, hi, hz0, hz1, hz2⟩ := info_parts Tryd.infb
  refine BigFrame.wpList_want hgd fun K hK' => ?_
  obtain ⟨w', hrun, ho, hgr⟩ := run_make_full (P := Tryd.prog) w w.heap.size 22 5 i0 (.int .u8 0) 1 Tryd.underlying22 hi hz0 hz1 .i64 .i64 n (by rw [hz2]; omega) (by unfold maxLen; omega) (Nat.le_refl _)
  have hfin : Blo w' w.heap.size 5 (bys (List.replicate n 0)).toArray := by
    rw [made_bysC] at ho
    rcases ho.2 with ⟨e, h0⟩ | ⟨g, cap, cur, e, hb, hg, hnc, hcap, hsz, htk⟩
    · cases e
    · cases e
      rw [Nat.mul_one] at htk
      rw [List.take_of_length_le (by rw [Array.length_toList, hsz]; omega)] at htk
      have hcu : cur = (bys (List.replicate n 0)).toArray := by rw [← htk]
      rw [← hcu]
      exact hg
  unfold Oper.wp
  simp [execOp, hop, hl, hc, hrun, Result.andThen]
  exact hK' _ _ (hK w' hfin ((Kept.refl Nil w).grown hgr (fun k hk => by cases hk)))
/-- A row known whole: its bytes. -/
theorem bloB {w : World} {g : Nat} {T : TypeId} {l : List UInt8} (h : Blo w g T (bys l).toArray) (n : Nat) (hn : l.length = n) (hc : n ≤ 9223372036854775807) : Byt w (some ⟨g, 0, none⟩) n n l := by
  subst hn
  refine ⟨rfl, Nat.le_refl _, hc, fun _ => ⟨g, 0, rfl, fun i hi => ?_⟩⟩
  rw [h.cell]
  simp [bys, hi]
theorem bloPut {w : World} {g : Nat} {T : TypeId} {l : List UInt8} {i : Nat} {b : UInt8} (hi : i < l.length) (h : Blo w g T ((bys l).take i ++ [Value.int .u8 (b.toNat : Int)] ++ (bys l).drop (i + [Value.int .u8 (b.toNat : Int)].length)).toArray) : Blo w g T (bys (l.set i b)).toArray := by
  rw [show (bys l).take i ++ [Value.int .u8 (b.toNat : Int)] ++ (bys l).drop (i + [Value.int .u8 (b.toNat : Int)].length) = bys (l.set i b) by
    unfold bys
    rw [List.map_set, List.set_eq_take_append_cons_drop, if_pos (by rw [List.length_map]; exact hi)]
    simp] at h
  exact h
theorem szC : (Tryd.prog.info? 5).map (·.size) = some 1 := by kernel_rfl
end Go.Proofs.YthjbabkmjmfmjaaDoor
/- tolllaw07: the examples (wakes). -/
namespace Go.Proofs.YthjbabkmjmfmjaaDoor
open Go.RowKit Go.Sort
set_option linter.unusedVariables false

def z20 : List UInt8 := List.replicate 20 0
def h20 : Tc := tcOf (z20.set 12 80)
theorem wk_a : getT (z20.set 12 80) = (h20, 0) := by kernel_rfl
theorem wk_x : h20.x = [] := by decide +kernel
theorem wk_b : getT ((z20.set 12 80).set 12 64) = (Tc.zero, 5) := by kernel_rfl
theorem wk_c : getT (((z20.set 12 80).set 12 64).set 12 96) = (Tc.zero, 4) := by kernel_rfl
theorem wk_d : flagP [97, 99, 107, 44, 115, 121, 110] = (18, 0) := by decide +kernel
theorem wk_e : flagT 18 = [115, 121, 110, 44, 97, 99, 107] := by decide +kernel
theorem wk_f : flagT 0 = [45] := by decide +kernel
theorem z20_len : z20.length = 20 := rfl
set_option maxRecDepth 100000 in
set_option maxHeartbeats 8000000 in
theorem twakes_yes (w : World) (hN : Nm w) : Calls Tryd.prog 25 #[] w fun e w' => e = .returned (.bool true) ∧ Kept Nil w w' := by
  have HN := Lib.hid hN
  go_enter Tryd.func25, Tryd.ntmps25
  go_upto_region 2 with (refine wpList_mkC rfl _ _ rfl 20 (by decide) rfl rfl ?_; intro w1 hb hk; simp only [Act.put, List.setIfInBounds_toArray, List.set_cons_succ, List.set_cons_zero])
  obtain ⟨g, hg⟩ : ∃ g, w.heap.size = g := ⟨_, rfl⟩
  have HG := Lib.hid (show w.heap.size ≤ g by omega)
  rw [hg] at hb ⊢
  have HB1 := Lib.hid (show Blo w1 g 5 (bys z20).toArray from hb)
  have HK1 := Lib.hid hk
  clear hb hk hg
  go_upto_region 3 with (refine wpList_st rfl _ _ _ rfl g 12 rfl [.int .u8 ((80 : UInt8).toNat : Int)] _ rfl rfl szC 5 _ HB1.out (by rw [bys_len, z20_len, List.length_singleton]; omega) (by intro u hu; simp at hu; subst hu; rfl) ?_; intro w2 hb2 hk2 hz2; simp only [Act.put])
  have HB2 := Lib.hid (bloPut (by rw [z20_len]; decide) hb2)
  have HK2 := Lib.hid (HK1.out.fresh hk2 (fun i hi => by cases hi; exact HG.out))
  clear hb2 hk2 hz2 HB1 HK1
  go_wp2_with (fail)
  have hp := tget_yes _ 20 20 _ w2 (bloB HB2.out 20 (by rw [List.length_set, z20_len]) (by decide)) (by decide)
  rw [wk_a] at hp
  refine hp.mono ?_
  clear hp
  rintro e w3 ⟨A, n, c, B, m, d, rfl, ⟨hA, _⟩, _, hk⟩
  have hn0 : n = 0 := by rw [← hA.1]; dsimp only; rw [wk_x]; rfl
  subst hn0
  dsimp only
  have HZ3 := Lib.hid (TB.new w3 29 Tc.zero none 0 0 none 0 0)
  have HB3 := Lib.hid (HB2.out.kept hk (fun hf => hf))
  have HK3 := Lib.hid (HK2.out.then hk)
  clear hk hA HB2 HK2
  go_upto_region 4 with (first
    | (refine wpList_st rfl _ (.tmp 2) _ rfl w3.heap.size 0 rfl (tcs h20 A 0 c B m d) _ rfl rfl (infTc _ _ _ _ _ _ _) 29 _ HZ3.out (by rw [tcs_len, tcs_len]; omega) (tcs_one _ _ _ _ _ _ _) ?_; intro w4 hb4 hk4 hz4; simp only [Act.put])
    | fail)
  have hk34 := ((Kept.refl Nil w3).alloc (.cells (tcs Tc.zero none 0 0 none 0 0).toArray 29)).fresh hk4 (fun i hi => by cases hi; exact Nat.le_refl _)
  obtain ⟨g2, hg2⟩ : ∃ g, w3.heap.size = g := ⟨_, rfl⟩
  have HT4 := Lib.hid (show TB w4 w3.heap.size 29 h20 A 0 c B m d from hb4)
  have HLT := Lib.hid (show g < w3.heap.size from HB3.out.lt)
  have HB4 := Lib.hid (HB3.out.kept hk34 (fun hf => hf))
  have HK4 := Lib.hid (HK3.out.then hk34)
  rw [hg2] at HT4 HLT ⊢
  clear hb4 hk4 hz4 hk34 HZ3 HB3 HK3 hg2
  go_upto_region 5 with (refine wpList_st rfl _ _ _ rfl g 12 rfl [.int .u8 ((64 : UInt8).toNat : Int)] _ rfl rfl szC 5 _ HB4.out (by rw [bys_len, List.length_set, z20_len, List.length_singleton]; omega) (by intro u hu; simp at hu; subst hu; rfl) ?_; intro w5 hb5 hk5 hz5; simp only [Act.put])
  have HB5 := Lib.hid (bloPut (by rw [List.length_set, z20_len]; decide) hb5)
  have HK5 := Lib.hid (HK4.out.fresh hk5 (fun i hi => by cases hi; exact HG.out))
  have HT5 := Lib.hid (HT4.out.kept hk5 (fun hf => by have := HLT.out; unfold One at hf; omega))
  clear hb5 hk5 hz5 HB4 HK4 HT4
  go_wp2_with (fail)
  have hp := tget_yes _ 20 20 _ w5 (bloB HB5.out 20 (by rw [List.length_set, List.length_set, z20_len]) (by decide)) (by decide)
  rw [wk_b] at hp
  refine hp.mono ?_
  clear hp
  rintro e w6 ⟨A2, n2, c2, B2, m2, d2, rfl, _, _, hk⟩
  dsimp only
  have HZ6 := Lib.hid (TB.new w6 29 Tc.zero none 0 0 none 0 0)
  have HB6 := Lib.hid (HB5.out.kept hk (fun hf => hf))
  have HT6 := Lib.hid (HT5.out.kept hk (fun hf => hf))
  have HK6 := Lib.hid (HK5.out.then hk)
  clear hk HB5 HK5 HT5
  go_upto_region 6 with (first
    | (refine wpList_st rfl _ (.tmp 4) _ rfl w6.heap.size 0 rfl (tcs Tc.zero A2 n2 c2 B2 m2 d2) _ rfl rfl (infTc _ _ _ _ _ _ _) 29 _ HZ6.out (by rw [tcs_len, tcs_len]; omega) (tcs_one _ _ _ _ _ _ _) ?_; intro w7 hb7 hk7 hz7; simp only [Act.put])
    | fail)
  have hk67 := ((Kept.refl Nil w6).alloc (.cells (tcs Tc.zero none 0 0 none 0 0).toArray 29)).fresh hk7 (fun i hi => by cases hi; exact Nat.le_refl _)
  have HT7 := Lib.hid (HT6.out.kept hk67 (fun hf => hf))
  have HB7 := Lib.hid (HB6.out.kept hk67 (fun hf => hf))
  have HK7 := Lib.hid (HK6.out.then hk67)
  clear hb7 hk7 hz7 hk67 HZ6 HB6 HK6 HT6
  go_upto_region 7 with (refine wpList_st rfl _ _ _ rfl g 12 rfl [.int .u8 ((96 : UInt8).toNat : Int)] _ rfl rfl szC 5 _ HB7.out (by rw [bys_len, List.length_set, List.length_set, z20_len, List.length_singleton]; omega) (by intro u hu; simp at hu; subst hu; rfl) ?_; intro w8 hb8 hk8 hz8; simp only [Act.put])
  have HB8 := Lib.hid (bloPut (by rw [List.length_set, List.length_set, z20_len]; decide) hb8)
  have HK8 := Lib.hid (HK7.out.fresh hk8 (fun i hi => by cases hi; exact HG.out))
  have HT8 := Lib.hid (HT7.out.kept hk8 (fun hf => by have := HLT.out; unfold One at hf; omega))
  clear hb8 hk8 hz8 HB7 HK7 HT7
  go_wp2_with (fail)
  have hp := tget_yes _ 20 20 _ w8 (bloB HB8.out 20 (by rw [List.length_set, List.length_set, List.length_set, z20_len]) (by decide)) (by decide)
  rw [wk_c] at hp
  refine hp.mono ?_
  clear hp
  rintro e w9 ⟨A3, n3, c3, B3, m3, d3, rfl, _, _, hk⟩
  dsimp only
  have HZ9 := Lib.hid (TB.new w9 29 Tc.zero none 0 0 none 0 0)
  have HT9 := Lib.hid (HT8.out.kept hk (fun hf => hf))
  have HK9 := Lib.hid (HK8.out.then hk)
  clear hk HB8 HK8 HT8
  go_upto_region 8 with (first
    | (refine wpList_st rfl _ (.tmp 6) _ rfl w9.heap.size 0 rfl (tcs Tc.zero A3 n3 c3 B3 m3 d3) _ rfl rfl (infTc _ _ _ _ _ _ _) 29 _ HZ9.out (by rw [tcs_len, tcs_len]; omega) (tcs_one _ _ _ _ _ _ _) ?_; intro w10 hb10 hk10 hz10; simp only [Act.put])
    | fail)
  have hk90 := ((Kept.refl Nil w9).alloc (.cells (tcs Tc.zero none 0 0 none 0 0).toArray 29)).fresh hk10 (fun i hi => by cases hi; exact Nat.le_refl _)
  have HT10 := Lib.hid (HT9.out.kept hk90 (fun hf => hf))
  have HK10 := Lib.hid (HK9.out.then hk90)
  clear hb10 hk10 hz10 hk90 HZ9 HK9 HT9
  go_wp2_with (fail)
  have hp := tparse_yes ⟨#[97, 99, 107, 44, 115, 121, 110]⟩ (by decide) w10 (HN.out.kept HK10.out)
  rw [show (⟨#[97, 99, 107, 44, 115, 121, 110]⟩ : ByteArray).data.toList = [97, 99, 107, 44, 115, 121, 110] from rfl, wk_d] at hp
  refine hp.mono ?_
  clear hp
  rintro e w11 ⟨rfl, hk⟩
  dsimp only
  have HT11 := Lib.hid (HT10.out.kept hk (fun hf => hf))
  have HK11 := Lib.hid (HK10.out.then hk)
  clear hk HT10 HK10
  have y9 := HT11.out.cx
  go_wp2_with (fail)
  have hp := ttext_yes 18 (by decide) w11 (HN.out.kept HK11.out)
  rw [wk_e] at hp
  refine hp.mono ?_
  clear hp y9
  rintro e w12 ⟨rfl, hk⟩
  have HK12 := Lib.hid (HK11.out.then hk)
  clear hk HT11 HK11
  go_wp2_with (fail)
  have hp := ttext_yes 0 (by decide) w12 (HN.out.kept HK12.out)
  rw [wk_f] at hp
  refine hp.mono ?_
  clear hp
  rintro e w13 ⟨rfl, hk⟩
  have HK13 := Lib.hid (HK12.out.then hk)
  clear hk HK12
  go_wp2_with (fail)
  go_ret
  exact ⟨rfl, HK13.out⟩
end Go.Proofs.YthjbabkmjmfmjaaDoor
