/- tolllaw11.RateWaits: the walk. -/
import Derived.Test.YtiehmpiaddjhiaaDoorMg24
import Derived.Test.YtiehmpiaddjhiaaDoorMg25
import Derived.Test.YtiehmpiaddjhiaaDoorMg26
import Derived.Test.YtiehmpiaddjhiaaDoorMg27
import Derived.Test.YtiehmpiaddjhiaaDoorAp2
namespace Go.Proofs.YtiehmpiaddjhiaaDoor
open Go.RowKit Go.Sort
set_option linter.unusedVariables false

theorem br_at (m : Bk) (t : Nat) (h0 : m.a = 0) : (brM m (t : Int)).l = afM (clB m) t := by
  have ha : (clB m).a = 0 := h0
  unfold brM
  rw [ha]
  rcases Nat.eq_zero_or_pos t with h | h
  · subst h
    rw [if_neg (by decide)]
    unfold afM
    rw [if_pos rfl]
  · rw [if_pos (by omega)]
    show afM (clB m) ((t : Int) - 0).toNat = _
    rw [show ((t : Int) - 0).toNat = t by omega]
def al3 (a b c : Nat) : List Value := [.int .u64 (a : Int), .int .u64 (b : Int), .int .u64 (c : Int)]
def lb (x y z : Nat) : Bk := ⟨clF x, clF y, z, 0⟩
set_option maxRecDepth 100000 in
set_option maxHeartbeats 16000000 in
theorem rwaits_yes (x y z n : Nat) (hx : x < 18446744073709551616) (hy : y < 18446744073709551616) (hz : z < 18446744073709551616) (hn : n < 18446744073709551616) (w : World) (hG : Gl w) : Calls Tryd.prog 5 #[.agg (al3 x y z).toArray, .int .u64 (n : Int)] w fun e w' => e = .returned (.bool true) ∧ Below w.heap.size w w' := by
  have HG := Lib.hid (show GlR w from hG)
  have hI1 : INFB < 18446744073709551616 := by decide
  have HX := Lib.hid (And.intro hx (And.intro hy (And.intro hz hn)))
  have hok0 : (⟨x, y, y, 0⟩ : Bk).ok := ⟨hx, hy, hy, by show (-9223372036854775808 : Int) ≤ 0 ∧ (0 : Int) ≤ 9223372036854775807; decide⟩
  have hok : (lb x y z).ok := ⟨Nat.lt_of_le_of_lt (clF_le hx) hI1, Nat.lt_of_le_of_lt (clF_le hy) hI1, hz, by show (-9223372036854775808 : Int) ≤ 0 ∧ (0 : Int) ≤ 9223372036854775807; decide⟩
  have HOK := Lib.hid hok
  have HCL := Lib.hid (clB_cl hok)
  have HNEW := Lib.hid (show ∀ w : World, Calls Tryd.prog 6 #[.float .f64 x, .float .f64 y, .int .i64 0] w fun e w' => e = .returned (bkv (clB ⟨x, y, y, 0⟩)) ∧ Kept Nil w w' from fun w => bnew_yes x y 0 hx hy (by decide) w)
  have HAL := Lib.hid (by have := falike_yes z z hz hz; rw [decide_eq_true rfl, Bool.true_or] at this; exact this)
  have HCN := Lib.hid (fclean_yes n hn)
  have f1 := cf_from x
  have f2 := cf_from y
  have f3 := cf_from z
  have f4 := cf_from n
  have hA : Blo (w.alloc (.cells (al3 x y z).toArray 52)) w.heap.size 52 (al3 x y z).toArray := Blo.new w _ _
  have hk0 := (Kept.refl Nil w).alloc (.cells (al3 x y z).toArray 52)
  obtain ⟨C, hC⟩ : ∃ C, clB (lb x y z) = C := ⟨_, rfl⟩
  obtain ⟨N, hN⟩ : ∃ N, clF n = N := ⟨_, rfl⟩
  obtain ⟨R, hR⟩ : ∃ R, lsM (isSo (clB (lb x y z)) (clF n)) 41 0 1099511627777 = R := ⟨_, rfl⟩
  have HLS := Lib.hid (wait_least (clB_cl hok) (clF n) R hR)
  have HW := Lib.hid (show ∀ (g : Nat) (u : World), KB u g (lb x y z) → Calls Tryd.prog 14 #[.pointer (some ⟨g, 0, none⟩), .float .f64 n] u fun e w' => e = .returned (waV R) ∧ Kept Nil u w' from fun g u hb => by
    have := wait_yes g (lb x y z) hok n hn u hb
    rw [hR] at this
    exact this)
  have HH := Lib.hid (show ∀ (t : Nat), t ≤ 1099511627776 → ∀ (g : Nat) (u : World), KB u g (lb x y z) → Calls Tryd.prog 13 #[.pointer (some ⟨g, 0, none⟩), .int .i64 (t : Int)] u fun e w' => e = .returned (.float .f64 (afM (clB (lb x y z)) t)) ∧ Kept (One g) u w' from fun t ht g u hb => by
    have := has_yes g (lb x y z) hok (t : Int) (by omega) u hb
    rw [br_at (lb x y z) t rfl] at this
    exact this.mono fun e w' h => ⟨h.1, h.2.2⟩)
  have HLT := Lib.hid (show ∀ t : Nat, (FloatKind.f64.format.order (afM (clB (lb x y z)) t) (clF n) == some .lt) = decide (afM (clB (lb x y z)) t < clF n) from fun t => by
    have ha := Nat.le_trans (afM_le (clB_cl hok) t) (clB_cl hok).b
    exact (lt_is (Nat.lt_of_le_of_lt ha hI1) (Nat.lt_of_le_of_lt (clF_le hn) hI1)).trans (lt_clean ha (clF_le hn)))
  have hCc := clB_cl hok
  rw [hC] at HLS HH HLT HCL
  rw [hN] at HLS HLT HCN
  clear hR hC hN hCc
  clear hI1 hok0 hok hx hy hz hn hG
  go_enter Tryd.func5, Tryd.ntmps5
  go_upto_region 1 with (fail)
  refine wp_nameE (fun W => Blo W w.heap.size 52 (al3 x y z).toArray ∧ Kept Nil w W) ⟨hA, hk0⟩ ?_
  clear hA hk0
  rintro W ⟨hA, hk⟩
  obtain ⟨g2, hg2⟩ : ∃ g, w.heap.size = g := ⟨_, rfl⟩
  rw [hg2] at hA ⊢
  have HA := Lib.hid hA
  have HK := Lib.hid hk
  clear hA hk hg2
  have c0 := fun d os => (kept_grown' W d os).cell (HA.out.cell 0) (fun hf => hf)
  have c1 := fun d os => (kept_grown' W d os).cell (HA.out.cell 1) (fun hf => hf)
  have c2 := fun d os => (kept_grown' W d os).cell (HA.out.cell 2) (fun hf => hf)
  simp [al3] at c0 c1 c2
  refine wp_region_quiet_below (by kernel_rfl) (by kernel_rfl) ?_
  repeat (go_big_quiet_step (fail))
  refine wpQuiet_nil ?_
  rintro u ⟨nq, hw⟩
  have HK := Lib.hid (HK.out.then (show Kept Nil W u by rw [hw]; exact kept_grown _ _))
  clear hw c0 c1 c2 HA
  go_wp2_with (fail)
  refine (HNEW.out _).mono ?_
  rintro e w1 ⟨rfl, hk⟩
  have HK := Lib.hid (HK.out.then hk)
  clear hk
  have HN := Lib.hid (show KB (w1.alloc (.cells (bkl Bk.zero).toArray 26)) w1.heap.size Bk.zero from Blo.new w1 _ _)
  have HKA := Lib.hid (HK.out.then ((Kept.refl Nil w1).alloc (.cells (bkl Bk.zero).toArray 26)))
  dsimp only
  go_upto_region 3 with (first
    | (refine wpList_st rfl 26 (.tmp 8) _ rfl w1.heap.size 0 rfl (bkl (clB ⟨x, y, y, 0⟩)) _ rfl rfl (infBk _) 26 _ HN.out (by show 0 + 4 ≤ 4; decide) (bkl_one _) ?_; intro w2 hb2 hk2 hz2; simp only [Act.put, List.setIfInBounds_toArray, List.set_cons_succ, List.set_cons_zero])
    | fail)
  have HB8 := Lib.hid (show KB w2 w1.heap.size (clB ⟨x, y, y, 0⟩) from hb2)
  have HG8 := Lib.hid (show w.heap.size ≤ w1.heap.size from HK.out.size)
  have HK := Lib.hid (HKA.out.fresh hk2 (fun i hi => by have h1 := HG8.out; have h2 : i = w1.heap.size := hi; omega))
  obtain ⟨g8, hg8⟩ : ∃ g, w1.heap.size = g := ⟨_, rfl⟩
  rw [hg8] at HB8 HG8 ⊢
  clear hb2 hk2 hz2 hg8 HN HKA
  go_upto_region 4 with (first
    | (refine wpList_st rfl 24 (.tmp 29) _ rfl g8 2 rfl [.float .f64 z] _ rfl rfl infFl 26 _ HB8.out (by show 2 + 1 ≤ 4; decide) (by intro u hu; obtain rfl := List.mem_singleton.1 hu; rfl) ?_; intro w3 hb3 hk3 hz3; simp only [Act.put, List.setIfInBounds_toArray, List.set_cons_succ, List.set_cons_zero])
    | fail)
  have HB8 := Lib.hid (show KB w3 g8 (lb x y z) from hb3)
  have HK := Lib.hid (HK.out.fresh hk3 (fun i hi => by have h1 := HG8.out; have h2 : i = g8 := hi; omega))
  clear hb3 hk3 hz3
  go_wp2_with (fail)
  refine (HCN.out _).mono ?_
  rintro e w4 ⟨rfl, hk⟩
  have HB8 := Lib.hid (HB8.out.kept hk (fun hf => hf))
  have HK := Lib.hid (HK.out.then hk)
  clear hk
  have HN := Lib.hid (show KB (w4.alloc (.cells (bkl Bk.zero).toArray 26)) w4.heap.size Bk.zero from Blo.new w4 _ _)
  have HB8A := Lib.hid (HB8.out.kept ((Kept.refl Nil w4).alloc (.cells (bkl Bk.zero).toArray 26)) (fun hf => hf))
  have HKA := Lib.hid (HK.out.then ((Kept.refl Nil w4).alloc (.cells (bkl Bk.zero).toArray 26)))
  have HNE := Lib.hid (show g8 ≠ w4.heap.size by have := HB8.out.lt; omega)
  dsimp only
  go_upto_region 6 with (first
    | (refine wpList_ld rfl _ _ rfl g8 0 rfl (bkl (lb x y z)) HB8.out.all _ Tryd.underlying26 rfl (infBk _) ?_; simp only [Act.put, List.setIfInBounds_toArray, List.set_cons_succ, List.set_cons_zero])
    | (refine wpList_st rfl 26 (.tmp 10) _ rfl w4.heap.size 0 rfl (bkl (lb x y z)) _ rfl rfl (infBk _) 26 _ HN.out (by show 0 + 4 ≤ 4; decide) (bkl_one _) ?_; intro w5 hb2 hk2 hz2; simp only [Act.put, List.setIfInBounds_toArray, List.set_cons_succ, List.set_cons_zero])
    | fail)
  have HB10 := Lib.hid (show KB w5 w4.heap.size (lb x y z) from hb2)
  have HB8 := Lib.hid (HB8A.out.kept hk2 (fun hf => HNE.out hf))
  have HG10 := Lib.hid (show w.heap.size ≤ w4.heap.size from HK.out.size)
  have HK := Lib.hid (HKA.out.fresh hk2 (fun i hi => by have h1 := HK.out.size; have h2 : i = w4.heap.size := hi; omega))
  obtain ⟨g10, hg10⟩ : ∃ g, w4.heap.size = g := ⟨_, rfl⟩
  rw [hg10] at HB10 HG10 HNE ⊢
  clear hb2 hk2 hz2 hg10 HN HKA HB8A
  go_wp2_with (fail)
  refine (HW.out g8 _ HB8.out).mono ?_
  rintro e w6 ⟨rfl, hk⟩
  have HB8 := Lib.hid (HB8.out.kept hk (fun hf => hf))
  have HB10 := Lib.hid (HB10.out.kept hk (fun hf => hf))
  have HK := Lib.hid (HK.out.then hk)
  clear hk
  have d2 : w6.cell? ⟨g8, 2, none⟩ = some (.float .f64 z) := HB8.out.c2
  have d3 : w6.cell? ⟨g8, 3, none⟩ = some (.int .i64 0) := HB8.out.all 3 _ rfl
  have d4 : w6.cell? ⟨g10, 2, none⟩ = some (.float .f64 z) := HB10.out.c2
  by_cases hgt : 1099511627776 < R
  · rw [show waV R = .tuple #[.int .i64 0, .bool false] from if_pos hgt]
    dsimp only
    go_wp2_with (fail)
    refine (HAL.out _).mono ?_
    rintro e w7 ⟨rfl, hk⟩
    have HB10 := Lib.hid (HB10.out.kept hk (fun hf => hf))
    have d3 : w7.cell? ⟨g8, 3, none⟩ = some (.int .i64 0) := hk.cell d3 (fun hf => hf)
    have HK := Lib.hid (HK.out.then hk)
    clear hk d2 d4
    dsimp only
    have HN := Lib.hid (show KB (w7.alloc (.cells (bkl Bk.zero).toArray 26)) w7.heap.size Bk.zero from Blo.new w7 _ _)
    have HKA := Lib.hid (HK.out.then ((Kept.refl Nil w7).alloc (.cells (bkl Bk.zero).toArray 26)))
    go_upto_region 11 with (first
      | (refine wpList_ld rfl _ _ rfl g10 0 rfl (bkl (lb x y z)) HB10.out.all _ Tryd.underlying26 rfl (infBk _) ?_; simp only [Act.put, List.setIfInBounds_toArray, List.set_cons_succ, List.set_cons_zero])
      | (refine wpList_st rfl 26 (.tmp 13) _ rfl w7.heap.size 0 rfl (bkl (lb x y z)) _ rfl rfl (infBk _) 26 _ HN.out (by show 0 + 4 ≤ 4; decide) (bkl_one _) ?_; intro w8 hb2 hk2 hz2; simp only [Act.put, List.setIfInBounds_toArray, List.set_cons_succ, List.set_cons_zero])
      | fail)
    have HB13 := Lib.hid (show KB w8 w7.heap.size (lb x y z) from hb2)
    have HK := Lib.hid (HKA.out.fresh hk2 (fun i hi => by have h1 := HK.out.size; have h2 : i = w7.heap.size := hi; omega))
    have HG13 := Lib.hid (show w.heap.size ≤ w7.heap.size by have h1 := HKA.out.size; have h2 := HN.out.lt; have h3 := HB10.out.lt; have h4 := HG10.out; omega)
    obtain ⟨g13, hg13⟩ : ∃ g, w7.heap.size = g := ⟨_, rfl⟩
    rw [hg13] at HB13 HG13 ⊢
    have hlt := HLT.out 1099511627776
    rw [decide_eq_true (HLS.out.2.1 1099511627776 hgt)] at hlt
    clear hb2 hk2 hz2 hg13 HN HKA d3 hgt
    go_wp2_with (fail)
    refine (HH.out 1099511627776 (Nat.le_refl _) g13 _ HB13.out).mono ?_
    rintro e w9 ⟨rfl, hk⟩
    have HK := Lib.hid (HK.out.fresh hk (fun i hi => by have h1 := HG13.out; have h2 : i = g13 := hi; omega))
    clear hk
    dsimp only
    go_wp2_with (fail)
    refine (wakes_yes _ (HG.out.kept HK.out)).mono ?_
    rintro e w10 ⟨rfl, hk⟩
    have HK := Lib.hid (HK.out.then hk)
    clear hk
    dsimp only
    go_wp2_with (fail)
    go_ret
    exact ⟨rfl, HK.out.below (Nat.le_refl _) (fun _ hf => hf.elim)⟩
  · rw [show waV R = .tuple #[.int .i64 (R : Int), .bool true] from if_neg hgt]
    dsimp only
    go_wp2_with (fail)
    refine (HAL.out _).mono ?_
    rintro e w7 ⟨rfl, hk⟩
    have HB10 := Lib.hid (HB10.out.kept hk (fun hf => hf))
    have d3 : w7.cell? ⟨g8, 3, none⟩ = some (.int .i64 0) := hk.cell d3 (fun hf => hf)
    have HK := Lib.hid (HK.out.then hk)
    clear hk d2 d4
    dsimp only
    go_upto_region 12 with (fail)
    clear d3
    have HGW := Lib.hid (show w.heap.size ≤ w7.heap.size from HK.out.size)
    refine wp_nameA fun A6 hA6 => ?_
    have HS : A6.tmps.size = 90 := by rw [hA6]; rfl
    have a10 : A6.eval (.tmp 10) = pAt g10 0 := by rw [hA6]; rfl
    have a14 : A6.eval (.tmp 14) = undef := by rw [hA6]; rfl
    have a15 : A6.eval (.tmp 15) = undef := by rw [hA6]; rfl
    have HA6 := Lib.hid hA6
    clear hA6
    have sh : ∀ {a a' : Act} {l : List Nat} {d : Nat} {v : Value}, (∀ d ∈ l, a.tmps.getD d undef = a'.tmps.getD d undef) → d ∈ l → a.eval (.tmp d) = v → a'.eval (.tmp d) = v := fun h hd e => (h _ hd).symm.trans e
    refine wp_region_slots 90 (dbI w7 [64, 65, 14, 15] 14 15 26 4) (dbW 64 65 14 15 26 (bkv (lb x y z)) (bkl (lb x y z))) (by kernel_rfl) (by kernel_rfl) (fun x u h => h.size.trans HS)
      ⟨fun a a' w h ⟨hr⟩ => ⟨sh h (of_decide_eq_true (by kernel_rfl)) hr⟩, fun a a' w h ⟨hr⟩ => ⟨sh h (of_decide_eq_true (by kernel_rfl)) hr⟩,
       fun a a' w h ⟨⟨g, hr⟩⟩ => ⟨⟨g, sh h (of_decide_eq_true (by kernel_rfl)) hr⟩⟩, fun a a' w h ⟨⟨g, hr⟩⟩ => ⟨⟨g, sh h (of_decide_eq_true (by kernel_rfl)) hr⟩⟩,
       fun a a' w h ⟨⟨g, hr, hb⟩⟩ => ⟨⟨g, sh h (of_decide_eq_true (by kernel_rfl)) hr, hb⟩⟩, fun a a' w h ⟨⟨g, hr, hb⟩⟩ => ⟨⟨g, sh h (of_decide_eq_true (by kernel_rfl)) hr, hb⟩⟩, trivial⟩
      (fun u hu => dbI.start a14 a15 hu) ?_ ?_
    · refine ⟨?_, ?_, ?_, ?_, ?_, ?_, trivial⟩
      · intro a u hI hp hun
        have hsz : 64 < a.tmps.size := by rw [hI.size, HS]; decide
        exact stepS_pure (bkv (lb x y z)) (exec_ldR _ _ rfl ((hI.fr 10 (by decide)).trans a10) (bkl (lb x y z)) (HB10.out.kept hI.kept (fun hf => hf)).all _ Tryd.underlying26 rfl (infBk _)) (hI.put 64 _ (by decide) (by decide) (by decide)) ⟨eval_same a 64 _ hsz⟩
      · intro a u hI hp hun
        have hsz : 65 < a.tmps.size := by rw [hI.size, HS]; decide
        exact stepS_pure (bkv (lb x y z)) (exec_ldR _ _ rfl ((hI.fr 10 (by decide)).trans a10) (bkl (lb x y z)) (HB10.out.kept hI.kept (fun hf => hf)).all _ Tryd.underlying26 rfl (infBk _)) (hI.put 65 _ (by decide) (by decide) (by decide)) ⟨eval_same a 65 _ hsz⟩
      · intro a u hI hp hun
        have hsz : 14 < a.tmps.size := by rw [hI.size, HS]; decide
        exact stepS_val (pAt u.heap.size 0) (u.alloc (.cells (bkl zBk).toArray 26)) (by kernel_rfl) (hI.alloc (by decide) 14 (.inl rfl) (by decide) hsz (bkl zBk) rfl) ⟨⟨_, eval_same a 14 _ hsz⟩⟩ (fun j hj h => h.kept ((Kept.refl Nil u).alloc _) (fun _ _ _ hf => hf) (fun _ _ _ hf => hf))
      · intro a u hI hp hun
        have hsz : 15 < a.tmps.size := by rw [hI.size, HS]; decide
        exact stepS_val (pAt u.heap.size 0) (u.alloc (.cells (bkl zBk).toArray 26)) (by kernel_rfl) (hI.alloc (by decide) 15 (.inr rfl) (by decide) hsz (bkl zBk) rfl) ⟨⟨_, eval_same a 15 _ hsz⟩⟩ (fun j hj h => h.kept ((Kept.refl Nil u).alloc _) (fun _ _ _ hf => hf) (fun _ _ _ hf => hf))
      · intro a u hI hp hun
        obtain ⟨g, e14⟩ : ∃ g, a.eval (.tmp 14) = pAt g 0 := (hp ⟨2, .data⟩ (by simp) rfl).out
        have e64 : a.eval (.tmp 64) = bkv (lb x y z) := (hp ⟨0, .data⟩ (by simp) rfl).out
        obtain ⟨hg1, hg2, cs, hcl, hb⟩ := hI.al 14 (.inl rfl) g 0 e14
        refine stepS_st _ _ _ rfl rfl e14 (bkl (lb x y z)) e64 rfl (infBk _) hb (by rw [hcl]; show 0 + 4 ≤ 4; decide) (bkl_one _) fun u' hbl hk hz => ?_
        have hbl' : Blo u' g 26 (bkl (lb x y z)).toArray := by
          rw [List.take_zero, List.nil_append, show 0 + (bkl (lb x y z)).length = cs.length by rw [hcl]; rfl, List.drop_length, List.append_nil] at hbl
          exact hbl
        exact ⟨hI.store 14 (.inl rfl) hk hz e14 _ rfl hbl', ⟨⟨g, e14, hbl'⟩⟩, fun j hj h => h.kept hk (fun h4 => absurd h4 hj) (fun _ g' e15 hf => hI.ne g 0 g' 0 e14 e15 hf.symm)⟩
      · intro a u hI hp hun
        obtain ⟨g, e15⟩ : ∃ g, a.eval (.tmp 15) = pAt g 0 := (hp ⟨3, .data⟩ (by simp) rfl).out
        have e65 : a.eval (.tmp 65) = bkv (lb x y z) := (hp ⟨1, .data⟩ (by simp) rfl).out
        obtain ⟨hg1, hg2, cs, hcl, hb⟩ := hI.al 15 (.inr rfl) g 0 e15
        refine stepS_st _ _ _ rfl rfl e15 (bkl (lb x y z)) e65 rfl (infBk _) hb (by rw [hcl]; show 0 + 4 ≤ 4; decide) (bkl_one _) fun u' hbl hk hz => ?_
        have hbl' : Blo u' g 26 (bkl (lb x y z)).toArray := by
          rw [List.take_zero, List.nil_append, show 0 + (bkl (lb x y z)).length = cs.length by rw [hcl]; rfl, List.drop_length, List.append_nil] at hbl
          exact hbl
        exact ⟨hI.store 15 (.inr rfl) hk hz e15 _ rfl hbl', ⟨⟨g, e15, hbl'⟩⟩, fun j hj h => h.kept hk (fun _ g' e14 hf => hI.ne g' 0 g 0 e14 e15 hf) (fun h5 => absurd h5 hj)⟩
    · intro a u8 hI hR
      obtain ⟨g1, e14, hb14⟩ := (hR 4 _ rfl).out
      obtain ⟨g4, e15, hb15⟩ := (hR 5 _ rfl).out
      have ha := act_eq a A6 [(64, bkv (lb x y z)), (65, bkv (lb x y z)), (14, pAt g1 0), (15, pAt g4 0)] hI.size hI.defs (show ([64, 65, 14, 15] : List Nat).Nodup by decide) (fun p hp => by
          rw [HS]
          have h1 : p.1 ∈ [64, 65, 14, 15] := List.mem_map_of_mem (f := Prod.fst) hp
          simp at h1
          omega) (fun p hp => by
          simp only [List.mem_cons, List.not_mem_nil, or_false] at hp
          rcases hp with rfl | rfl | rfl | rfl
          · exact (hR 0 _ rfl).out
          · exact (hR 1 _ rfl).out
          · exact e14
          · exact e15) (fun d hd => hI.fr d hd)
      have HNE1 := Lib.hid (hI.ne g1 0 g4 0 e14 e15)
      have HG1 := Lib.hid (Nat.le_trans HGW.out (hI.al 14 (.inl rfl) g1 0 e14).1)
      have HG4 := Lib.hid (Nat.le_trans HGW.out (hI.al 15 (.inr rfl) g4 0 e15).1)
      have HA := Lib.hid (show KB u8 g1 (lb x y z) from hb14)
      have HB := Lib.hid (show KB u8 g4 (lb x y z) from hb15)
      have HK := Lib.hid (HK.out.then hI.kept)
      clear hI hR hb14 hb15 e14 e15 a10 a14 a15 HS sh HB8 HB10
      subst ha
      have hA6 := HA6.out
      clear HA6
      subst hA6
      simp only [List.foldl_cons, List.foldl_nil, pAt]
      simp only [Act.put, List.setIfInBounds_toArray, List.set_cons_succ, List.set_cons_zero]
      have hlt := HLT.out R
      have hge : ¬ afM C R < N := Nat.not_lt.2 (HLS.out.2.2 (by omega))
      rw [decide_eq_false hge] at hlt
      have HRL := Lib.hid hgt
      clear hge
      go_wp2_with (fail)
      refine (HH.out R (by have h1 := HRL.out; omega) g1 _ HA.out).mono ?_
      rintro e w9 ⟨rfl, hk⟩
      have HB := Lib.hid (HB.out.kept hk (fun hf => HNE1.out (Eq.symm hf)))
      have HK := Lib.hid (HK.out.fresh hk (fun i hi => by have h1 := HG1.out; have h2 : i = g1 := hi; omega))
      clear hk
      dsimp only
      go_upto_region 15 with (fail)
      clear hlt
      rcases Nat.eq_zero_or_pos R with h0 | h0
      · subst h0
        go_wp2_with (fail)
        refine (wakes_yes _ (HG.out.kept HK.out)).mono ?_
        rintro e w10 ⟨rfl, hk⟩
        have HK := Lib.hid (HK.out.then hk)
        clear hk
        dsimp only
        go_wp2_with (fail)
        go_ret
        exact ⟨rfl, HK.out.below (Nat.le_refl _) (fun _ hf => hf.elim)⟩
      · obtain ⟨S, rfl⟩ : ∃ S, R = S + 1 := ⟨R - 1, by omega⟩
        have hne0 : ¬ ((S + 1 : Nat) : Int) = 0 := by omega
        have hS := HH.out S (by have h1 := HRL.out; omega) g4
        have e : ((S + 1 : Nat) : Int) - 1 = (S : Int) := by omega
        have hlt := HLT.out S
        rw [decide_eq_true (HLS.out.2.1 S (by omega))] at hlt
        have HSS := Lib.hid hS
        clear hS
        go_wp2_with (fail)
        first | (refine (HSS.out _ HB.out).mono ?_) | (rw [e]; refine (HSS.out _ HB.out).mono ?_) | trace_state
        rintro e w10 ⟨rfl, hk⟩
        have HK := Lib.hid (HK.out.fresh hk (fun i hi => by have h1 := HG4.out; have h2 : i = g4 := hi; omega))
        clear hk
        dsimp only
        go_wp2_with (fail)
        refine (wakes_yes _ (HG.out.kept HK.out)).mono ?_
        rintro e w11 ⟨rfl, hk⟩
        have HK := Lib.hid (HK.out.then hk)
        clear hk
        dsimp only
        go_wp2_with (fail)
        go_ret
        exact ⟨rfl, HK.out.below (Nat.le_refl _) (fun _ hf => hf.elim)⟩
end Go.Proofs.YtiehmpiaddjhiaaDoor
