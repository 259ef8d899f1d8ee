/- Package bpdu: Get. -/
import Derived.Test.YthjfeanmgaidcaaBpG
namespace Go.Proofs.Ythjfeanmgaidcaa
open Go.RowKit Go.Sort
set_option linter.unusedVariables false

/-- What Get says of a message that it has taken. -/
def fnM (m : Bp) (s : Cst) : Bp × Int :=
  let r : Bool × Cst := if m.kd = 3 then (decide (numM (takeM s 1).1 ≠ 0), (takeM s 1).2) else (false, s)
  let u := if r.1 || !mayB m then failM r.2 5 else r.2
  if u.er = 0 then (m, 0) else (Bp.zero, u.er)
def gpM (b : List UInt8) : Bp × Int :=
  if (tkM ⟨b, 0, 0⟩).1 = 2 then fnM Bp.chg (tkM ⟨b, 0, 0⟩).2 else fnM (tfM (tkM ⟨b, 0, 0⟩).1 (tkM ⟨b, 0, 0⟩).2) (st9 (tkM ⟨b, 0, 0⟩).2)
theorem fnM_3a (m : Bp) (s : Cst) (h : m.kd = 3) (hv : numM (takeM s 1).1 ≠ 0) : fnM m s = if (failM (takeM s 1).2 5).er = 0 then (m, 0) else (Bp.zero, (failM (takeM s 1).2 5).er) := by
  simp [fnM, h, hv]
theorem fnM_3b (m : Bp) (s : Cst) (h : m.kd = 3) (hv : numM (takeM s 1).1 = 0) (hm : mayB m = false) : fnM m s = if (failM (takeM s 1).2 5).er = 0 then (m, 0) else (Bp.zero, (failM (takeM s 1).2 5).er) := by
  simp [fnM, h, hv, hm]
theorem fnM_3c (m : Bp) (s : Cst) (h : m.kd = 3) (hv : numM (takeM s 1).1 = 0) (hm : mayB m = true) : fnM m s = if (takeM s 1).2.er = 0 then (m, 0) else (Bp.zero, (takeM s 1).2.er) := by
  simp [fnM, h, hv, hm]
theorem fnM_a (m : Bp) (s : Cst) (h : m.kd ≠ 3) (hm : mayB m = false) : fnM m s = if (failM s 5).er = 0 then (m, 0) else (Bp.zero, (failM s 5).er) := by
  simp [fnM, h, hm]
theorem fnM_b (m : Bp) (s : Cst) (h : m.kd ≠ 3) (hm : mayB m = true) : fnM m s = if s.er = 0 then (m, 0) else (Bp.zero, s.er) := by
  simp [fnM, h, hm]
theorem knd_in (v : Nat) : kinB v = 0 ∨ kinB v = 1 ∨ kinB v = 2 ∨ kinB v = 3 := by
  unfold kinB
  split
  · exact .inr (.inl rfl)
  · split
    · exact .inr (.inr (.inl rfl))
    · split
      · exact .inr (.inr (.inr rfl))
      · exact .inl rfl
theorem gpM_ok (b : List UInt8) : (gpM b).1.ok := by
  have hk := knd_in (numM (takeM ⟨b, 0, 0⟩ 4).1)
  have hf : ∀ m s, m.ok → (fnM m s).1.ok := by
    intro m s hm
    unfold fnM
    dsimp only
    split <;> split <;> split <;> first | exact hm | exact Bp.zero_ok
  unfold gpM
  split
  · exact hf _ _ Bp.chg_ok
  · refine hf _ _ (tfM_ok _ _ ?_ ?_)
    · show _ ≤ kinB _; omega
    · show kinB _ ≤ _; omega
set_option maxRecDepth 100000 in
set_option maxHeartbeats 4000000 in
theorem get_yes (A : Option Addr) (n c : Nat) (b : List UInt8) (w : World) (hy : Byt w A n c b) (hn : n ≤ 140737488355328) : Calls Try.prog 15 #[.slice A n c] w fun e w' => e = .returned (.tuple #[bpv (gpM b).1, .int .i64 (gpM b).2]) ∧ Kept Nil w w' := by
  have hZ := BPB.new w 52 Bp.zero
  have hY := hy.kept ((Kept.refl Nil w).alloc (.cells (bpl Bp.zero).toArray 52)) (fun _ _ hf => hf)
  have HN := Lib.hid hn
  go_enter Try.func15, Try.ntmps15
  go_upto_region 1 with (fail)
  refine wp_nameE (fun W => BPB W w.heap.size 52 Bp.zero ∧ Byt W A n c b ∧ Kept Nil w W) ⟨hZ, hY, (Kept.refl Nil w).alloc _⟩ ?_
  clear hZ hY hy hn
  rintro W ⟨hZ, hY, hk⟩
  have HZ := Lib.hid hZ
  have HY := Lib.hid hY
  have HK := Lib.hid hk
  obtain ⟨gz, hgz⟩ : ∃ x, w.heap.size = x := ⟨_, rfl⟩
  rw [hgz] at HZ ⊢
  have HGZ := Lib.hid hgz
  have hz0 : gz < W.heap.size := HZ.out.lt
  clear hZ hY hk hgz
  go_wp2_with (fail)
  refine (new_yes A n c b _ HY.out HN.out).mono ?_
  rintro e w1 ⟨g, A', c', rfl, hc, hk, hgl, hla⟩
  have HZ := Lib.hid (HZ.out.kept hk (fun hf => hf))
  have HK := Lib.hid (HK.out.then hk)
  have HC := Lib.hid hc
  have HGG := Lib.hid (show gz < g from Nat.lt_of_lt_of_le hz0 hgl)
  have hgl1 : g < w1.heap.size := hc.blo.lt
  have hla1 : ∀ i, Lies A' n i → i < w1.heap.size := fun i hi => hc.byt.lt i hi
  clear hc hk hgl hla HY
  go_wp2_with (fail)
  refine (kind_yes g A' n c' _ _ HC.out).mono ?_
  rintro e w2 ⟨rfl, hc, hk⟩
  have hp := knd_in (numM (takeM ⟨b, 0, 0⟩ 4).1)
  have HG := Lib.hid (show gpM b = if (tkM ⟨b, 0, 0⟩).1 = 2 then fnM Bp.chg (tkM ⟨b, 0, 0⟩).2 else fnM (tfM (tkM ⟨b, 0, 0⟩).1 (tkM ⟨b, 0, 0⟩).2) (st9 (tkM ⟨b, 0, 0⟩).2) from rfl)
  have hp : (tkM ⟨b, 0, 0⟩).1 = 0 ∨ (tkM ⟨b, 0, 0⟩).1 = 1 ∨ (tkM ⟨b, 0, 0⟩).1 = 2 ∨ (tkM ⟨b, 0, 0⟩).1 = 3 := hp
  generalize (tkM ⟨b, 0, 0⟩).1 = k at *
  generalize (tkM ⟨b, 0, 0⟩).2 = s at *
  have HKP := Lib.hid hp
  have HZ := Lib.hid (HZ.out.kept hk (fun hf => absurd hf (by have := HGG.out; unfold One; omega)))
  have HK := Lib.hid (HK.out.fresh hk (fun i hi => by cases hi; have := HGG.out; have := HGZ.out; omega))
  have HC := Lib.hid hc
  clear hc hk hp
  dsimp only
  have hz2 := HZ.out.lt
  have hgl2 := HC.out.blo.lt
  have hla2 : ∀ i, Lies A' n i → i < w2.heap.size := fun i hi => HC.out.byt.lt i hi
  have hw2 := HK.out.size
  clear hgl1 hla1
  have hB := BPB.new w2 52 Bp.zero
  go_upto_region 3 with (first
    | (refine wpList_st rfl 52 (.tmp 5) _ rfl _ 0 rfl (bpl ⟨k, 0, 0, 0, 0, 0, 0, 0, 0, 0⟩) _ rfl rfl (infBp _) 52 (bpl Bp.zero) hB (by show 0 + 10 ≤ 10; decide) (bpl_one _) ?_; intro w3 hb3 hk3 hz3; simp only [Act.put, List.setIfInBounds_toArray, List.set_cons_succ, List.set_cons_zero]
       have HP := Lib.hid (BPB.of_all (m := Bp.zero) (m' := ⟨k, 0, 0, 0, 0, 0, 0, 0, 0, 0⟩) hb3)
       have hk3 := ((Kept.refl Nil w2).alloc (.cells (bpl Bp.zero).toArray 52)).fresh hk3 (fun i hi => by cases hi; exact Nat.le_refl _)
       have HZ := Lib.hid (HZ.out.kept hk3 (fun hf => hf))
       have HK := Lib.hid (HK.out.then hk3)
       have HC := Lib.hid (HC.out.kept hk3 (fun hf => hf) (fun _ _ hf => hf))
       have hzl := HZ.out.lt)
    | fail)
  have hlt5 := HP.out.lt
  have H52 := Lib.hid (show w2.heap.size < w3.heap.size from hlt5)
  have H5z := Lib.hid (show gz ≠ w2.heap.size by have := hz2; omega)
  have HGW := Lib.hid (show w.heap.size ≤ w2.heap.size by omega)
  obtain ⟨g5, hg5⟩ : ∃ x, w2.heap.size = x := ⟨_, rfl⟩
  rw [hg5] at HP H52 H5z HGW ⊢
  have HG5 := Lib.hid (show g < g5 from by have := hgl2; omega)
  have HA5 := Lib.hid (show ∀ i, Lies A' n i → i ≠ g5 from fun i hi => by have := hla2 i hi; omega)
  clear hb3 hk3 hz3 hzl hlt5 hg5 hz2 hgl2 hla2 hw2
  by_cases h2 : k = 2
  · have b2 : (k != 2) = false := by simp [h2]
    subst h2
    rw [if_pos rfl] at HG
    have p0 := HP.out.c0
    have b3 : ((2 : Int) == 3) = false := by decide
    go_wp2_with (first
      | (refine wpList_ld rfl _ _ rfl g5 0 rfl (bpl Bp.chg) HP.out.all _ Try.underlying52 rfl (infBp _) ?_)
      | fail)
    refine (maybe_yes Bp.chg _).mono ?_
    rintro e w14 ⟨rfl, hk⟩
    have HC := Lib.hid (HC.out.kept hk (fun hf => hf) (fun _ _ hf => hf))
    have HZ := Lib.hid (HZ.out.kept hk (fun hf => hf))
    have HP := Lib.hid (HP.out.kept hk (fun hf => hf))
    have HK := Lib.hid (HK.out.then hk)
    clear hk
    dsimp only
    cases hmb : mayB Bp.chg
    · have HF := Lib.hid (fnM_a Bp.chg s (by decide)  hmb)
      clear hmb
      go_wp2_with (fail)
      refine (fail_yes g A' n c' s 5 _ HC.out).mono ?_
      rintro e w15 ⟨rfl, hc, hk⟩
      have HC := Lib.hid hc
      have HZ := Lib.hid (HZ.out.kept hk (fun hf => absurd hf (by have := HGG.out; unfold One; omega)))
      have HP := Lib.hid (HP.out.kept hk (fun hf => absurd hf (by have := HG5.out; unfold One; omega)))
      have HK := Lib.hid (HK.out.fresh hk (fun i hi => by cases hi; have := HGG.out; have := HGZ.out; omega))
      clear hc hk
      dsimp only
      have e0 := HC.out.c0
      have e3 := HC.out.c3
      go_wp2_with (fail)
      refine (err_yes g _ _ e0 e3).mono ?_
      rintro e w20 ⟨rfl, rfl⟩
      dsimp only
      by_cases her : (failM s 5).er = 0
      · have be : ((failM s 5).er != 0) = false := by simp [her]
        rw [if_pos her] at HF
        clear her
        go_wp2_with (first
          | (refine wpList_ld rfl _ _ rfl g5 0 rfl (bpl Bp.chg) HP.out.all _ Try.underlying52 rfl (infBp _) ?_)
          | (refine wpList_st rfl 52 (.tmp 2) _ rfl _ 0 rfl (bpl Bp.chg) _ rfl rfl (infBp _) 52 (bpl Bp.zero) HZ.out (by show 0 + 10 ≤ 10; decide) (bpl_one _) ?_; intro w21 hb21 hk21 hz21; simp only [Act.put, List.setIfInBounds_toArray, List.set_cons_succ, List.set_cons_zero])
          | fail)
        have h2 := BPB.of_all (m := Bp.zero) (m' := Bp.chg) hb21
        refine bodyPost_ret (res_cell1 Try.results15 rfl rfl h2.all Try.underlying52 rfl (infBp _)) rfl ⟨by rw [HG.out, HF.out]; rfl, ?_⟩
        exact HK.out.fresh hk21 (fun i hi => by cases hi; have := HGZ.out; omega)
      · have be : ((failM s 5).er != 0) = true := by simp [her]
        rw [if_neg her] at HF
        clear her
        have e0 := HC.out.c0
        have e3 := HC.out.c3
        go_wp2_with (fail)
        refine (err_yes g _ _ e0 e3).mono ?_
        rintro e w21 ⟨rfl, rfl⟩
        dsimp only
        go_wp2_with (first
          | (refine wpList_st rfl 52 (.tmp 2) _ rfl _ 0 rfl (bpl Bp.zero) _ rfl rfl (infBp _) 52 (bpl Bp.zero) HZ.out (by show 0 + 10 ≤ 10; decide) (bpl_one _) ?_; intro w22 hb22 hk22 hz22; simp only [Act.put, List.setIfInBounds_toArray, List.set_cons_succ, List.set_cons_zero])
          | fail)
        have h2 := BPB.of_all (m := Bp.zero) (m' := Bp.zero) hb22
        refine bodyPost_ret (res_cell1 Try.results15 rfl rfl h2.all Try.underlying52 rfl (infBp _)) rfl ⟨by rw [HG.out, HF.out]; rfl, ?_⟩
        exact HK.out.fresh hk22 (fun i hi => by cases hi; have := HGZ.out; omega)
    · have HF := Lib.hid (fnM_b Bp.chg s (by decide)  hmb)
      clear hmb
      have e0 := HC.out.c0
      have e3 := HC.out.c3
      go_wp2_with (fail)
      refine (err_yes g _ _ e0 e3).mono ?_
      rintro e w20 ⟨rfl, rfl⟩
      dsimp only
      by_cases her : s.er = 0
      · have be : (s.er != 0) = false := by simp [her]
        rw [if_pos her] at HF
        clear her
        go_wp2_with (first
          | (refine wpList_ld rfl _ _ rfl g5 0 rfl (bpl Bp.chg) HP.out.all _ Try.underlying52 rfl (infBp _) ?_)
          | (refine wpList_st rfl 52 (.tmp 2) _ rfl _ 0 rfl (bpl Bp.chg) _ rfl rfl (infBp _) 52 (bpl Bp.zero) HZ.out (by show 0 + 10 ≤ 10; decide) (bpl_one _) ?_; intro w21 hb21 hk21 hz21; simp only [Act.put, List.setIfInBounds_toArray, List.set_cons_succ, List.set_cons_zero])
          | fail)
        have h2 := BPB.of_all (m := Bp.zero) (m' := Bp.chg) hb21
        refine bodyPost_ret (res_cell1 Try.results15 rfl rfl h2.all Try.underlying52 rfl (infBp _)) rfl ⟨by rw [HG.out, HF.out]; rfl, ?_⟩
        exact HK.out.fresh hk21 (fun i hi => by cases hi; have := HGZ.out; omega)
      · have be : (s.er != 0) = true := by simp [her]
        rw [if_neg her] at HF
        clear her
        have e0 := HC.out.c0
        have e3 := HC.out.c3
        go_wp2_with (fail)
        refine (err_yes g _ _ e0 e3).mono ?_
        rintro e w21 ⟨rfl, rfl⟩
        dsimp only
        go_wp2_with (first
          | (refine wpList_st rfl 52 (.tmp 2) _ rfl _ 0 rfl (bpl Bp.zero) _ rfl rfl (infBp _) 52 (bpl Bp.zero) HZ.out (by show 0 + 10 ≤ 10; decide) (bpl_one _) ?_; intro w22 hb22 hk22 hz22; simp only [Act.put, List.setIfInBounds_toArray, List.set_cons_succ, List.set_cons_zero])
          | fail)
        have h2 := BPB.of_all (m := Bp.zero) (m' := Bp.zero) hb22
        refine bodyPost_ret (res_cell1 Try.results15 rfl rfl h2.all Try.underlying52 rfl (infBp _)) rfl ⟨by rw [HG.out, HF.out]; rfl, ?_⟩
        exact HK.out.fresh hk22 (fun i hi => by cases hi; have := HGZ.out; omega)
  · have b2 : (k != 2) = true := by simp [h2]
    rw [if_neg h2] at HG
    have p0 := HP.out.c0
    go_wp2_with (fail)
    refine (fields_yes g A' n c' s k _ HC.out HN.out).mono ?_
    rintro e w4 ⟨rfl, hc, hk⟩
    have HZ := Lib.hid (HZ.out.kept hk (fun hf => absurd hf (by have := HGG.out; unfold One; omega)))
    have HP := Lib.hid (HP.out.kept hk (fun hf => absurd hf (by have := HG5.out; unfold One; omega)))
    have HK := Lib.hid (HK.out.fresh hk (fun i hi => by cases hi; have := HGG.out; have := HGZ.out; omega))
    have HC := Lib.hid hc
    clear hc hk p0
    have hkd : (tfM k s).kd = k := rfl
    generalize tfM k s = m at *
    generalize st9 s = s at *
    dsimp only
    go_upto_region 5 with (first
      | (refine wpList_st rfl 52 (.tmp 5) _ rfl _ 0 rfl (bpl m) _ rfl rfl (infBp _) 52 _ HP.out (by show 0 + 10 ≤ 10; decide) (bpl_one _) ?_; intro w5 hb5 hk5 hz5; simp only [Act.put, List.setIfInBounds_toArray, List.set_cons_succ, List.set_cons_zero])
      | fail)
    have HP := Lib.hid (BPB.of_all (m := ⟨k, 0, 0, 0, 0, 0, 0, 0, 0, 0⟩) (m' := m) hb5)
    have HZ := Lib.hid (HZ.out.kept hk5 (fun hf => absurd hf (by have := H5z.out; unfold One; omega)))
    have HC := Lib.hid (HC.out.kept hk5 (fun hf => absurd hf (by have := HG5.out; unfold One; omega)) (fun i hi hf => HA5.out i hi hf))
    have HK := Lib.hid (HK.out.fresh hk5 (fun i hi => by cases hi; exact HGW.out))
    have p0 := HP.out.c0
    clear hb5 hk5 hz5
    by_cases h3 : m.kd = 3
    · have b3 : (m.kd == 3) = true := by simp [h3]
      go_wp2_with (fail)
      refine (Byte_yes g A' n c' s _ HC.out).mono ?_
      rintro e w6 ⟨rfl, hc, hk⟩
      have HZ := Lib.hid (HZ.out.kept hk (fun hf => absurd hf (by have := HGG.out; unfold One; omega)))
      have HP := Lib.hid (HP.out.kept hk (fun hf => absurd hf (by have := HG5.out; unfold One; omega)))
      have HK := Lib.hid (HK.out.fresh hk (fun i hi => by cases hi; have := HGG.out; have := HGZ.out; omega))
      have HC := Lib.hid hc
      clear hc hk p0
      dsimp only
      by_cases hv : numM (takeM s 1).1 = 0
      · have bv : ((numM (takeM s 1).1 : Int) != 0) = false := by simp [hv]
        go_wp2_with (first
          | (refine wpList_ld rfl _ _ rfl g5 0 rfl (bpl m) HP.out.all _ Try.underlying52 rfl (infBp _) ?_)
          | fail)
        refine (maybe_yes m _).mono ?_
        rintro e w14 ⟨rfl, hk⟩
        have HC := Lib.hid (HC.out.kept hk (fun hf => hf) (fun _ _ hf => hf))
        have HZ := Lib.hid (HZ.out.kept hk (fun hf => hf))
        have HP := Lib.hid (HP.out.kept hk (fun hf => hf))
        have HK := Lib.hid (HK.out.then hk)
        clear hk
        dsimp only
        cases hmb : mayB m
        · have HF := Lib.hid (fnM_3b m s h3 hv  hmb)
          clear hmb
          go_wp2_with (fail)
          refine (fail_yes g A' n c' (takeM s 1).2 5 _ HC.out).mono ?_
          rintro e w15 ⟨rfl, hc, hk⟩
          have HC := Lib.hid hc
          have HZ := Lib.hid (HZ.out.kept hk (fun hf => absurd hf (by have := HGG.out; unfold One; omega)))
          have HP := Lib.hid (HP.out.kept hk (fun hf => absurd hf (by have := HG5.out; unfold One; omega)))
          have HK := Lib.hid (HK.out.fresh hk (fun i hi => by cases hi; have := HGG.out; have := HGZ.out; omega))
          clear hc hk
          dsimp only
          have e0 := HC.out.c0
          have e3 := HC.out.c3
          go_wp2_with (fail)
          refine (err_yes g _ _ e0 e3).mono ?_
          rintro e w20 ⟨rfl, rfl⟩
          dsimp only
          by_cases her : (failM (takeM s 1).2 5).er = 0
          · have be : ((failM (takeM s 1).2 5).er != 0) = false := by simp [her]
            rw [if_pos her] at HF
            clear her
            go_wp2_with (first
              | (refine wpList_ld rfl _ _ rfl g5 0 rfl (bpl m) HP.out.all _ Try.underlying52 rfl (infBp _) ?_)
              | (refine wpList_st rfl 52 (.tmp 2) _ rfl _ 0 rfl (bpl m) _ rfl rfl (infBp _) 52 (bpl Bp.zero) HZ.out (by show 0 + 10 ≤ 10; decide) (bpl_one _) ?_; intro w21 hb21 hk21 hz21; simp only [Act.put, List.setIfInBounds_toArray, List.set_cons_succ, List.set_cons_zero])
              | fail)
            have h2 := BPB.of_all (m := Bp.zero) (m' := m) hb21
            refine bodyPost_ret (res_cell1 Try.results15 rfl rfl h2.all Try.underlying52 rfl (infBp _)) rfl ⟨by rw [HG.out, HF.out]; rfl, ?_⟩
            exact HK.out.fresh hk21 (fun i hi => by cases hi; have := HGZ.out; omega)
          · have be : ((failM (takeM s 1).2 5).er != 0) = true := by simp [her]
            rw [if_neg her] at HF
            clear her
            have e0 := HC.out.c0
            have e3 := HC.out.c3
            go_wp2_with (fail)
            refine (err_yes g _ _ e0 e3).mono ?_
            rintro e w21 ⟨rfl, rfl⟩
            dsimp only
            go_wp2_with (first
              | (refine wpList_st rfl 52 (.tmp 2) _ rfl _ 0 rfl (bpl Bp.zero) _ rfl rfl (infBp _) 52 (bpl Bp.zero) HZ.out (by show 0 + 10 ≤ 10; decide) (bpl_one _) ?_; intro w22 hb22 hk22 hz22; simp only [Act.put, List.setIfInBounds_toArray, List.set_cons_succ, List.set_cons_zero])
              | fail)
            have h2 := BPB.of_all (m := Bp.zero) (m' := Bp.zero) hb22
            refine bodyPost_ret (res_cell1 Try.results15 rfl rfl h2.all Try.underlying52 rfl (infBp _)) rfl ⟨by rw [HG.out, HF.out]; rfl, ?_⟩
            exact HK.out.fresh hk22 (fun i hi => by cases hi; have := HGZ.out; omega)
        · have HF := Lib.hid (fnM_3c m s h3 hv  hmb)
          clear hmb
          have e0 := HC.out.c0
          have e3 := HC.out.c3
          go_wp2_with (fail)
          refine (err_yes g _ _ e0 e3).mono ?_
          rintro e w20 ⟨rfl, rfl⟩
          dsimp only
          by_cases her : (takeM s 1).2.er = 0
          · have be : ((takeM s 1).2.er != 0) = false := by simp [her]
            rw [if_pos her] at HF
            clear her
            go_wp2_with (first
              | (refine wpList_ld rfl _ _ rfl g5 0 rfl (bpl m) HP.out.all _ Try.underlying52 rfl (infBp _) ?_)
              | (refine wpList_st rfl 52 (.tmp 2) _ rfl _ 0 rfl (bpl m) _ rfl rfl (infBp _) 52 (bpl Bp.zero) HZ.out (by show 0 + 10 ≤ 10; decide) (bpl_one _) ?_; intro w21 hb21 hk21 hz21; simp only [Act.put, List.setIfInBounds_toArray, List.set_cons_succ, List.set_cons_zero])
              | fail)
            have h2 := BPB.of_all (m := Bp.zero) (m' := m) hb21
            refine bodyPost_ret (res_cell1 Try.results15 rfl rfl h2.all Try.underlying52 rfl (infBp _)) rfl ⟨by rw [HG.out, HF.out]; rfl, ?_⟩
            exact HK.out.fresh hk21 (fun i hi => by cases hi; have := HGZ.out; omega)
          · have be : ((takeM s 1).2.er != 0) = true := by simp [her]
            rw [if_neg her] at HF
            clear her
            have e0 := HC.out.c0
            have e3 := HC.out.c3
            go_wp2_with (fail)
            refine (err_yes g _ _ e0 e3).mono ?_
            rintro e w21 ⟨rfl, rfl⟩
            dsimp only
            go_wp2_with (first
              | (refine wpList_st rfl 52 (.tmp 2) _ rfl _ 0 rfl (bpl Bp.zero) _ rfl rfl (infBp _) 52 (bpl Bp.zero) HZ.out (by show 0 + 10 ≤ 10; decide) (bpl_one _) ?_; intro w22 hb22 hk22 hz22; simp only [Act.put, List.setIfInBounds_toArray, List.set_cons_succ, List.set_cons_zero])
              | fail)
            have h2 := BPB.of_all (m := Bp.zero) (m' := Bp.zero) hb22
            refine bodyPost_ret (res_cell1 Try.results15 rfl rfl h2.all Try.underlying52 rfl (infBp _)) rfl ⟨by rw [HG.out, HF.out]; rfl, ?_⟩
            exact HK.out.fresh hk22 (fun i hi => by cases hi; have := HGZ.out; omega)
      · have bv : ((numM (takeM s 1).1 : Int) != 0) = true := by simp; omega
        have HF := Lib.hid (fnM_3a m s h3 hv)
        go_wp2_with (fail)
        refine (fail_yes g A' n c' (takeM s 1).2 5 _ HC.out).mono ?_
        rintro e w15 ⟨rfl, hc, hk⟩
        have HC := Lib.hid hc
        have HZ := Lib.hid (HZ.out.kept hk (fun hf => absurd hf (by have := HGG.out; unfold One; omega)))
        have HP := Lib.hid (HP.out.kept hk (fun hf => absurd hf (by have := HG5.out; unfold One; omega)))
        have HK := Lib.hid (HK.out.fresh hk (fun i hi => by cases hi; have := HGG.out; have := HGZ.out; omega))
        clear hc hk
        dsimp only
        have e0 := HC.out.c0
        have e3 := HC.out.c3
        go_wp2_with (fail)
        refine (err_yes g _ _ e0 e3).mono ?_
        rintro e w20 ⟨rfl, rfl⟩
        dsimp only
        by_cases her : (failM (takeM s 1).2 5).er = 0
        · have be : ((failM (takeM s 1).2 5).er != 0) = false := by simp [her]
          rw [if_pos her] at HF
          clear her
          go_wp2_with (first
            | (refine wpList_ld rfl _ _ rfl g5 0 rfl (bpl m) HP.out.all _ Try.underlying52 rfl (infBp _) ?_)
            | (refine wpList_st rfl 52 (.tmp 2) _ rfl _ 0 rfl (bpl m) _ rfl rfl (infBp _) 52 (bpl Bp.zero) HZ.out (by show 0 + 10 ≤ 10; decide) (bpl_one _) ?_; intro w21 hb21 hk21 hz21; simp only [Act.put, List.setIfInBounds_toArray, List.set_cons_succ, List.set_cons_zero])
            | fail)
          have h2 := BPB.of_all (m := Bp.zero) (m' := m) hb21
          refine bodyPost_ret (res_cell1 Try.results15 rfl rfl h2.all Try.underlying52 rfl (infBp _)) rfl ⟨by rw [HG.out, HF.out]; rfl, ?_⟩
          exact HK.out.fresh hk21 (fun i hi => by cases hi; have := HGZ.out; omega)
        · have be : ((failM (takeM s 1).2 5).er != 0) = true := by simp [her]
          rw [if_neg her] at HF
          clear her
          have e0 := HC.out.c0
          have e3 := HC.out.c3
          go_wp2_with (fail)
          refine (err_yes g _ _ e0 e3).mono ?_
          rintro e w21 ⟨rfl, rfl⟩
          dsimp only
          go_wp2_with (first
            | (refine wpList_st rfl 52 (.tmp 2) _ rfl _ 0 rfl (bpl Bp.zero) _ rfl rfl (infBp _) 52 (bpl Bp.zero) HZ.out (by show 0 + 10 ≤ 10; decide) (bpl_one _) ?_; intro w22 hb22 hk22 hz22; simp only [Act.put, List.setIfInBounds_toArray, List.set_cons_succ, List.set_cons_zero])
            | fail)
          have h2 := BPB.of_all (m := Bp.zero) (m' := Bp.zero) hb22
          refine bodyPost_ret (res_cell1 Try.results15 rfl rfl h2.all Try.underlying52 rfl (infBp _)) rfl ⟨by rw [HG.out, HF.out]; rfl, ?_⟩
          exact HK.out.fresh hk22 (fun i hi => by cases hi; have := HGZ.out; omega)
    · have b3 : (m.kd == 3) = false := by simp [h3]
      go_wp2_with (first
        | (refine wpList_ld rfl _ _ rfl g5 0 rfl (bpl m) HP.out.all _ Try.underlying52 rfl (infBp _) ?_)
        | fail)
      refine (maybe_yes m _).mono ?_
      rintro e w14 ⟨rfl, hk⟩
      have HC := Lib.hid (HC.out.kept hk (fun hf => hf) (fun _ _ hf => hf))
      have HZ := Lib.hid (HZ.out.kept hk (fun hf => hf))
      have HP := Lib.hid (HP.out.kept hk (fun hf => hf))
      have HK := Lib.hid (HK.out.then hk)
      clear hk
      dsimp only
      cases hmb : mayB m
      · have HF := Lib.hid (fnM_a m s h3  hmb)
        clear hmb
        go_wp2_with (fail)
        refine (fail_yes g A' n c' s 5 _ HC.out).mono ?_
        rintro e w15 ⟨rfl, hc, hk⟩
        have HC := Lib.hid hc
        have HZ := Lib.hid (HZ.out.kept hk (fun hf => absurd hf (by have := HGG.out; unfold One; omega)))
        have HP := Lib.hid (HP.out.kept hk (fun hf => absurd hf (by have := HG5.out; unfold One; omega)))
        have HK := Lib.hid (HK.out.fresh hk (fun i hi => by cases hi; have := HGG.out; have := HGZ.out; omega))
        clear hc hk
        dsimp only
        have e0 := HC.out.c0
        have e3 := HC.out.c3
        go_wp2_with (fail)
        refine (err_yes g _ _ e0 e3).mono ?_
        rintro e w20 ⟨rfl, rfl⟩
        dsimp only
        by_cases her : (failM s 5).er = 0
        · have be : ((failM s 5).er != 0) = false := by simp [her]
          rw [if_pos her] at HF
          clear her
          go_wp2_with (first
            | (refine wpList_ld rfl _ _ rfl g5 0 rfl (bpl m) HP.out.all _ Try.underlying52 rfl (infBp _) ?_)
            | (refine wpList_st rfl 52 (.tmp 2) _ rfl _ 0 rfl (bpl m) _ rfl rfl (infBp _) 52 (bpl Bp.zero) HZ.out (by show 0 + 10 ≤ 10; decide) (bpl_one _) ?_; intro w21 hb21 hk21 hz21; simp only [Act.put, List.setIfInBounds_toArray, List.set_cons_succ, List.set_cons_zero])
            | fail)
          have h2 := BPB.of_all (m := Bp.zero) (m' := m) hb21
          refine bodyPost_ret (res_cell1 Try.results15 rfl rfl h2.all Try.underlying52 rfl (infBp _)) rfl ⟨by rw [HG.out, HF.out]; rfl, ?_⟩
          exact HK.out.fresh hk21 (fun i hi => by cases hi; have := HGZ.out; omega)
        · have be : ((failM s 5).er != 0) = true := by simp [her]
          rw [if_neg her] at HF
          clear her
          have e0 := HC.out.c0
          have e3 := HC.out.c3
          go_wp2_with (fail)
          refine (err_yes g _ _ e0 e3).mono ?_
          rintro e w21 ⟨rfl, rfl⟩
          dsimp only
          go_wp2_with (first
            | (refine wpList_st rfl 52 (.tmp 2) _ rfl _ 0 rfl (bpl Bp.zero) _ rfl rfl (infBp _) 52 (bpl Bp.zero) HZ.out (by show 0 + 10 ≤ 10; decide) (bpl_one _) ?_; intro w22 hb22 hk22 hz22; simp only [Act.put, List.setIfInBounds_toArray, List.set_cons_succ, List.set_cons_zero])
            | fail)
          have h2 := BPB.of_all (m := Bp.zero) (m' := Bp.zero) hb22
          refine bodyPost_ret (res_cell1 Try.results15 rfl rfl h2.all Try.underlying52 rfl (infBp _)) rfl ⟨by rw [HG.out, HF.out]; rfl, ?_⟩
          exact HK.out.fresh hk22 (fun i hi => by cases hi; have := HGZ.out; omega)
      · have HF := Lib.hid (fnM_b m s h3  hmb)
        clear hmb
        have e0 := HC.out.c0
        have e3 := HC.out.c3
        go_wp2_with (fail)
        refine (err_yes g _ _ e0 e3).mono ?_
        rintro e w20 ⟨rfl, rfl⟩
        dsimp only
        by_cases her : s.er = 0
        · have be : (s.er != 0) = false := by simp [her]
          rw [if_pos her] at HF
          clear her
          go_wp2_with (first
            | (refine wpList_ld rfl _ _ rfl g5 0 rfl (bpl m) HP.out.all _ Try.underlying52 rfl (infBp _) ?_)
            | (refine wpList_st rfl 52 (.tmp 2) _ rfl _ 0 rfl (bpl m) _ rfl rfl (infBp _) 52 (bpl Bp.zero) HZ.out (by show 0 + 10 ≤ 10; decide) (bpl_one _) ?_; intro w21 hb21 hk21 hz21; simp only [Act.put, List.setIfInBounds_toArray, List.set_cons_succ, List.set_cons_zero])
            | fail)
          have h2 := BPB.of_all (m := Bp.zero) (m' := m) hb21
          refine bodyPost_ret (res_cell1 Try.results15 rfl rfl h2.all Try.underlying52 rfl (infBp _)) rfl ⟨by rw [HG.out, HF.out]; rfl, ?_⟩
          exact HK.out.fresh hk21 (fun i hi => by cases hi; have := HGZ.out; omega)
        · have be : (s.er != 0) = true := by simp [her]
          rw [if_neg her] at HF
          clear her
          have e0 := HC.out.c0
          have e3 := HC.out.c3
          go_wp2_with (fail)
          refine (err_yes g _ _ e0 e3).mono ?_
          rintro e w21 ⟨rfl, rfl⟩
          dsimp only
          go_wp2_with (first
            | (refine wpList_st rfl 52 (.tmp 2) _ rfl _ 0 rfl (bpl Bp.zero) _ rfl rfl (infBp _) 52 (bpl Bp.zero) HZ.out (by show 0 + 10 ≤ 10; decide) (bpl_one _) ?_; intro w22 hb22 hk22 hz22; simp only [Act.put, List.setIfInBounds_toArray, List.set_cons_succ, List.set_cons_zero])
            | fail)
          have h2 := BPB.of_all (m := Bp.zero) (m' := Bp.zero) hb22
          refine bodyPost_ret (res_cell1 Try.results15 rfl rfl h2.all Try.underlying52 rfl (infBp _)) rfl ⟨by rw [HG.out, HF.out]; rfl, ?_⟩
          exact HK.out.fresh hk22 (fun i hi => by cases hi; have := HGZ.out; omega)
end Go.Proofs.Ythjfeanmgaidcaa
