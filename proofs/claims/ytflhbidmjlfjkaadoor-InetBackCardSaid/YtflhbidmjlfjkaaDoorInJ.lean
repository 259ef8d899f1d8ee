/- Package inet: contracts of parseBits, ParsePrefix, Prefix.Text, Has. -/
import Derived.Test.YtflhbidmjlfjkaaDoorInI
import Derived.Test.YtflhbidmjlfjkaaDoorAgg
import Derived.Test.YtflhbidmjlfjkaaDoorEthT
namespace Go.Proofs.YtflhbidmjlfjkaaDoor
open Go.RowKit Go.Sort
set_option linter.unusedVariables false

/-- A prefix's two cells. -/
def pfc (a : Nat) (b : Int) : List Value := [.int .u32 (a : Int), .int .i64 b]
theorem pfc_one (a : Nat) (b : Int) : ∀ u ∈ pfc a b, u.oneCell' = true := by
  intro u hu
  simp only [pfc, List.mem_cons, List.not_mem_nil, or_false] at hu
  rcases hu with rfl | rfl <;> rfl
def PF (w : World) (g : Nat) (a : Nat) (b : Int) : Prop := Blo w g 46 (pfc a b).toArray
theorem PF.all {w : World} {g a : Nat} {b : Int} (h : PF w g a b) : Row w g 0 (pfc a b) := Blo.row [] _ [] (by rw [List.nil_append, List.append_nil]; exact h)
theorem PF.c0 {w : World} {g a : Nat} {b : Int} (h : PF w g a b) : w.cell? ⟨g, 0, none⟩ = some (.int .u32 (a : Int)) := h.all 0 _ rfl
theorem PF.c1 {w : World} {g a : Nat} {b : Int} (h : PF w g a b) : w.cell? ⟨g, 1, none⟩ = some (.int .i64 b) := h.all 1 _ rfl
theorem PF.kept {F : Nat → Prop} {w w' : World} {g a : Nat} {b : Int} (h : PF w g a b) (k : Kept F w w') (hg : ¬ F g) : PF w' g a b := Blo.kept h k hg
theorem infPf (a : Nat) (b : Int) : (Tryd.prog.info? 46).map (·.size) = some (pfc a b).length := by show _ = some 2; kernel_rfl
theorem PF.of_st {w : World} {g a a' : Nat} {b b' : Int} (h : Blo w g 46 ((pfc a b).take 0 ++ pfc a' b' ++ (pfc a b).drop (0 + (pfc a' b').length)).toArray) : PF w g a' b' := h


theorem bits_num (l : List UInt8) (h : l.length ≤ 2) : bitsT l = numT l := by
  unfold bitsT numT
  by_cases hc : 1 ≤ l.length ∧ l.length ≤ 2 ∧ l.all isDig = true ∧ (l.length = 1 ∨ l.headD 0 ≠ 48)
  · obtain ⟨h1, h2, h3, h4⟩ := hc
    have hv : valD l ≤ 255 := by
      match l, h1, h2, h3 with
      | [a], _, _, hd => simp [isDig] at hd; simp [valD]; omega
      | [a, b], _, _, hd => simp [isDig] at hd; simp [valD]; omega
    rw [if_pos ⟨h1, h2, h3, h4⟩, if_pos ⟨h1, by omega, h3, h4, hv⟩]
  · rw [if_neg hc, if_neg (fun h' => hc ⟨h'.1, h, h'.2.2.1, h'.2.2.2.1⟩)]
theorem bits_long (l : List UInt8) (h : 2 < l.length) : bitsT l = none := by
  unfold bitsT
  rw [if_neg (fun h' => by omega)]
def resB : Option Nat → Nat × Int
  | none => (0, 5)
  | some k => if 32 < k then (0, 24) else (k, 0)
set_option maxRecDepth 100000 in
set_option maxHeartbeats 2000000 in
theorem pbits_yes (s : ByteArray) (hm : s.size ≤ 1099511627776) (w : World) (hG : Gl w) : Calls Tryd.prog 54 #[.string s] w fun e w' => e = .returned (.tuple #[.int .i64 ((resB (bitsT s.data.toList)).1 : Int), .int .i64 (resB (bitsT s.data.toList)).2]) ∧ Kept Nil w w' := by
  have hsz : s.data.toList.length = s.size := by rw [Lib.size_eq]
  have HC := Lib.hid (number_yes s hm w hG)
  have h255 := num_lt s.data.toList
  have hcases : (numV s.data.toList = (0, false) ∧ resB (bitsT s.data.toList) = (0, 5)) ∨ (∃ v, numV s.data.toList = (v, true) ∧ 2 < s.size ∧ resB (bitsT s.data.toList) = (0, 5)) ∨ ∃ v, numV s.data.toList = (v, true) ∧ s.size ≤ 2 ∧ resB (bitsT s.data.toList) = if 32 < v then (0, 24) else (v, 0) := by
    unfold numV
    cases hn : numT s.data.toList with
    | none =>
      left
      refine ⟨rfl, ?_⟩
      by_cases h2 : s.data.toList.length ≤ 2
      · rw [bits_num _ h2, hn]; rfl
      · rw [bits_long _ (by omega)]; rfl
    | some v =>
      right
      by_cases h2 : s.data.toList.length ≤ 2
      · exact .inr ⟨v, rfl, by omega, by rw [bits_num _ h2, hn]; rfl⟩
      · exact .inl ⟨v, rfl, by omega, by rw [bits_long _ (by omega)]; rfl⟩
  generalize resB (bitsT s.data.toList) = R at *
  generalize numV s.data.toList = V at *
  clear hsz hG
  rcases hcases with ⟨rfl, rfl⟩ | ⟨v, rfl, h2, rfl⟩ | ⟨v, rfl, h2, rfl⟩
  · clear h255
    go_enter Tryd.func54, Tryd.ntmps54
    go_wp2_with (fail)
    refine (HC.out).mono ?_
    rintro e w1 ⟨rfl, hk⟩
    have HK := Lib.hid hk
    clear hk
    go_wp2
    go_ret2
    exact ⟨rfl, HK.out⟩
  · go_enter Tryd.func54, Tryd.ntmps54
    go_wp2_with (fail)
    refine (HC.out).mono ?_
    rintro e w1 ⟨rfl, hk⟩
    have HK := Lib.hid hk
    clear hk
    go_wp2
    go_ret2
    exact ⟨rfl, HK.out⟩
  · simp only at h255
    by_cases h32 : 32 < v
    · rw [if_pos h32]
      have h32' : (32 : Int) < (v : Int) := by omega
      go_enter Tryd.func54, Tryd.ntmps54
      go_wp2_with (fail)
      refine (HC.out).mono ?_
      rintro e w1 ⟨rfl, hk⟩
      have HK := Lib.hid hk
      clear hk
      go_wp2
      go_ret2
      exact ⟨rfl, HK.out⟩
    · rw [if_neg h32]
      have h32' : ¬ (32 : Int) < (v : Int) := by omega
      go_enter Tryd.func54, Tryd.ntmps54
      go_wp2_with (fail)
      refine (HC.out).mono ?_
      rintro e w1 ⟨rfl, hk⟩
      have HK := Lib.hid hk
      clear hk
      go_wp2
      go_ret2
      exact ⟨by first | rfl | go_num, HK.out⟩
theorem index_upTo (c : UInt8) (s : List UInt8) : Lib.indexByte s c = match upTo c s with | (a, some _) => (a.length : Int) | (_, none) => -1 := by
  induction s with
  | nil => rfl
  | cons b l ih =>
    unfold Lib.indexByte upTo
    by_cases hb : b = c
    · subst hb
      simp
    · rw [if_neg hb, ih]
      have : (b == c) = false := by simpa using hb
      rw [this]
      rcases h : upTo c l with ⟨a, _ | r⟩
      · simp
      · have h0 : (((a.length : Nat) : Int) == -1) = false := by rw [beq_eq_false_iff_ne]; omega
        simp [h0]
def ppA : Option Nat → Nat × Nat × Int
  | some n => (n, 32, 0)
  | none => (0, 0, 5)
def ppB : Option Nat → Option Nat → Nat × Nat × Int
  | none, _ => (0, 0, 5)
  | some _, none => (0, 0, 5)
  | some n, some k => if 32 < k then (0, 0, 24) else (maskM n k, k, 0)
theorem PB_lit (w : World) (T : TypeId) (a : Nat) (b : Int) : Blo (w.alloc (.cells #[.int .u32 (a : Int), .int .i64 b] T)) w.heap.size T (pfc a b).toArray := Blo.new w T _
set_option maxRecDepth 100000 in
set_option maxHeartbeats 4000000 in
theorem ippar_yes (s : ByteArray) (hm : s.size ≤ 1000000) (w : World) (hG : Gl w) : Calls Tryd.prog 23 #[.string s] w fun e w' => e = .returned (.tuple #[.agg #[.int .u32 ((pparseM s.data.toList).1 : Int), .int .i64 ((pparseM s.data.toList).2.1 : Int)], .int .i64 (pparseM s.data.toList).2.2]) ∧ Kept Nil w w' := by
  have hsz : s.data.toList.length = s.size := by rw [Lib.size_eq]
  have hP0 := Blo.new w 46 (pfc 0 0).toArray
  have hk0 := (Kept.refl Nil w).alloc (.cells (pfc 0 0).toArray 46)
  have HP0 := Lib.hid hP0
  have HK0 := Lib.hid hk0
  have HGG := Lib.hid hG
  clear hP0 hk0 hG
  rcases hu : upTo slash s.data.toList with ⟨a, _ | r⟩
  · -- no slash
    obtain ⟨rfl, hno⟩ := upTo_no hu
    have hi : Lib.indexByte s.data.toList 47 = -1 := by have := index_upTo slash s.data.toList; rw [hu] at this; exact this
    have HC := Lib.hid (istrCutN s 47 hi)
    have HPA := Lib.hid (iparse_yes s hm)
    have hpp : pparseM s.data.toList = ppA (fourT s.data.toList) := by
      simp only [pparseM, hu]; cases fourT s.data.toList <;> rfl
    rw [parse_res] at HPA
    have h32 : ∀ n, fourT s.data.toList = some n → n < 4294967296 := fun n h => four_lt h
    generalize pparseM s.data.toList = R at *
    generalize fourT s.data.toList = F at *
    clear hu hno hi hsz
    cases F with
    | none =>
      simp only [ppA] at hpp
      subst hpp
      clear h32
      go_enter Tryd.func23, Tryd.ntmps23
      go_wp2_with (fail)
      refine (HC.out _).mono ?_
      rintro e w1 ⟨rfl, rfl⟩
      go_wp2_with (fail)
      refine (HPA.out _ (HGG.out.kept HK0.out)).mono ?_
      rintro e w1 ⟨rfl, hk1⟩
      simp only [resM]
      have HP1 := Lib.hid (HP0.out.kept hk1 (fun hf => hf))
      have HK1 := Lib.hid (HK0.out.then hk1)
      clear hk1
      go_wp2_with (first
        | (refine wpList_st rfl _ (.tmp 2) _ rfl w.heap.size 0 rfl (pfc 0 0) _ rfl rfl (infPf _ _) 46 _ HP1.out (Nat.le_refl 2) (pfc_one _ _) ?_; intro w2 hb2 hk2 hz2; simp only [Act.put])
        | fail)
      have h2 := PF.of_st hb2
      refine bodyPost_ret (res_cell1 Tryd.results23 rfl rfl h2.all Tryd.underlying46 rfl (infPf _ _)) rfl ⟨rfl, ?_⟩
      exact HK1.out.fresh hk2 (fun i hi => by cases hi; exact Nat.le_refl _)
    | some n =>
      simp only [ppA] at hpp
      subst hpp
      have hn := h32 n rfl
      have HM := Lib.hid (fun w => imask_yes n hn 32 (by omega) w)
      rw [mask_32] at HM
      clear h32
      go_enter Tryd.func23, Tryd.ntmps23
      go_wp2_with (fail)
      refine (HC.out _).mono ?_
      rintro e w1 ⟨rfl, rfl⟩
      go_wp2_with (fail)
      refine (HPA.out _ (HGG.out.kept HK0.out)).mono ?_
      rintro e w1 ⟨rfl, hk1⟩
      simp only [resM]
      have HP1 := Lib.hid (HP0.out.kept hk1 (fun hf => hf))
      have HK1 := Lib.hid (HK0.out.then hk1)
      clear hk1
      go_wp2_with (fail)
      refine (HM.out _).mono ?_
      rintro e w2 ⟨rfl, rfl⟩
      go_wp2_with (first
        | (refine wpList_st rfl _ (.tmp 2) _ rfl w.heap.size 0 rfl (pfc n 32) _ rfl rfl (infPf _ _) 46 _ HP1.out (Nat.le_refl 2) (pfc_one _ _) ?_; intro w2 hb2 hk2 hz2; simp only [Act.put])
        | fail)
      have h2 := PF.of_st hb2
      refine bodyPost_ret (res_cell1 Tryd.results23 rfl rfl h2.all Tryd.underlying46 rfl (infPf _ _)) rfl ⟨rfl, ?_⟩
      exact HK1.out.fresh hk2 (fun i hi => by cases hi; exact Nat.le_refl _)
  · -- a slash
    have hi : Lib.indexByte s.data.toList 47 = (a.length : Int) := by have := index_upTo slash s.data.toList; rw [hu] at this; exact this
    have hs := upTo_some hu
    have hal : a.length < s.size := by rw [← hsz, hs]; simp
    have HC := Lib.hid (istrCut s 47 a.length (by omega) hi)
    have ha : (s.extract 0 a.length).data.toList = a := by rw [pp_len, hs]; simp
    have hr : (s.extract (a.length + 1) s.size).data.toList = r := by rw [pp_rest s (a.length + 1) s.size rfl, hs]; simp [List.drop_append]
    have HPA := iparse_yes (s.extract 0 a.length) (by rw [ByteArray.size_extract]; omega)
    have HPB := pbits_yes (s.extract (a.length + 1) s.size) (by rw [ByteArray.size_extract]; omega)
    rw [ha, parse_res] at HPA
    rw [hr] at HPB
    have hpp : pparseM s.data.toList = ppB (fourT a) (bitsT r) := by
      simp only [pparseM, hu]; cases fourT a with | none => rfl | some n => cases bitsT r <;> rfl
    have h32 : ∀ n, fourT a = some n → n < 4294967296 := fun n h => four_lt h
    generalize pparseM s.data.toList = R at *
    generalize fourT a = F at *
    generalize bitsT r = T at *
    generalize s.extract 0 a.length = sa at *
    generalize s.extract (a.length + 1) s.size = sb at *
    have HPA := Lib.hid HPA
    have HPB := Lib.hid HPB
    clear hu hi hsz hs hal ha hr
    cases F with
    | none =>
      simp only [ppB] at hpp
      subst hpp
      clear h32
      go_enter Tryd.func23, Tryd.ntmps23
      go_wp2_with (fail)
      refine (HC.out _).mono ?_
      rintro e w1 ⟨rfl, q, hw1⟩
      have hk1 : Kept Nil w w1 := by rw [hw1]; exact HK0.out.drewN q
      have HP1 : Hid (Blo w1 w.heap.size 46 (pfc 0 0).toArray) := by unfold Hid; rw [hw1]; exact HP0.out.heap rfl
      have HK1 := Lib.hid hk1
      clear hw1 hk1
      go_wp2_with (fail)
      refine (HPA.out _ (HGG.out.kept HK1.out)).mono ?_
      rintro e w2 ⟨rfl, hk2⟩
      simp only [resM]
      have HP2 := Lib.hid (HP1.out.kept hk2 (fun hf => hf))
      have HK2 := Lib.hid (HK1.out.then hk2)
      clear hk2
      go_wp2_with (first
        | (refine wpList_st rfl _ (.tmp 2) _ rfl w.heap.size 0 rfl (pfc 0 0) _ rfl rfl (infPf _ _) 46 _ HP2.out (Nat.le_refl 2) (pfc_one _ _) ?_; intro w3 hb3 hk3 hz3; simp only [Act.put])
        | fail)
      have h2 := PF.of_st hb3
      refine bodyPost_ret (res_cell1 Tryd.results23 rfl rfl h2.all Tryd.underlying46 rfl (infPf _ _)) rfl ⟨rfl, ?_⟩
      exact HK2.out.fresh hk3 (fun i hi => by cases hi; exact Nat.le_refl _)
    | some n =>
      have hn := h32 n rfl
      clear h32
      rcases (show (∃ e, e ≠ 0 ∧ (resB T) = (0, e) ∧ ppB (some n) T = (0, 0, e)) ∨ ∃ k, k ≤ 32 ∧ resB T = (k, 0) ∧ ppB (some n) T = (maskM n k, k, 0) by
        cases T with
        | none => exact .inl ⟨5, by decide, rfl, rfl⟩
        | some k =>
          by_cases hk : 32 < k
          · exact .inl ⟨24, by decide, by simp [resB, hk], by simp [ppB, hk]⟩
          · exact .inr ⟨k, by omega, by simp [resB, hk], by simp [ppB, hk]⟩) with ⟨er, her, hRB, hppb⟩ | ⟨k, hk32, hRB, hppb⟩
      · rw [hppb] at hpp
        rw [hRB] at HPB
        subst hpp
        clear hRB hppb
        go_enter Tryd.func23, Tryd.ntmps23
        go_wp2_with (fail)
        refine (HC.out _).mono ?_
        rintro e w1 ⟨rfl, q, hw1⟩
        have hk1 : Kept Nil w w1 := by rw [hw1]; exact HK0.out.drewN q
        have HP1 : Hid (Blo w1 w.heap.size 46 (pfc 0 0).toArray) := by unfold Hid; rw [hw1]; exact HP0.out.heap rfl
        have HK1 := Lib.hid hk1
        clear hw1 hk1
        go_wp2_with (fail)
        refine (HPA.out _ (HGG.out.kept HK1.out)).mono ?_
        rintro e w2 ⟨rfl, hk2⟩
        simp only [resM]
        have HP2 := Lib.hid (HP1.out.kept hk2 (fun hf => hf))
        have HK2 := Lib.hid (HK1.out.then hk2)
        clear hk2
        go_wp2_with (fail)
        refine (HPB.out _ (HGG.out.kept HK2.out)).mono ?_
        rintro e w3 ⟨rfl, hk3⟩
        have HP3 := Lib.hid (HP2.out.kept hk3 (fun hf => hf))
        have HK3 := Lib.hid (HK2.out.then hk3)
        clear hk3
        go_wp2_with (first
          | (refine wpList_st rfl _ (.tmp 2) _ rfl w.heap.size 0 rfl (pfc 0 0) _ rfl rfl (infPf _ _) 46 _ HP3.out (Nat.le_refl 2) (pfc_one _ _) ?_; intro w4 hb4 hk4 hz4; simp only [Act.put])
          | fail)
        have h2 := PF.of_st hb4
        refine bodyPost_ret (res_cell1 Tryd.results23 rfl rfl h2.all Tryd.underlying46 rfl (infPf _ _)) rfl ⟨rfl, ?_⟩
        exact HK3.out.fresh hk4 (fun i hi => by cases hi; exact Nat.le_refl _)
      · rw [hppb] at hpp
        rw [hRB] at HPB
        subst hpp
        have HM := Lib.hid (fun w => imask_yes n hn k hk32 w)
        have hml := Nat.lt_of_le_of_lt (mask_le n k) hn
        generalize maskM n k = M at *
        clear hRB hppb
        go_enter Tryd.func23, Tryd.ntmps23
        go_wp2_with (fail)
        refine (HC.out _).mono ?_
        rintro e w1 ⟨rfl, q, hw1⟩
        have hk1 : Kept Nil w w1 := by rw [hw1]; exact HK0.out.drewN q
        have HP1 : Hid (Blo w1 w.heap.size 46 (pfc 0 0).toArray) := by unfold Hid; rw [hw1]; exact HP0.out.heap rfl
        have HK1 := Lib.hid hk1
        clear hw1 hk1
        go_wp2_with (fail)
        refine (HPA.out _ (HGG.out.kept HK1.out)).mono ?_
        rintro e w2 ⟨rfl, hk2⟩
        simp only [resM]
        have HP2 := Lib.hid (HP1.out.kept hk2 (fun hf => hf))
        have HK2 := Lib.hid (HK1.out.then hk2)
        clear hk2
        go_wp2_with (fail)
        refine (HPB.out _ (HGG.out.kept HK2.out)).mono ?_
        rintro e w3 ⟨rfl, hk3⟩
        have HP3 := Lib.hid (HP2.out.kept hk3 (fun hf => hf))
        have HK3 := Lib.hid (HK2.out.then hk3)
        clear hk3
        go_wp2_with (fail)
        refine (HM.out _).mono ?_
        rintro e w4 ⟨rfl, rfl⟩
        go_wp2_with (first
          | (refine wpList_st rfl _ (.tmp 2) _ rfl w.heap.size 0 rfl (pfc M (k : Int)) _ rfl rfl (infPf _ _) 46 _ HP3.out (Nat.le_refl 2) (pfc_one _ _) ?_; intro w5 hb4 hk4 hz4; simp only [Act.put])
          | fail)
        have h2 := PF.of_st hb4
        refine bodyPost_ret (res_cell1 Tryd.results23 rfl rfl h2.all Tryd.underlying46 rfl (infPf _ _)) rfl ⟨rfl, ?_⟩
        exact HK3.out.fresh hk4 (fun i hi => by cases hi; exact Nat.le_refl _)
set_option maxRecDepth 100000 in
set_option maxHeartbeats 4000000 in
theorem ihas_yes (a b : Nat) (ha : a < 4294967296) (hb : b < 4294967296) (bits : Int) (h : -9223372036854775808 ≤ bits ∧ bits ≤ 9223372036854775807) (w : World) : Calls Tryd.prog 29 #[.agg #[.int .u32 (a : Int), .int .i64 bits], .int .u32 (b : Int)] w fun e w' => e = .returned (.bool (decide (maskM a (clipM bits) = maskM b (clipM bits)))) ∧ Kept Nil w w' := by
  have hP := Blo.new w 46 (pfc a bits).toArray
  have hk := (Kept.refl Nil w).alloc (.cells (pfc a bits).toArray 46)
  have hcl := clip_le bits
  have ca : ∀ u, Calls Tryd.prog _ _ u _ := fun u => imask_yes a ha (clipM bits) hcl u
  have cb : ∀ u, Calls Tryd.prog _ _ u _ := fun u => imask_yes b hb (clipM bits) hcl u
  have cc : ∀ u, Calls Tryd.prog 59 #[.agg (pfc a bits).toArray] u _ := fun u => icount_yes a bits h u
  generalize maskM a (clipM bits) = x at *
  generalize maskM b (clipM bits) = y at *
  generalize clipM bits = K at *
  have he : ((y : Int) == (x : Int)) = decide (x = y) := by rw [Bool.eq_iff_iff]; simp; omega
  have CA := Lib.hid ca
  have CB := Lib.hid cb
  have CC := Lib.hid cc
  clear ca cb cc hcl
  go_enter Tryd.func29, Tryd.ntmps29
  go_upto_region 1 with (fail)
  refine wp_nameE (fun W => PF W w.heap.size a bits ∧ Kept Nil w W) ⟨hP, hk⟩ ?_
  clear hP hk
  rintro W ⟨hP, hk⟩
  have HP := Lib.hid hP
  have HK := Lib.hid hk
  have c0 := fun d os => (Blo.gcell hP 0 d os)
  have c1 := fun d os => (Blo.gcell hP 1 d os)
  simp [pfc] at c0 c1
  clear hP hk
  refine wp_region_quiet_below (by kernel_rfl) (by kernel_rfl) ?_
  repeat (first
    | (refine wpQuiet_ld rfl _ _ rfl w.heap.size 0 rfl (pfc a bits) (fun w' hw => row_grown HP.out.all hw) _ Tryd.underlying46 rfl (infPf _ _) ?_; simp only [Act.put, List.setIfInBounds_toArray, List.set_cons_succ, List.set_cons_zero])
    | (go_big_quiet_step (first | with_reducible exact quietK (CC.out _) | with_reducible exact quietS (CA.out _) | with_reducible exact quietS (CB.out _))))
  refine wpQuiet_nil ?_
  rintro w2 ⟨nq, hw⟩
  have hk2 : Kept Nil W w2 := by rw [hw]; exact kept_grown _ _
  have HK2 := Lib.hid (HK.out.then hk2)
  clear hk2 hw
  go_wp2
  go_ret
  exact ⟨by first | rfl | (rw [he]; rfl), HK2.out⟩
set_option maxRecDepth 100000 in
set_option maxHeartbeats 4000000 in
theorem iptext_yes (ip : Nat) (hip : ip < 4294967296) (bits : Int) (hb : -9223372036854775808 ≤ bits ∧ bits ≤ 9223372036854775807) (w : World) (hG : Gl w) : Calls Tryd.prog 27 #[.agg #[.int .u32 (ip : Int), .int .i64 bits]] w fun e w' => e = .returned (.string ⟨(ptextM ip bits).toArray⟩) ∧ Kept Nil w w' := by
  have hP := Blo.new w 46 (pfc ip bits).toArray
  have hk := (Kept.refl Nil w).alloc (.cells (pfc ip bits).toArray 46)
  have hcl := clip_le bits
  have hml : maskM ip (clipM bits) < 4294967296 := Nat.lt_of_le_of_lt (mask_le _ _) hip
  have ca : ∀ u, Calls Tryd.prog _ _ u _ := fun u => imask_yes ip hip (clipM bits) hcl u
  have cc : ∀ u, Calls Tryd.prog 59 #[.agg (pfc ip bits).toArray] u _ := fun u => icount_yes ip bits hb u
  have ct : ∀ u, Gl u → Calls Tryd.prog _ _ u _ := fun u h => itext_yes (maskM ip (clipM bits)) hml u h
  have cd : ∀ u, Gl u → Calls Tryd.prog _ _ u _ := fun u h => itoa_yes (clipM bits) (by omega) u h
  have hpt : ptextM ip bits = if clipM bits = 32 then textM (maskM ip (clipM bits)) else textM (maskM ip (clipM bits)) ++ slash :: digM (clipM bits) := by
    unfold ptextM
    by_cases h : clipM bits = 32
    · rw [if_pos h, if_pos h, h, mask_32]
    · rw [if_neg h, if_neg h]
  have htl := text_len (maskM ip (clipM bits))
  have hdl := dig_len (clipM bits)
  generalize textM (maskM ip (clipM bits)) = T at *
  generalize maskM ip (clipM bits) = x at *
  generalize digM (clipM bits) = D at *
  generalize clipM bits = K at *
  have sT : (⟨T.toArray⟩ : ByteArray).size ≤ 15 := htl
  have sD : (⟨D.toArray⟩ : ByteArray).size ≤ 3 := hdl
  have sd : (⟨#[47]⟩ : ByteArray).size = 1 := rfl
  have q0 : ((⟨T.toArray⟩ : ByteArray) ++ (⟨#[47]⟩ : ByteArray)).size ≤ 16 := by rw [ByteArray.size_append]; omega
  have HF := Lib.hid (show ((⟨T.toArray⟩ : ByteArray) ++ ⟨#[47]⟩) ++ ⟨D.toArray⟩ = (⟨(T ++ slash :: D).toArray⟩ : ByteArray) by
    have hd : (⟨#[47]⟩ : ByteArray) = ⟨[slash].toArray⟩ := rfl
    rw [hd, str_app, str_app]
    simp)
  have CA := Lib.hid ca
  have CC := Lib.hid cc
  have CT := Lib.hid ct
  have CD := Lib.hid cd
  have HG := Lib.hid hG
  have HPT := Lib.hid hpt
  clear ca cc ct cd hml htl hdl hG hpt
  go_enter Tryd.func27, Tryd.ntmps27
  go_upto_region 1 with (fail)
  refine wp_nameE (fun W => PF W w.heap.size ip bits ∧ Kept Nil w W) ⟨hP, hk⟩ ?_
  clear hP hk
  rintro W ⟨hP, hk⟩
  have HP := Lib.hid hP
  have HK := Lib.hid hk
  have c0 := fun d os => (Blo.gcell hP 0 d os)
  have c1 := fun d os => (Blo.gcell hP 1 d os)
  simp [pfc] at c0 c1
  clear hP hk
  refine wp_region_quiet_below (by kernel_rfl) (by kernel_rfl) ?_
  repeat (first
    | (refine wpQuiet_ld rfl _ _ rfl w.heap.size 0 rfl (pfc ip bits) (fun w' hw => row_grown HP.out.all hw) _ Tryd.underlying46 rfl (infPf _ _) ?_; simp only [Act.put, List.setIfInBounds_toArray, List.set_cons_succ, List.set_cons_zero])
    | (go_big_quiet_step (first | with_reducible exact quietK (CC.out _) | with_reducible exact quietS (CA.out _) | with_reducible exact quietK (CT.out _ ((HG.out.kept HK.out).kept (kept_grown' _ _ _))))))
  refine wpQuiet_nil ?_
  rintro w2 ⟨nq, hw⟩
  have hk2 : Kept Nil W w2 := by rw [hw]; exact kept_grown _ _
  have HK2 := Lib.hid (HK.out.then hk2)
  have HP2 := Lib.hid (HP.out.kept hk2 (fun hf => hf))
  clear hk2 hw c0 c1
  go_wp2_with (first
    | (refine wpList_ld rfl _ _ rfl w.heap.size 0 rfl (pfc ip bits) HP2.out.all _ Tryd.underlying46 rfl (infPf _ _) ?_; simp only [Act.put, List.setIfInBounds_toArray, List.set_cons_succ, List.set_cons_zero])
    | fail)
  refine (CC.out _).mono ?_
  rintro e w3 ⟨rfl, hk3⟩
  have HP3 := Lib.hid (HP2.out.kept hk3 (fun hf => hf))
  have HK3 := Lib.hid (HK2.out.then hk3)
  clear hk3
  by_cases h32 : K = 32
  · subst h32
    have HR := HPT.out
    rw [if_pos rfl] at HR
    have HR := Lib.hid HR
    go_wp2
    go_ret
    exact ⟨by rw [HR.out]; rfl, HK3.out⟩
  · have HR := HPT.out
    rw [if_neg h32] at HR
    have HR := Lib.hid HR
    have h32' : ((K : Int) == 32) = false := by rw [beq_eq_false_iff_ne]; omega
    clear h32
    go_wp2_with (first
      | (refine wpList_ld rfl _ _ rfl w.heap.size 0 rfl (pfc ip bits) HP3.out.all _ Tryd.underlying46 rfl (infPf _ _) ?_; simp only [Act.put, List.setIfInBounds_toArray, List.set_cons_succ, List.set_cons_zero])
      | fail)
    refine (CC.out _).mono ?_
    rintro e w4 ⟨rfl, hk4⟩
    have HK4 := Lib.hid (HK3.out.then hk4)
    clear hk4
    go_wp2_with (fail)
    refine (CD.out _ (HG.out.kept HK4.out)).mono ?_
    rintro e w5 ⟨rfl, hk5⟩
    have HK5 := Lib.hid (HK4.out.then hk5)
    clear hk5
    go_wp2
    go_ret
    exact ⟨by rw [HR.out, ← HF.out]; rfl, HK5.out⟩
end Go.Proofs.YtflhbidmjlfjkaaDoor
