/- tolllaw06.InetPrefixes: the walk. -/
import Derived.Test.YtflhbidmjlfjkaaDoorInZ
import Derived.Test.YtflhbidmjlfjkaaDoorInP
import Derived.Test.YtflhbidmjlfjkaaDoorEthT
import Derived.Laws.BitsAllLaws
import Derived.Lib.QuietBelow
namespace Go.Proofs.YtflhbidmjlfjkaaDoor
open Go.RowKit Go.Sort
set_option linter.unusedVariables false

theorem mask_lt (ip bits : Nat) (h : ip < 4294967296) : maskM ip bits < 4294967296 := Nat.lt_of_le_of_lt (mask_le ip bits) h
theorem ptext_mask (a k : Nat) (hk : k ≤ 32) : ptextM (maskM a k) (k : Int) = ptextM a (k : Int) := by
  unfold ptextM
  rw [clip_nat k hk]
  split
  · rename_i h; subst h; rw [mask_32]
  · rw [mask_mask]
theorem pparse_of_text (a k : Nat) (ha : a < 4294967296) (hk : k ≤ 32) : pparseM (ptextM a (k : Int)) = (maskM a k, k, 0) := by
  rw [pparse_text a ha, clip_nat k hk]
theorem parse_text (a : Nat) (ha : a < 4294967296) : parseM (textM a) = (a, 0) := by unfold parseM; rw [four_text a ha]
theorem parse_is (s : List UInt8) : (∃ n, parseM s = (n, 0) ∧ textM n = s ∧ n < 4294967296) ∨ parseM s = (0, 5) := by
  unfold parseM
  cases h : fourT s with
  | none => exact .inr rfl
  | some n => exact .inl ⟨n, rfl, text_four h⟩
theorem pdig_len (v : Nat) (h : v < 256) : (digM v).length ≤ 3 := by
  have := (num_dig ⟨v, h⟩).1
  exact (num_dig_all this).2
theorem ptxt_len (a : Nat) (ha : a < 4294967296) : (textM a).length ≤ 15 := by
  have h1 := pdig_len (a / 16777216) (by omega)
  have h2 := pdig_len (a / 65536 % 256) (by omega)
  have h3 := pdig_len (a / 256 % 256) (by omega)
  have h4 := pdig_len (a % 256) (by omega)
  unfold textM
  simp only [List.length_append, List.length_cons]
  omega
theorem ptext_len (a : Nat) (ha : a < 4294967296) (b : Int) : (ptextM a b).length ≤ 19 := by
  have hc := clip_le b
  have h1 := ptxt_len a ha
  have h2 := ptxt_len (maskM a (clipM b)) (mask_lt a _ ha)
  have h3 := pdig_len (clipM b) (by omega)
  unfold ptextM
  split
  · omega
  · simp only [List.length_append, List.length_cons]; omega
theorem str_size (l : List UInt8) (k : Nat) (h : l.length ≤ k) (hk : k ≤ 1000000) : (⟨l.toArray⟩ : ByteArray).size ≤ 1000000 := by
  show l.toArray.size ≤ _
  rw [List.size_toArray]
  omega
theorem str_of (t : ByteArray) (l : List UInt8) (h : l = t.data.toList) : (⟨l.toArray⟩ : ByteArray) = t := by subst h; rfl
theorem pfeq (a : Nat) (b : Int) (w : World) : (Op.equalIn 10000 46 (.agg (pfc a b).toArray) (.agg (pfc a b).toArray)).run Tryd.prog w = .ok true w := by
  rw [show (Value.agg (pfc a b).toArray) = .agg #[.int .u32 (a : Int), .int .i64 b] from rfl, run_equalIn_struct w 9999 46 _ _ (by kernel_rfl) (by kernel_rfl)]
  have p1 : ∀ w, (part 24 #[.int .u32 (a : Int), .int .i64 b] 0).run Tryd.prog w = .ok (.int .u32 (a : Int)) w := fun _ => by kernel_rfl
  have p2 : ∀ w, (part 3 #[.int .u32 (a : Int), .int .i64 b] 1).run Tryd.prog w = .ok (.int .i64 b) w := fun _ => by kernel_rfl
  have h1 := run_equalIn_int (P := Tryd.prog) w 9998 24 .u32 .u32 (a : Int) (a : Int) Tryd.underlying24
  have h2 := run_equalIn_int (P := Tryd.prog) w 9998 3 .i64 .i64 b b Tryd.underlying3
  rw [beq_self_eq_true] at h1 h2
  simp only [Program.fieldsOf, Tryd.underlying46]
  simp [Op.eqFields, p1, p2, h1, h2]
set_option maxRecDepth 100000 in
set_option maxHeartbeats 8000000 in
theorem prefixes_yes (a b : Nat) (ha : a < 4294967296) (hb : b < 4294967296) (bits : Nat) (hbits : bits < 256) (s : ByteArray) (hs63 : s.size ≤ 9223372036854775807) (w : World) (hG : Gl w) :
    Calls Tryd.prog 8 #[.int .u32 (a : Int), .int .u32 (b : Int), .int .u8 (bits : Int), .string s] w fun e w' => e = .returned (.bool true) ∧ Below w.heap.size w w' := by
  have hs0 : (0 : Int) ≤ (s.size : Int) := by omega
  have hs1 : (s.size : Int) ≤ 9223372036854775807 := by omega
  obtain ⟨k, hk⟩ : ∃ k, bits % 33 = k := ⟨_, rfl⟩
  have hk32 : k ≤ 32 := by omega
  have hkI : (bits : Int) % 33 = (k : Int) := by omega
  have hk64 : -9223372036854775808 ≤ (k : Int) ∧ (k : Int) ≤ 9223372036854775807 := by omega
  have hm := mask_lt a k ha
  have hcl := clip_nat k hk32
  have C1 := Lib.hid (fun w h => iptext_yes a ha k hk64 w h)
  have C2 := Lib.hid (fun w h => ippar_yes ⟨(ptextM a (k : Int)).toArray⟩ (str_size _ 19 (ptext_len a ha _) (by decide)) w h)
  have C3 := Lib.hid (fun w h => itext_yes a ha w h)
  have C4 := Lib.hid (fun w h => iparse_yes ⟨(textM a).toArray⟩ (str_size _ 15 (ptxt_len a ha) (by decide)) w h)
  have C5 := Lib.hid (fun w => ihas_yes (maskM a k) a hm ha k hk64 w)
  have C6 := Lib.hid (fun w => ihas_yes a (maskM a k) ha hm k hk64 w)
  have C7 := Lib.hid (fun w h => iptext_yes (maskM a k) hm k hk64 w h)
  rw [show (⟨(ptextM a (k : Int)).toArray⟩ : ByteArray).data.toList = ptextM a (k : Int) from rfl, pparse_of_text a k ha hk32] at C2
  rw [show (⟨(textM a).toArray⟩ : ByteArray).data.toList = textM a from rfl, parse_text a ha] at C4
  rw [hcl, mask_mask, decide_eq_true rfl] at C5 C6
  rw [ptext_mask a k hk32] at C7
  obtain ⟨m, hmm⟩ : ∃ m, maskM a k = m := ⟨_, rfl⟩
  obtain ⟨X, hX⟩ : ∃ x : ByteArray, ⟨(textM a).toArray⟩ = x := ⟨_, rfl⟩
  obtain ⟨Y, hY⟩ : ∃ x : ByteArray, ⟨(ptextM a (k : Int)).toArray⟩ = x := ⟨_, rfl⟩
  rw [hmm] at C2 C5 C6 C7 hm
  rw [hX] at C3 C4
  rw [hY] at C1 C2 C7
  clear hX hY
  have HMM := Lib.hid hmm
  clear hmm
  have D1 := Lib.hid (show ∀ w, Gl w → Calls Tryd.prog 27 #[.agg (pfc a (k : Int)).toArray] w fun e w' => e = .returned (.string Y) ∧ Kept Nil w w' from C1.out)
  have D5 := Lib.hid (show ∀ w, Calls Tryd.prog 29 #[.agg (pfc m (k : Int)).toArray, .int .u32 (a : Int)] w fun e w' => e = .returned (.bool true) ∧ Kept Nil w w' from C5.out)
  have D6 := Lib.hid (show ∀ w, Calls Tryd.prog 29 #[.agg (pfc a (k : Int)).toArray, .int .u32 (m : Int)] w fun e w' => e = .returned (.bool true) ∧ Kept Nil w w' from C6.out)
  have D7 := Lib.hid (show ∀ w, Gl w → Calls Tryd.prog 27 #[.agg (pfc m (k : Int)).toArray] w fun e w' => e = .returned (.string Y) ∧ Kept Nil w w' from C7.out)
  clear C5 C6 C7
  have HGG := Lib.hid hG
  go_enter Tryd.func8, Tryd.ntmps8
  go_upto_region 3 with (fail)
  refine wp_nameE (fun W => PF W w.heap.size a (k : Int) ∧ Kept Nil w W) ⟨Blo.new w 46 (pfc a (k : Int)).toArray, (Kept.refl Nil w).alloc _⟩ ?_
  rintro w1 ⟨hp1, hk1⟩
  have HP1 := Lib.hid hp1
  have HK1 := Lib.hid hk1
  clear hp1 hk1
  go_wp2_with (first
    | (refine wpList_ld rfl _ _ rfl w.heap.size 0 rfl (pfc a (k : Int)) HP1.out.all _ Tryd.underlying46 rfl (infPf _ _) ?_; simp only [Act.put, List.setIfInBounds_toArray, List.set_cons_succ, List.set_cons_zero])
    | fail)
  refine (C1.out _ (HGG.out.kept HK1.out)).mono ?_
  rintro e w2 ⟨rfl, hk2⟩
  dsimp only
  have HP2 := Lib.hid (HP1.out.kept hk2 (fun hf => hf))
  have HK2 := Lib.hid (HK1.out.then hk2)
  clear hk2 HP1 HK1
  go_wp2_with (fail)
  refine (C2.out _ (HGG.out.kept HK2.out)).mono ?_
  rintro e w3 ⟨rfl, hk3⟩
  dsimp only
  have HP3 := Lib.hid (HP2.out.kept hk3 (fun hf => hf))
  have HK3 := Lib.hid (HK2.out.then hk3)
  clear hk3 HP2 HK2
  go_upto_region 4 with (fail)
  refine wp_nameE (fun W => PF W w3.heap.size m (k : Int) ∧ Kept Nil w3 W) ⟨Blo.new w3 46 (pfc m (k : Int)).toArray, (Kept.refl Nil w3).alloc _⟩ ?_
  rintro w4 ⟨hq4, hk4⟩
  have HQ4 := Lib.hid hq4
  have HP4 := Lib.hid (HP3.out.kept hk4 (fun hf => hf))
  have HK4 := Lib.hid (HK3.out.then hk4)
  clear hq4 hk4 HP3 HK3
  go_wp2_with (fail)
  refine (C3.out _ (HGG.out.kept HK4.out)).mono ?_
  rintro e w5 ⟨rfl, hk5⟩
  dsimp only
  have HQ5 := Lib.hid (HQ4.out.kept hk5 (fun hf => hf))
  have HP5 := Lib.hid (HP4.out.kept hk5 (fun hf => hf))
  have HK5 := Lib.hid (HK4.out.then hk5)
  clear hk5 HP4 HK4 HQ4
  go_wp2_with (fail)
  refine (C4.out _ (HGG.out.kept HK5.out)).mono ?_
  rintro e w6 ⟨rfl, hk6⟩
  dsimp only
  have HQ6 := Lib.hid (HQ5.out.kept hk6 (fun hf => hf))
  have HP6 := Lib.hid (HP5.out.kept hk6 (fun hf => hf))
  have HK6 := Lib.hid (HK5.out.then hk6)
  clear hk6 HP5 HK5 HQ5
  go_wp2_with (fail)
  have q0 := fun d os => cell_regrown HQ6.out.c0 d os
  have q1 := fun d os => cell_regrown HQ6.out.c1 d os
  refine wp_region_quiet_below (by kernel_rfl) (by kernel_rfl) ?_
  repeat (first
    | (refine wpQuiet_ld rfl _ _ rfl w.heap.size 0 rfl (pfc a (k : Int)) (fun w1 hw => row_grown HP6.out.all hw) _ Tryd.underlying46 rfl (infPf _ _) ?_; simp only [Act.put, List.setIfInBounds_toArray, List.set_cons_succ, List.set_cons_zero])
    | (refine wpQuiet_ld rfl _ _ rfl w3.heap.size 0 rfl (pfc m (k : Int)) (fun w1 hw => row_grown HQ6.out.all hw) _ Tryd.underlying46 rfl (infPf _ _) ?_; simp only [Act.put, List.setIfInBounds_toArray, List.set_cons_succ, List.set_cons_zero])
    | (go_big_quiet_step (first | with_reducible exact quietK (D5.out _) | with_reducible exact quietK (D6.out _) | with_reducible exact quietK (D7.out _ (HGG.out.kept (HK6.out.then (kept_grown' _ _ _)))) | with_reducible exact quietK (D1.out _ (HGG.out.kept (HK6.out.then (kept_grown' _ _ _)))))))
  intro w7 hw7
  have hk7 : Kept Nil w6 w7 := by obtain ⟨p, rfl⟩ := hw7; exact kept_grown w6 p
  have HP7 := Lib.hid (HP6.out.kept hk7 (fun hf => hf))
  have HK7 := Lib.hid (HK6.out.then hk7)
  clear hw7 hk7 q0 q1 HP6 HK6 HQ6 D5 D6 D7 C2 C3 C4
  go_upto_region 7 with (fail)
  obtain ⟨Z, hZ⟩ : ∃ x, decide (maskM a k = maskM b k) = x := ⟨_, rfl⟩
  have hxor := u32_xor_nat a b ha hb
  obtain ⟨x, hx⟩ : ∃ x, a ^^^ b = x := ⟨_, rfl⟩
  have hx32 : x < 4294967296 := by rw [← hx]; exact Nat.xor_lt_two_pow (n := 32) ha hb
  obtain ⟨sh, hsh⟩ : ∃ n : Nat, 32 - k = n := ⟨_, rfl⟩
  have hshI : 32 - (k : Int) = (sh : Int) := by omega
  have hZx : Z = decide (x / 2 ^ sh = 0) := by
    rw [← hZ, ← hx, ← hsh]
    exact decide_eq_decide.2 ((mask_eq a b k).trans (xor_div a b (32 - k)).symm)
  have hab : x = 0 ↔ a = b := by rw [← hx]; exact xor_zero a b
  rw [hx] at hxor
  obtain ⟨y, hy⟩ : ∃ y, x / 2 ^ sh = y := ⟨_, rfl⟩
  rw [hy] at hZx
  have hyI : (x : Int) / 2 ^ sh = (y : Int) := by rw [← hy]; simp
  have hy0 : k = 0 → y = 0 := fun h0 => by rw [← hy, ← hsh, h0]; exact Nat.div_eq_of_lt (by omega)
  have hy32 : k = 32 → y = x := fun h0 => by rw [← hy, ← hsh, h0]; simp
  have HZ := Lib.hid hZ
  clear hZ hx hy hsh
  go_cut [15] from 78 to 101 (fun s wx => s = .bool Z ∧ w7 = wx)
  case first =>
    by_cases h32 : k < 32
    · have h32' : (k : Int) < 32 := by omega
      by_cases h0 : y = 0
      · have hb0 : ((y : Int) == 0) = true := by simp [h0]
        rw [decide_eq_true h0] at hZx
        subst hZx
        clear h0 hab hy0 hy32
        go_wp2_with (fail)
        go_meet
        exact ⟨rfl, rfl⟩
      · have hb0 : ((y : Int) == 0) = false := by simp [h0]
        have hk0 : ((k : Int) == 0) = false := by
          have : k ≠ 0 := fun h => h0 (hy0 h)
          simp [this]
        rw [decide_eq_false h0] at hZx
        subst hZx
        clear h0 hab hy0 hy32
        go_wp2_with (fail)
        go_meet
        exact ⟨rfl, rfl⟩
    · have h32' : ¬ (k : Int) < 32 := by omega
      have e32 : ((k : Int) == 32) = true := by simp; omega
      have hk0 : ((k : Int) == 0) = false := by simp; omega
      rw [hy32 (by omega)] at hZx
      by_cases h0 : a = b
      · have hb0 : ((a : Int) == (b : Int)) = true := by simp [h0]
        rw [decide_eq_true (hab.2 h0)] at hZx
        subst hZx
        clear h0 hab hy0 hy32
        go_wp2_with (fail)
        go_meet
        exact ⟨rfl, rfl⟩
      · have hb0 : ((a : Int) == (b : Int)) = false := by simp; omega
        rw [decide_eq_false (fun h => h0 (hab.1 h))] at hZx
        subst hZx
        clear h0 hab hy0 hy32
        go_wp2_with (fail)
        go_meet
        exact ⟨rfl, rfl⟩
  case rest =>
    obtain ⟨rfl, rfl⟩ := hcut
    clear hxor hx32 hZx hab hyI hy0 hy32 hshI
    obtain ⟨k1, hk1⟩ : ∃ n : Nat, k + 1 = n := ⟨_, rfl⟩
    have hk1I : (k : Int) + 1 = (k1 : Int) := by omega
    have hk164 : -9223372036854775808 ≤ (k1 : Int) ∧ (k1 : Int) ≤ 9223372036854775807 := by omega
    obtain ⟨U, hU⟩ : ∃ x, decide (maskM a (clipM (k1 : Int)) = maskM b (clipM (k1 : Int))) = x := ⟨_, rfl⟩
    have E1 := Lib.hid (fun w => ihas_yes a b ha hb k hk64 w)
    have E2 := Lib.hid (fun w => ihas_yes a b ha hb k1 hk164 w)
    rw [hcl, HZ.out] at E1
    rw [hU] at E2
    have hUZ : U = true → Z = true := by
      rw [← hU, ← HZ.out, decide_eq_true_eq, decide_eq_true_eq]
      intro h
      by_cases hkk : k = 32
      · have e : clipM (k1 : Int) = 32 := by unfold clipM; rw [if_neg (by omega), if_pos (by omega)]
        rw [e] at h
        rw [hkk]
        exact h
      · rw [clip_nat k1 (by omega), ← hk1] at h
        exact mask_less a b k h
    clear hU
    go_upto_region 9 with (fail)
    refine wp_nameE (fun W => PF W w7.heap.size a (k1 : Int) ∧ Kept Nil w7 W) ⟨Blo.new w7 46 (pfc a (k1 : Int)).toArray, (Kept.refl Nil w7).alloc _⟩ ?_
    rintro w8 ⟨hq8, hk8⟩
    have HQ8 := Lib.hid hq8
    have HP8 := Lib.hid (HP7.out.kept hk8 (fun hf => hf))
    have HK8 := Lib.hid (HK7.out.then hk8)
    clear hq8 hk8 HP7 HK7 hk1I
    go_cut [121] from 106 to 120 (fun s wx => s = .bool false ∧ Kept Nil w8 wx)
    case first =>
      go_wp2_with (first
        | (refine wpList_ld rfl _ _ rfl w.heap.size 0 rfl (pfc a (k : Int)) HP8.out.all _ Tryd.underlying46 rfl (infPf _ _) ?_; simp only [Act.put, List.setIfInBounds_toArray, List.set_cons_succ, List.set_cons_zero])
        | fail)
      refine (E1.out _).mono ?_
      rintro e u1 ⟨rfl, hk1⟩
      dsimp only
      have HQ9 := Lib.hid (HQ8.out.kept hk1 (fun hf => hf))
      have HP9 := Lib.hid (HP8.out.kept hk1 (fun hf => hf))
      have HK9 := Lib.hid hk1
      clear hk1
      have hzz : (Z != Z) = false := by simp
      go_wp2_with (first
        | (refine wpList_ld rfl _ _ rfl w7.heap.size 0 rfl (pfc a (k1 : Int)) HQ9.out.all _ Tryd.underlying46 rfl (infPf _ _) ?_; simp only [Act.put, List.setIfInBounds_toArray, List.set_cons_succ, List.set_cons_zero])
        | fail)
      refine (E2.out _).mono ?_
      rintro e u2 ⟨rfl, hk2⟩
      dsimp only
      have HP10 := Lib.hid (HP9.out.kept hk2 (fun hf => hf))
      have HK10 := Lib.hid (HK9.out.then hk2)
      clear hk2 HQ9 HP9 HK9
      cases U with
      | false =>
        go_wp2_with (fail)
        go_meet
        exact ⟨rfl, HK10.out⟩
      | true =>
        obtain rfl := hUZ rfl
        go_wp2_with (first
          | (refine wpList_ld rfl _ _ rfl w.heap.size 0 rfl (pfc a (k : Int)) HP10.out.all _ Tryd.underlying46 rfl (infPf _ _) ?_; simp only [Act.put, List.setIfInBounds_toArray, List.set_cons_succ, List.set_cons_zero])
          | fail)
        refine (E1.out _).mono ?_
        rintro e u3 ⟨rfl, hk3⟩
        dsimp only
        have HK11 := Lib.hid (HK10.out.then hk3)
        clear hk3
        go_wp2_with (fail)
        go_meet
        exact ⟨rfl, HK11.out⟩
    case rest =>
      obtain ⟨rfl, hkc⟩ := hcut
      have HKA := Lib.hid (HK8.out.then hkc)
      clear hkc HQ8 HP8 HK8 E1 E2 hUZ HZ D1 C1 HMM
      obtain ⟨t, ht⟩ : ∃ t, s.extract 0 (min (s.size : Int) 30).toNat = t := ⟨_, rfl⟩
      have ht30 : t.size ≤ 30 := by rw [← ht, ByteArray.size_extract]; omega
      obtain ⟨r1, hr1⟩ : ∃ x, (pparseM t.data.toList).1 = x := ⟨_, rfl⟩
      obtain ⟨r2, hr2⟩ : ∃ x, (pparseM t.data.toList).2.1 = x := ⟨_, rfl⟩
      obtain ⟨e3, hr3⟩ : ∃ x, (pparseM t.data.toList).2.2 = x := ⟨_, rfl⟩
      obtain ⟨hr32, hr33, hrm, hrz⟩ := pparse_ok t.data.toList
      have F1 := Lib.hid (fun w h => iparse_yes t (by omega) w h)
      have F2 := Lib.hid (fun w h => ippar_yes t (by omega) w h)
      rw [hr1, hr2, hr3] at F2
      rw [hr1] at hr32
      rw [hr2] at hr33
      rw [hr1, hr2] at hrm
      rw [hr1, hr2, hr3] at hrz
      have hr64 : -9223372036854775808 ≤ (r2 : Int) ∧ (r2 : Int) ≤ 9223372036854775807 := by omega
      have F3 := Lib.hid (fun w h => iptext_yes r1 hr32 r2 hr64 w h)
      have F4 := Lib.hid (fun w h => ippar_yes ⟨(ptextM r1 (r2 : Int)).toArray⟩ (str_size _ 19 (ptext_len r1 hr32 _) (by decide)) w h)
      rw [show (⟨(ptextM r1 (r2 : Int)).toArray⟩ : ByteArray).data.toList = ptextM r1 (r2 : Int) from rfl, pparse_of_text r1 r2 hr32 hr33, hrm] at F4
      obtain ⟨V, hV⟩ : ∃ x : ByteArray, ⟨(ptextM r1 (r2 : Int)).toArray⟩ = x := ⟨_, rfl⟩
      rw [hV] at F3 F4
      have HPA := Lib.hid (parse_is t.data.toList)
      have HRZ := Lib.hid hrz
      have HT := Lib.hid ht
      have HT2 := Lib.hid (show s.extract 0 (if (30 : Int) < (s.size : Int) then (30 : Int) else (s.size : Int)).toNat = t by rw [← ht]; congr 2; split <;> omega)
      clear hr1 hr2 hr3 hrm hrz hV ht
      go_upto_region 12 with (fail)
      first | rw [HT.out] | rw [HT2.out]
      generalize (if (30 : Int) < (s.size : Int) then (30 : Int) else (s.size : Int)) = zz
      go_wp2_with (fail)
      refine (F1.out _ (HGG.out.kept HKA.out)).mono ?_
      rintro e w9 ⟨rfl, hk9⟩
      have HKB := Lib.hid (HKA.out.then hk9)
      clear hk9 HKA
      obtain ⟨p1, hp1⟩ : ∃ x, (parseM t.data.toList).1 = x := ⟨_, rfl⟩
      obtain ⟨p2, hp2⟩ : ∃ x, (parseM t.data.toList).2 = x := ⟨_, rfl⟩
      rw [hp1, hp2]
      have HPB := Lib.hid (show (p2 = 0 ∧ p1 < 4294967296 ∧ textM p1 = t.data.toList) ∨ (p2 = 5 ∧ p1 = 0) by
        rcases HPA.out with ⟨n, h1, h2, h3⟩ | h1
        · rw [h1] at hp1 hp2
          subst hp1 hp2
          exact .inl ⟨rfl, h3, h2⟩
        · rw [h1] at hp1 hp2
          subst hp1 hp2
          exact .inr ⟨rfl, rfl⟩)
      clear hp1 hp2 HPA F1
      dsimp only
      go_wp2_with (fail)
      refine (F2.out _ (HGG.out.kept HKB.out)).mono ?_
      rintro e u1 ⟨rfl, hk1⟩
      dsimp only
      have HKC := Lib.hid (HKB.out.then hk1)
      clear hk1 HKB F2
      go_upto_region 14 with (fail)
      refine wp_nameE (fun W => PF W u1.heap.size r1 (r2 : Int) ∧ Kept Nil u1 W) ⟨Blo.new u1 46 (pfc r1 (r2 : Int)).toArray, (Kept.refl Nil u1).alloc _⟩ ?_
      rintro u2 ⟨hq2, hk2⟩
      have HR2 := Lib.hid hq2
      have HKD := Lib.hid (HKC.out.then hk2)
      clear hq2 hk2 HKC
      go_cut [161] from 137 to 160 (fun s wx => s = .bool false ∧ Kept Nil u2 wx)
      case first =>
        have hpz := pfeq 0 0
        by_cases h0 : e3 = 0
        · subst h0
          rcases HPB.out with ⟨rfl, h1, h2⟩ | ⟨rfl, rfl⟩
          · have hx := itext_yes p1 h1
            rw [str_of t _ h2] at hx
            have HX := Lib.hid hx
            clear h1 h2 hx
            go_wp2_with (fail)
            refine (HX.out _ (HGG.out.kept HKD.out)).mono ?_
            rintro e u3 ⟨rfl, hk3⟩
            dsimp only
            have HK3 := Lib.hid hk3
            clear hk3
            go_wp2_with (fail)
            go_meet
            exact ⟨rfl, HK3.out⟩
          · go_wp2_with (fail)
            go_meet
            exact ⟨rfl, Kept.refl _ _⟩
        · obtain ⟨rfl, rfl⟩ := HRZ.out h0
          have h0' : (e3 != 0) = true := by simp [h0]
          clear h0
          rcases HPB.out with ⟨rfl, h1, h2⟩ | ⟨rfl, rfl⟩
          · have hx := itext_yes p1 h1
            rw [str_of t _ h2] at hx
            have HX := Lib.hid hx
            clear h1 h2 hx
            go_wp2_with (fail)
            refine (HX.out _ (HGG.out.kept HKD.out)).mono ?_
            rintro e u3 ⟨rfl, hk3⟩
            dsimp only
            have HR3 := Lib.hid (HR2.out.kept hk3 (fun hf => hf))
            have HK3 := Lib.hid hk3
            clear hk3
            go_wp2_with (first
              | (refine wpList_ld rfl _ _ rfl u1.heap.size 0 rfl [.int .u32 (0 : Int), .int .i64 (0 : Int)] HR3.out.all _ Tryd.underlying46 rfl (infPf _ _) ?_; simp only [Act.put, List.setIfInBounds_toArray, List.set_cons_succ, List.set_cons_zero])
              | fail)
            go_meet
            exact ⟨rfl, HK3.out⟩
          · go_wp2_with (first
              | (refine wpList_ld rfl _ _ rfl u1.heap.size 0 rfl [.int .u32 (0 : Int), .int .i64 (0 : Int)] HR2.out.all _ Tryd.underlying46 rfl (infPf _ _) ?_; simp only [Act.put, List.setIfInBounds_toArray, List.set_cons_succ, List.set_cons_zero])
              | fail)
            go_meet
            exact ⟨rfl, Kept.refl _ _⟩
      case rest =>
        obtain ⟨rfl, hkd⟩ := hcut
        have HRA := Lib.hid (HR2.out.kept hkd (fun hf => hf))
        have HKE := Lib.hid (HKD.out.then hkd)
        clear hkd HR2 HKD HPB
        go_wp2_with (first
          | (refine wpList_ld rfl _ _ rfl u1.heap.size 0 rfl (pfc r1 (r2 : Int)) HRA.out.all _ Tryd.underlying46 rfl (infPf _ _) ?_; simp only [Act.put, List.setIfInBounds_toArray, List.set_cons_succ, List.set_cons_zero])
          | fail)
        refine (F3.out _ (HGG.out.kept HKE.out)).mono ?_
        rintro e u4 ⟨rfl, hk4⟩
        dsimp only
        have HRB := Lib.hid (HRA.out.kept hk4 (fun hf => hf))
        have HKF := Lib.hid (HKE.out.then hk4)
        clear hk4 HRA HKE
        go_wp2_with (fail)
        refine (F4.out _ (HGG.out.kept HKF.out)).mono ?_
        rintro e u5 ⟨rfl, hk5⟩
        dsimp only
        have HRC := Lib.hid (HRB.out.kept hk5 (fun hf => hf))
        have HKG := Lib.hid (HKF.out.then hk5)
        clear hk5 HRB HKF
        go_upto_region 17 with (fail)
        refine wp_nameE (fun W => PF W u5.heap.size r1 (r2 : Int) ∧ Kept Nil u5 W) ⟨Blo.new u5 46 (pfc r1 (r2 : Int)).toArray, (Kept.refl Nil u5).alloc _⟩ ?_
        rintro u6 ⟨hq6, hk6⟩
        have HS := Lib.hid hq6
        have HR := Lib.hid (HRC.out.kept hk6 (fun hf => hf))
        have HKH := Lib.hid (HKG.out.then hk6)
        clear hq6 hk6 HRC HKG
        have hpz := pfeq r1 (r2 : Int)
        by_cases h0 : e3 = 0
        · subst h0
          go_wp2_with (first
            | (refine wpList_ld rfl _ _ rfl u5.heap.size 0 rfl [.int .u32 (r1 : Int), .int .i64 (r2 : Int)] HS.out.all _ Tryd.underlying46 rfl (infPf _ _) ?_; simp only [Act.put, List.setIfInBounds_toArray, List.set_cons_succ, List.set_cons_zero])
            | (refine wpList_ld rfl _ _ rfl u1.heap.size 0 rfl [.int .u32 (r1 : Int), .int .i64 (r2 : Int)] HR.out.all _ Tryd.underlying46 rfl (infPf _ _) ?_; simp only [Act.put, List.setIfInBounds_toArray, List.set_cons_succ, List.set_cons_zero])
            | fail)
          refine (tells_yes _ (HGG.out.kept HKH.out)).mono ?_
          rintro e u7 ⟨rfl, hk7⟩
          dsimp only
          have HKI := Lib.hid (HKH.out.then hk7)
          clear hk7
          go_wp2
          go_ret
          exact ⟨rfl, HKI.out.below (Nat.le_refl _) (fun _ hf => hf.elim)⟩
        · have h0' : (e3 != 0) = true := by simp [h0]
          clear h0
          go_wp2_with (fail)
          refine (tells_yes _ (HGG.out.kept HKH.out)).mono ?_
          rintro e u7 ⟨rfl, hk7⟩
          dsimp only
          have HKI := Lib.hid (HKH.out.then hk7)
          clear hk7
          go_wp2
          go_ret
          exact ⟨rfl, HKI.out.below (Nat.le_refl _) (fun _ hf => hf.elim)⟩
theorem prefixes_go (a b bits : Int) (s : ByteArray) (w : World) (ha : (Lit.int .u32 a).wf = true) (hb : (Lit.int .u32 b).wf = true) (hbits : (Lit.int .u8 bits).wf = true) (hs : s.size ≤ 9223372036854775807) (hG : Gl w) :
    Calls Tryd.prog 8 #[.int .u32 a, .int .u32 b, .int .u8 bits, .string s] w fun e w' => e = .returned (.bool true) ∧ Below w.heap.size w w' := by
  have h1 : 0 ≤ a ∧ a ≤ 4294967295 := by simp [Lit.wf, IntKind.min, IntKind.max, IntKind.signed, IntKind.bits] at ha; omega
  have h2 : 0 ≤ b ∧ b ≤ 4294967295 := by simp [Lit.wf, IntKind.min, IntKind.max, IntKind.signed, IntKind.bits] at hb; omega
  have h3 : 0 ≤ bits ∧ bits ≤ 255 := by simp [Lit.wf, IntKind.min, IntKind.max, IntKind.signed, IntKind.bits] at hbits; omega
  obtain ⟨m, rfl⟩ := Int.eq_ofNat_of_zero_le h1.1
  obtain ⟨n, rfl⟩ := Int.eq_ofNat_of_zero_le h2.1
  obtain ⟨k, rfl⟩ := Int.eq_ofNat_of_zero_le h3.1
  exact prefixes_yes m n (by omega) (by omega) k (by omega) s hs w hG
end Go.Proofs.YtflhbidmjlfjkaaDoor
