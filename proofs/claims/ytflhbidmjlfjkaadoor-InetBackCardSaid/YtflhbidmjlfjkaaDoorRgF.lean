/- tollref06: contract of ParsePrefix. -/
import Derived.Test.YtflhbidmjlfjkaaDoorRgD
import Derived.Test.YtflhbidmjlfjkaaDoorRgE
namespace Go.Proofs.YtflhbidmjlfjkaaDoor
open Go.RowKit Go.Sort
set_option linter.unusedVariables false

theorem upTo_at (L : List UInt8) (a : Nat) (h : ∀ x ∈ L.take a, x ≠ slash) (x : UInt8) (hx : L[a]? = some x) (hs : x = slash) : upTo slash L = (L.take a, some (L.drop (a + 1))) := by
  have e : L = L.take a ++ slash :: L.drop (a + 1) := by rw [← hs, ← drop_cons hx, List.take_append_drop]
  conv => lhs; rw [e]
  exact upTo_app _ _ _ h
theorem upTo_end (L : List UInt8) (a : Nat) (h : ∀ x ∈ L.take a, x ≠ slash) (ha : L.length ≤ a) : upTo slash L = (L, none) := by
  rw [List.take_of_length_le ha] at h
  exact upTo_none _ _ h
theorem take_ne (L : List UInt8) (a : Nat) (x : UInt8) (hx : L[a]? = some x) (hn : x ≠ slash) (h : ∀ y ∈ L.take a, y ≠ slash) : ∀ y ∈ L.take (a + 1), y ≠ slash := by
  intro y hy
  rw [List.take_add_one, hx] at hy
  simp only [Option.toList_some, List.mem_append, List.mem_singleton] at hy
  rcases hy with hy | rfl
  · exact h y hy
  · exact hn
theorem pp_bad (L : List UInt8) (a : Nat) (h : ∀ x ∈ L.take a, x ≠ slash) (hs : L.length ≤ a ∨ L[a]? = some slash) (hp : fourT (L.take a) = none) : pparseM L = (0, 0, 5) := by
  unfold pparseM
  rcases hs with hs | hs
  · rw [upTo_end L a h hs]
    rw [List.take_of_length_le hs] at hp
    simp only [hp]
  · rw [upTo_at L a h _ hs rfl]
    simp only [hp]
theorem pp_all (L : List UInt8) (a m : Nat) (h : ∀ x ∈ L.take a, x ≠ slash) (hs : L.length ≤ a) (hp : fourT (L.take a) = some m) : pparseM L = (m, 32, 0) := by
  unfold pparseM
  rw [upTo_end L a h hs]
  rw [List.take_of_length_le hs] at hp
  simp only [hp]
theorem pp_no (L : List UInt8) (a m : Nat) (h : ∀ x ∈ L.take a, x ≠ slash) (hs : L[a]? = some slash) (hp : fourT (L.take a) = some m) (hb : bitsT (L.drop (a + 1)) = none) : pparseM L = (0, 0, 5) := by
  unfold pparseM
  rw [upTo_at L a h _ hs rfl]
  simp only [hp, hb]
theorem pp_far (L : List UInt8) (a m k : Nat) (h : ∀ x ∈ L.take a, x ≠ slash) (hs : L[a]? = some slash) (hp : fourT (L.take a) = some m) (hb : bitsT (L.drop (a + 1)) = some k) (hk : 32 < k) : pparseM L = (0, 0, 24) := by
  unfold pparseM
  rw [upTo_at L a h _ hs rfl]
  simp only [hp, hb, if_pos hk]
theorem pp_yes (L : List UInt8) (a m k : Nat) (h : ∀ x ∈ L.take a, x ≠ slash) (hs : L[a]? = some slash) (hp : fourT (L.take a) = some m) (hb : bitsT (L.drop (a + 1)) = some k) (hk : ¬ 32 < k) : pparseM L = (maskM m k, k, 0) := by
  unfold pparseM
  rw [upTo_at L a h _ hs rfl]
  simp only [hp, hb, if_neg hk]
theorem four_lt {s : List UInt8} {n : Nat} (h : fourT s = some n) : n < 4294967296 := (text_four h).2
/-- What Parse answers, by cases. -/
theorem four_cases (l : List UInt8) : (fourT l = none ∧ parseM l = (0, 5)) ∨ ∃ m, fourT l = some m ∧ parseM l = (m, 0) ∧ m < 4294967296 := by
  cases h : fourT l with
  | none => exact .inl ⟨rfl, by unfold parseM; rw [h]⟩
  | some m => exact .inr ⟨m, rfl, by unfold parseM; rw [h], four_lt h⟩
theorem bits_no (l : List UInt8) (h : l.length < 1 ∨ 2 < l.length ∨ (l.length = 2 ∧ l[0]? = some 48) ∨ ∃ x ∈ l, isDig x = false) : bitsT l = none := by
  unfold bitsT
  rw [if_neg]
  rintro ⟨h1, h2, h3, h4⟩
  rcases h with h | h | ⟨h, h0⟩ | ⟨x, hx, hd⟩
  · omega
  · omega
  · rcases h4 with h4 | h4
    · omega
    · cases l with
      | nil => cases h0
      | cons y l => simp at h0; exact h4 h0
  · have := List.all_eq_true.1 h3 x hx
    rw [hd] at this
    cases this
theorem bits_yes (l : List UInt8) (h1 : 1 ≤ l.length) (h2 : l.length ≤ 2) (h3 : ∀ x ∈ l, isDig x = true) (h4 : l.length = 1 ∨ ∃ x, l[0]? = some x ∧ x ≠ 48) : bitsT l = some (valD l) := by
  unfold bitsT
  rw [if_pos]
  refine ⟨h1, h2, List.all_eq_true.2 h3, ?_⟩
  rcases h4 with h4 | ⟨x, hx, hn⟩
  · exact .inl h4
  · right
    cases l with
    | nil => cases hx
    | cons y l => simp at hx; subst hx; exact hn
theorem val_two (l : List UInt8) (h : l.length ≤ 2) (hd : ∀ x ∈ l, isDig x = true) : valD l < 1000 := by
  match l, h, hd with
  | [], _, _ => simp [valD]
  | [a], _, hd => simp [isDig] at hd; simp [valD]; omega
  | [a, b], _, hd => simp [isDig] at hd; simp [valD]; omega
theorem pp_len (s : ByteArray) (a : Nat) : (s.extract 0 a).data.toList = s.data.toList.take a := by rw [Lib.extract_data]; simp
theorem pp_rest (s : ByteArray) (a n : Nat) (h : s.size = n) : (s.extract a n).data.toList = s.data.toList.drop a := by
  rw [Lib.extract_data]
  have := Lib.size_eq s
  exact List.take_of_length_le (by rw [List.length_drop]; omega)
set_option maxHeartbeats 4000000 in
set_option maxRecDepth 100000 in
theorem gpparse_yes (s : ByteArray) (hm : s.size ≤ 1099511627776) (w : World) : Calls Tryd.prog 24 #[.string s] w fun e w' => e = .returned (.tuple #[.int .u32 ((pparseM s.data.toList).1 : Int), .int .i64 ((pparseM s.data.toList).2.1 : Int), .int .i64 (pparseM s.data.toList).2.2]) ∧ w = w' := by
  have hsz : s.data.toList.length = s.size := by rw [Lib.size_eq]
  have HIX := Lib.hid (fun (i : Nat) (x : UInt8) (h : s.data.toList[i]? = some x) => idxS s i x h)
  obtain ⟨n, hn⟩ : ∃ n, s.size = n := ⟨_, rfl⟩
  have HPA := Lib.hid (fun (a : Nat) (w : World) => gparse_yes (s.extract 0 a) (by rw [ByteArray.size_extract]; omega) w)
  have HP1 := Lib.hid (fun a => pp_len s a)
  have HP2 := Lib.hid (fun a => pp_rest s a n hn)
  have HP3 := Lib.hid (fun a => show (s.extract a n).size = n - a by rw [ByteArray.size_extract]; omega)
  obtain ⟨L, hL⟩ : ∃ l, l = s.data.toList := ⟨_, rfl⟩
  rw [← hL] at HIX hsz HP1 HP2 ⊢
  clear hL
  have HL := Lib.hid (show L.length = n by rw [hsz, hn])
  have HAT := Lib.hid (fun (i : Nat) (h : i < n) => (⟨L[i]'(by rw [HL.out]; exact h), List.getElem?_eq_getElem _⟩ : ∃ x, L[i]? = some x))
  rw [hn] at hm
  have HS := Lib.hid hn
  clear hsz
  go_enter Tryd.func24, Tryd.ntmps24
  go_wp2
  go_loop [5] (fun x => ∃ a : Nat, x = .int .i64 (a : Int) ∧ a ≤ n ∧ Hid (∀ y ∈ L.take a, y ≠ slash)) (fun x => n - (intOf x).toNat)
  case atStart => exact ⟨0, rfl, by omega, Lib.hid (fun y hy => by simp at hy)⟩
  case round =>
    obtain ⟨a, rfl, ha, HA⟩ := hrel
    by_cases hlt : a < n
    · obtain ⟨x, hx⟩ := HAT.out a hlt
      have hix : ∀ w, (Instr.index 9 (.string s) (.int .i64 (a : Int))).run Tryd.prog w = .ok (.int .u8 (x.toNat : Int)) w := HIX.out a x hx
      by_cases h47 : x = 47
      · subst h47
        have HX := Lib.hid hx
        clear hx
        have hae : ((a : Int) == (n : Int)) = false := by simp; omega
        go_wp2_with (fail)
        refine (HPA.out a _).mono ?_
        rw [HP1.out a]
        rcases four_cases (L.take a) with ⟨h4, hp⟩ | ⟨m, h4, hp, hm32⟩
        · rw [hp]
          have HR := Lib.hid (pp_bad L a HA.out (.inr HX.out) h4)
          clear h4 hp
          rintro e w1 ⟨rfl, rfl⟩
          go_wp2
          go_ret3
          exact ⟨by rw [HR.out]; rfl, rfl⟩
        · rw [hp]
          have HNO := Lib.hid (fun hb => pp_no L a m HA.out HX.out h4 hb)
          have HFAR := Lib.hid (fun k hb hk => pp_far L a m k HA.out HX.out h4 hb hk)
          have HYES := Lib.hid (fun k hb hk => pp_yes L a m k HA.out HX.out h4 hb hk)
          have HMK := Lib.hid (fun (k : Nat) (hk : k ≤ 32) (w : World) => by
            have := gmask_yes m hm32 (k : Int) (by omega) w
            rw [clip_nat k hk] at this
            exact this)
          clear h4 hp
          have hrs := HP3.out (a + 1)
          have hri := fun (i : Nat) (x : UInt8) (h : (s.extract (a + 1) n).data.toList[i]? = some x) => idxS (s.extract (a + 1) n) i x h
          rw [HP2.out (a + 1)] at hri
          have HRI := Lib.hid hri
          have HQL := Lib.hid (show (L.drop (a + 1)).length = n - (a + 1) by rw [List.length_drop, HL.out])
          clear hri
          generalize L.drop (a + 1) = Q at *
          obtain ⟨q, hq⟩ : ∃ q, n - (a + 1) = q := ⟨_, rfl⟩
          have hqn : q ≤ n := by omega
          rw [hq] at hrs HQL
          have HQA := Lib.hid (fun (i : Nat) (h : i < q) => (⟨Q[i]'(by rw [HQL.out]; exact h), List.getElem?_eq_getElem _⟩ : ∃ x, Q[i]? = some x))
          clear hq
          rintro e w1 ⟨rfl, rfl⟩
          by_cases q0 : q = 0
          · have HR := Lib.hid (HNO.out (bits_no Q (.inl (by rw [HQL.out]; omega))))
            have q0' : (q : Int) < 1 := by omega
            clear q0
            go_wp2
            go_ret3
            exact ⟨by rw [HR.out]; rfl, rfl⟩
          · have q0' : ¬ (q : Int) < 1 := by omega
            by_cases q3 : 2 < q
            · have HR := Lib.hid (HNO.out (bits_no Q (.inr (.inl (by rw [HQL.out]; omega)))))
              have q3' : (2 : Int) < (q : Int) := by omega
              go_wp2
              go_ret3
              exact ⟨by rw [HR.out]; rfl, rfl⟩
            · have q3' : ¬ (2 : Int) < (q : Int) := by omega
              by_cases q2 : q = 2
              · have q2' : ((q : Int) == 2) = true := by simp; omega
                obtain ⟨d, hd⟩ := HQA.out 0 (by omega)
                have HQ2 := Lib.hid q2
                have hixd : ∀ w, (Instr.index 9 (.string (s.extract (a + 1) n)) (.int .i64 0)).run Tryd.prog w = .ok (.int .u8 (d.toNat : Int)) w := HRI.out 0 d hd
                by_cases d48 : d = 48
                · subst d48
                  have HR := Lib.hid (HNO.out (bits_no Q (.inr (.inr (.inl ⟨by rw [HQL.out, HQ2.out], hd⟩)))))
                  clear hd q2
                  go_wp2
                  go_ret3
                  exact ⟨by rw [HR.out]; rfl, rfl⟩
                · have d48' : ((d.toNat : Int) == 48) = false := by
                    simp only [beq_eq_false_iff_ne, ne_eq]
                    intro he
                    exact d48 (UInt8.toNat_inj.1 (by show d.toNat = 48; omega))
                  have HD := Lib.hid hd
                  have HD8 := Lib.hid d48
                  have hqb : 1 ≤ q ∧ q ≤ 2 := by omega
                  clear hd d48 q2
                  go_wp2
                  go_loop [9, 10] (fun x y => ∃ i v : Nat, x = .int .i64 (v : Int) ∧ y = .int .i64 (i : Int) ∧ i ≤ q ∧ v < 1000 ∧ Hid (v = valD (Q.take i) ∧ ∀ x ∈ Q.take i, isDig x = true)) (fun _ y => q - (intOf y).toNat)
                  case atStart => exact ⟨0, 0, rfl, rfl, by omega, by omega, Lib.hid ⟨rfl, fun x hx => by simp at hx⟩⟩
                  case round =>
                    obtain ⟨i, v, rfl, rfl, hi, hv, HV⟩ := hrel
                    by_cases hiq : i < q
                    · obtain ⟨c, hc⟩ := HQA.out i hiq
                      have hixc : ∀ w, (Instr.index 9 (.string (s.extract (a + 1) n)) (.int .i64 (i : Int))).run Tryd.prog w = .ok (.int .u8 (c.toNat : Int)) w := HRI.out i c hc
                      have hcl := c.toNat_lt
                      by_cases h48 : 48 ≤ c.toNat
                      · have h48' : ¬ (c.toNat : Int) < 48 := by omega
                        by_cases h57 : c.toNat ≤ 57
                        · have h57' : ¬ (57 : Int) < (c.toNat : Int) := by omega
                          have HV2 := Lib.hid (show 10 * v + (c.toNat - 48) = valD (Q.take (i + 1)) ∧ ∀ x ∈ Q.take (i + 1), isDig x = true from ⟨by rw [val_take _ i c hc, HV.out.1], take_dig _ i c hc (by simp [isDig]; omega) HV.out.2⟩)
                          have hv2 : 10 * v + (c.toNat - 48) < 1000 := by
                            rw [HV2.out.1]
                            exact val_two _ (by rw [List.length_take]; omega) HV2.out.2
                          clear hc
                          generalize c.toNat = C at *
                          go_wp2
                          go_round
                          case rel => exact ⟨i + 1, 10 * v + (C - 48), by go_num, by go_num, by omega, by omega, HV2⟩
                          case measure => simp [intOf]; omega
                        · have h57' : (57 : Int) < (c.toNat : Int) := by omega
                          have HR := Lib.hid (HNO.out (bits_no Q (.inr (.inr (.inr ⟨c, List.mem_of_getElem? hc, by simp [isDig]; omega⟩)))))
                          clear hc
                          generalize c.toNat = C at *
                          go_wp2
                          go_ret3
                          exact ⟨by rw [HR.out]; rfl, rfl⟩
                      · have h48' : (c.toNat : Int) < 48 := by omega
                        have HR := Lib.hid (HNO.out (bits_no Q (.inr (.inr (.inr ⟨c, List.mem_of_getElem? hc, by simp [isDig]; omega⟩)))))
                        clear hc
                        generalize c.toNat = C at *
                        go_wp2
                        go_ret3
                        exact ⟨by rw [HR.out]; rfl, rfl⟩
                    · have hiq' : ¬ (i : Int) < (q : Int) := by omega
                      have hiq2 : i = q := by omega
                      have hall : Q.take i = Q := List.take_of_length_le (by rw [HQL.out]; omega)
                      have HB := Lib.hid (show bitsT Q = some v by
                        have h := HV.out
                        rw [hall] at h
                        rw [h.1]
                        exact bits_yes Q (by rw [HQL.out]; omega) (by rw [HQL.out]; omega) h.2 (.inr ⟨d, HD.out, HD8.out⟩))
                      clear hall
                      by_cases h32 : 32 < v
                      · have h32' : (32 : Int) < (v : Int) := by omega
                        have HR := Lib.hid (HFAR.out v HB.out h32)
                        go_wp2
                        go_ret3
                        exact ⟨by rw [HR.out]; rfl, rfl⟩
                      · have h32' : ¬ (32 : Int) < (v : Int) := by omega
                        have HR := Lib.hid (HYES.out v HB.out h32)
                        go_wp2_with (fail)
                        refine (HMK.out v (by omega) _).mono ?_
                        rintro e w1 ⟨rfl, rfl⟩
                        go_wp2
                        go_ret3
                        exact ⟨by rw [HR.out]; rfl, rfl⟩
              · have q2' : ((q : Int) == 2) = false := by simp; omega
                have HQ1 := Lib.hid (show q = 1 by omega)
                go_wp2
                go_loop [9, 10] (fun x y => ∃ i v : Nat, x = .int .i64 (v : Int) ∧ y = .int .i64 (i : Int) ∧ i ≤ q ∧ v < 1000 ∧ Hid (v = valD (Q.take i) ∧ ∀ x ∈ Q.take i, isDig x = true)) (fun _ y => q - (intOf y).toNat)
                case atStart => exact ⟨0, 0, rfl, rfl, by omega, by omega, Lib.hid ⟨rfl, fun x hx => by simp at hx⟩⟩
                case round =>
                  obtain ⟨i, v, rfl, rfl, hi, hv, HV⟩ := hrel
                  by_cases hiq : i < q
                  · obtain ⟨c, hc⟩ := HQA.out i hiq
                    have hixc : ∀ w, (Instr.index 9 (.string (s.extract (a + 1) n)) (.int .i64 (i : Int))).run Tryd.prog w = .ok (.int .u8 (c.toNat : Int)) w := HRI.out i c hc
                    have hcl := c.toNat_lt
                    by_cases h48 : 48 ≤ c.toNat
                    · have h48' : ¬ (c.toNat : Int) < 48 := by omega
                      by_cases h57 : c.toNat ≤ 57
                      · have h57' : ¬ (57 : Int) < (c.toNat : Int) := by omega
                        have HV2 := Lib.hid (show 10 * v + (c.toNat - 48) = valD (Q.take (i + 1)) ∧ ∀ x ∈ Q.take (i + 1), isDig x = true from ⟨by rw [val_take _ i c hc, HV.out.1], take_dig _ i c hc (by simp [isDig]; omega) HV.out.2⟩)
                        have hv2 : 10 * v + (c.toNat - 48) < 1000 := by
                          rw [HV2.out.1]
                          exact val_two _ (by rw [List.length_take]; omega) HV2.out.2
                        clear hc
                        generalize c.toNat = C at *
                        go_wp2
                        go_round
                        case rel => exact ⟨i + 1, 10 * v + (C - 48), by go_num, by go_num, by omega, by omega, HV2⟩
                        case measure => simp [intOf]; omega
                      · have h57' : (57 : Int) < (c.toNat : Int) := by omega
                        have HR := Lib.hid (HNO.out (bits_no Q (.inr (.inr (.inr ⟨c, List.mem_of_getElem? hc, by simp [isDig]; omega⟩)))))
                        clear hc
                        generalize c.toNat = C at *
                        go_wp2
                        go_ret3
                        exact ⟨by rw [HR.out]; rfl, rfl⟩
                    · have h48' : (c.toNat : Int) < 48 := by omega
                      have HR := Lib.hid (HNO.out (bits_no Q (.inr (.inr (.inr ⟨c, List.mem_of_getElem? hc, by simp [isDig]; omega⟩)))))
                      clear hc
                      generalize c.toNat = C at *
                      go_wp2
                      go_ret3
                      exact ⟨by rw [HR.out]; rfl, rfl⟩
                  · have hiq' : ¬ (i : Int) < (q : Int) := by omega
                    have hiq2 : i = q := by omega
                    have hall : Q.take i = Q := List.take_of_length_le (by rw [HQL.out]; omega)
                    have HB := Lib.hid (show bitsT Q = some v by
                      have h := HV.out
                      rw [hall] at h
                      rw [h.1]
                      exact bits_yes Q (by rw [HQL.out]; omega) (by rw [HQL.out]; omega) h.2 (.inl (by rw [HQL.out, HQ1.out])))
                    clear hall
                    by_cases h32 : 32 < v
                    · have h32' : (32 : Int) < (v : Int) := by omega
                      have HR := Lib.hid (HFAR.out v HB.out h32)
                      go_wp2
                      go_ret3
                      exact ⟨by rw [HR.out]; rfl, rfl⟩
                    · have h32' : ¬ (32 : Int) < (v : Int) := by omega
                      have HR := Lib.hid (HYES.out v HB.out h32)
                      go_wp2_with (fail)
                      refine (HMK.out v (by omega) _).mono ?_
                      rintro e w1 ⟨rfl, rfl⟩
                      go_wp2
                      go_ret3
                      exact ⟨by rw [HR.out]; rfl, rfl⟩
      · have h47' : ((x.toNat : Int) != 47) = true := by
          simp only [bne_iff_ne, ne_eq]
          intro he
          exact h47 (UInt8.toNat_inj.1 (by show x.toNat = 47; omega))
        have HA2 := Lib.hid (take_ne L a x hx h47 HA.out)
        clear hx h47
        go_wp2
        go_round
        case rel => exact ⟨a + 1, by go_num, by omega, HA2⟩
        case measure => simp [intOf]; omega
    · have hlt' : ¬ (a : Int) < (n : Int) := by omega
      go_wp2_with (fail)
      refine (HPA.out a _).mono ?_
      rw [HP1.out a]
      rcases four_cases (L.take a) with ⟨h4, hp⟩ | ⟨m, h4, hp, hm32⟩
      · rw [hp]
        have HR := Lib.hid (pp_bad L a HA.out (.inl (by rw [HL.out]; omega)) h4)
        clear h4 hp
        rintro e w1 ⟨rfl, rfl⟩
        go_wp2
        go_ret3
        exact ⟨by rw [HR.out]; rfl, rfl⟩
      · rw [hp]
        have HR := Lib.hid (pp_all L a m HA.out (by rw [HL.out]; omega) h4)
        clear h4 hp
        have hae : ((a : Int) == (n : Int)) = true := by simp; omega
        rintro e w1 ⟨rfl, rfl⟩
        go_wp2
        go_ret3
        exact ⟨by rw [HR.out]; rfl, rfl⟩
end Go.Proofs.YtflhbidmjlfjkaaDoor
