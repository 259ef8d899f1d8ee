/- tollref06: contracts of Parse, fits. -/
import Derived.Test.YtflhbidmjlfjkaaDoorRgD
import Derived.Test.YtflhbidmjlfjkaaDoorInV
namespace Go.Proofs.YtflhbidmjlfjkaaDoor
open Go.RowKit Go.Sort
set_option linter.unusedVariables false

/-- What an index into a text reads. -/
theorem idxS (s : ByteArray) (k : Nat) (c : UInt8) (h : s.data.toList[k]? = some c) (w : World) : (Instr.index 9 (.string s) (.int .i64 (k : Int))).run Tryd.prog w = .ok (.int .u8 (c.toNat : Int)) w := by
  have hk : k < s.size := by
    have := (List.getElem?_eq_some_iff.1 h).1
    rw [Lib.size_eq]
    exact this
  have hc : s[k]'hk = c := by
    have h2 := (List.getElem?_eq_some_iff.1 h).2
    rw [← h2]
    rfl
  simp [Instr.index, asIntOf, run_underlying Tryd.underlying9, hk, hc]
theorem parts_if {α : Type} (k : Nat) (x y : α) (hk : k < 4) : (if 4 - (k + 1) = 3 then x else y) = if k = 0 then x else y := by
  by_cases h : k = 0
  · rw [if_pos h, if_pos (by omega)]
  · rw [if_neg h, if_neg (by omega)]
theorem parts_num (k ip n : Nat) (q r : List UInt8) (hk : k < 4) (hr : (if k = 0 then some q else afterDot q) = some r) (hn : numT (runD r) = some n) : partsM (4 - k) ip q = partsM (4 - (k + 1)) (256 * ip + n) (r.drop (runD r).length) := by
  rw [show 4 - k = (4 - (k + 1)) + 1 by omega, partsM]
  rw [parts_if k _ _ hk, hr]
  simp only [hn]
theorem parts_no (k ip : Nat) (q r : List UInt8) (hk : k < 4) (hr : (if k = 0 then some q else afterDot q) = some r) (hn : numT (runD r) = none) : partsM (4 - k) ip q = none := by
  rw [show 4 - k = (4 - (k + 1)) + 1 by omega, partsM]
  rw [parts_if k _ _ hk, hr]
  simp only [hn]
theorem parts_dot (k ip : Nat) (q : List UInt8) (hk : k < 4) (hr : (if k = 0 then some q else afterDot q) = none) : partsM (4 - k) ip q = none := by
  rw [show 4 - k = (4 - (k + 1)) + 1 by omega, partsM]
  rw [parts_if k _ _ hk, hr]
theorem parse_no {L : List UInt8} (h : partsM 4 0 L = none) : parseM L = (0, 5) := by
  unfold parseM
  rw [four_parts, h]
theorem parse_yes {L : List UInt8} {n : Nat} (h : partsM 4 0 L = some n) : parseM L = (n, 0) := by
  unfold parseM
  rw [four_parts, h]
theorem drop_at {L : List UInt8} {a j : Nat} : (L.drop a)[j]? = L[a + j]? := by rw [List.getElem?_drop]
/-- How a number's reading ends. -/
theorem run_end (L : List UInt8) (a j : Nat) (hj : j ≤ 4) (hl : a + j ≤ L.length) (hd : ∀ x ∈ (L.drop a).take j, isDig x = true) (hs : a + j = L.length ∨ j = 4 ∨ ∃ x, L[a + j]? = some x ∧ isDig x = false) : runD (L.drop a) = (L.drop a).take j ∧ (runD (L.drop a)).length = j := by
  have h := run_stop (L.drop a) j hj (by rw [List.length_drop]; omega) hd (by
    rcases hs with h | h | ⟨x, h, hx⟩
    · left; rw [List.length_drop]; omega
    · exact .inr (.inl h)
    · exact .inr (.inr ⟨x, by rw [drop_at]; exact h, hx⟩))
  refine ⟨h, ?_⟩
  rw [h, List.length_take, List.length_drop]
  omega
theorem take_dig (q : List UInt8) (j : Nat) (x : UInt8) (h : q[j]? = some x) (hx : isDig x = true) (hd : ∀ y ∈ q.take j, isDig y = true) : ∀ y ∈ q.take (j + 1), isDig y = true := by
  intro y hy
  rw [List.take_add_one, h] at hy
  simp only [Option.toList_some, List.mem_append, List.mem_singleton] at hy
  rcases hy with hy | rfl
  · exact hd y hy
  · exact hx
/-- What has been read is no number. -/
theorem num_none (q : List UInt8) (j : Nat) (v : Nat) (hr : runD q = q.take j) (hl : (runD q).length = j) (hv : v = valD (q.take j)) (h : j = 0 ∨ (1 < j ∧ q[0]? = some 48) ∨ 255 < v) : numT (runD q) = none := by
  rw [num_run, if_pos]
  rcases h with h | ⟨h, h0⟩ | h
  · left; exact List.eq_nil_of_length_eq_zero (by omega)
  · refine .inr (.inl ⟨by omega, ?_⟩)
    rw [hr]
    cases q with
    | nil => cases h0
    | cons x q =>
      simp only [List.getElem?_cons_zero, Option.some.injEq] at h0
      subst h0
      cases j with
      | zero => omega
      | succ j => rfl
  · exact .inr (.inr (by rw [hr, ← hv]; exact h))
theorem num_some (q : List UInt8) (j : Nat) (v : Nat) (hr : runD q = q.take j) (hl : (runD q).length = j) (hv : v = valD (q.take j)) (h0 : 0 < j) (h : j = 1 ∨ ∃ x, q[0]? = some x ∧ x ≠ 48) (h5 : v ≤ 255) : numT (runD q) = some v := by
  rw [num_run, if_neg, hr, ← hv]
  rintro (h1 | ⟨h1, h2⟩ | h1)
  · rw [h1] at hl; simp at hl; omega
  · rcases h with h | ⟨x, hx, hx8⟩
    · omega
    · rw [hr] at h2
      cases q with
      | nil => cases hx
      | cons y q =>
        simp only [List.getElem?_cons_zero, Option.some.injEq] at hx
        subst hx
        cases j with
        | zero => omega
        | succ j => exact hx8 h2
  · rw [hr, ← hv] at h1; omega
set_option maxHeartbeats 4000000 in
set_option maxRecDepth 100000 in
theorem gparse_yes (s : ByteArray) (hm : s.size ≤ 1099511627776) (w : World) : Calls Tryd.prog 22 #[.string s] w fun e w' => e = .returned (.tuple #[.int .u32 ((parseM s.data.toList).1 : Int), .int .i64 (parseM s.data.toList).2]) ∧ w = w' := by
  have hsz : s.data.toList.length = s.size := by rw [Lib.size_eq]
  have HIX := Lib.hid (fun (i : Nat) (x : UInt8) (h : s.data.toList[i]? = some x) => idxS s i x h)
  obtain ⟨L, hL⟩ : ∃ l, l = s.data.toList := ⟨_, rfl⟩
  rw [← hL] at HIX hsz ⊢
  clear hL
  obtain ⟨n, hn⟩ : ∃ n, s.size = n := ⟨_, rfl⟩
  have HL := Lib.hid (show L.length = n by rw [hsz, hn])
  have HAT := Lib.hid (fun (i : Nat) (h : i < n) => (⟨L[i]'(by rw [HL.out]; exact h), List.getElem?_eq_getElem _⟩ : ∃ x, L[i]? = some x))
  have HNO := Lib.hid (fun (h : partsM 4 0 L = none) => parse_no h)
  have HYES := Lib.hid (fun (m : Nat) (h : partsM 4 0 L = some m) => parse_yes h)
  rw [hn] at hm
  have HS := Lib.hid hn
  clear hsz
  go_enter Tryd.func22, Tryd.ntmps22
  go_wp2
  go_loop [4, 5, 6] (fun x y z => ∃ a ip k : Nat, x = .int .i64 (a : Int) ∧ y = .int .i64 (ip : Int) ∧ z = .int .i64 (k : Int) ∧ k ≤ 4 ∧ a ≤ n ∧ ip < 256 ^ k ∧ Hid (partsM 4 0 L = partsM (4 - k) ip (L.drop a))) (fun _ _ z => 4 - (intOf z).toNat)
  case atStart => exact ⟨0, 0, 0, rfl, rfl, rfl, by omega, by omega, by decide, Lib.hid rfl⟩
  case round =>
    obtain ⟨a, ip, k, rfl, rfl, rfl, hk, ha, hip, HP⟩ := hrel
    by_cases hk4 : k < 4
    · have hP : 256 ^ k ≤ 16777216 := by
        have : 256 ^ k ≤ 256 ^ 3 := Nat.pow_le_pow_right (by decide) (by omega)
        omega
      have HPS := Lib.hid (show 256 ^ (k + 1) = 256 ^ k * 256 from Nat.pow_succ ..)
      generalize 256 ^ k = P at *
      by_cases k0 : k = 0
      · have k0' : ¬ (0 : Int) < (k : Int) := by omega
        have HR := Lib.hid (show (if k = 0 then some (L.drop a) else afterDot (L.drop a)) = some (L.drop a) by rw [if_pos k0])
        clear k0
        go_wp2
        go_loop [4, 8] (fun x y => ∃ (j v : Nat), x = .int .i64 ((a : Int) + (j : Int)) ∧ y = .int .i64 (v : Int) ∧ j ≤ 4 ∧ a + j ≤ n ∧ v < 10000 ∧ Hid (v = valD ((L.drop a).take j) ∧ ∀ x ∈ (L.drop a).take j, isDig x = true)) (fun x _ => 4 + (n - (intOf x).toNat))
        case atStart => exact ⟨0, 0, by go_num, rfl, by omega, by omega, by omega, ⟨rfl, fun x hx => by simp at hx⟩⟩
        case round =>
          obtain ⟨j, v, rfl, rfl, hj, hjn, hv, HV⟩ := hrel
          by_cases hlt : a + j < n
          · have hlt' : (a : Int) + (j : Int) < (n : Int) := by omega
            by_cases hj4 : j < 4
            · have hj4' : (a : Int) + (j : Int) - (a : Int) < 4 := by omega
              obtain ⟨c, hc⟩ := HAT.out (a + j) hlt
              have hix : ∀ w, (Instr.index 9 (.string s) (.int .i64 ((a : Int) + (j : Int)))).run Tryd.prog w = .ok (.int .u8 (c.toNat : Int)) w := HIX.out (a + j) c hc
              have hcl := c.toNat_lt
              by_cases h48 : 48 ≤ c.toNat
              · by_cases h57 : c.toNat ≤ 57
                · have HV2 := Lib.hid (show 10 * v + (c.toNat - 48) = valD ((L.drop a).take (j + 1)) ∧ ∀ x ∈ (L.drop a).take (j + 1), isDig x = true from ⟨by rw [val_take _ j c (by rw [drop_at]; exact hc), HV.out.1], take_dig _ j c (by rw [drop_at]; exact hc) (by simp [isDig]; omega) HV.out.2⟩)
                  have hv2 : 10 * v + (c.toNat - 48) < 10000 := by
                    rw [HV2.out.1]
                    exact val_lt _ (j + 1) (by rw [List.length_take]; omega) HV2.out.2 (by omega)
                  clear hc
                  generalize c.toNat = C at *
                  go_wp2
                  go_round
                  case rel => exact ⟨j + 1, 10 * v + (C - 48), by go_num, by go_num, by omega, by omega, hv2, HV2⟩
                  case measure => simp [intOf]; omega
                · have HEND := Lib.hid (run_end L a j hj (by rw [HL.out]; exact hjn) HV.out.2 (.inr (.inr ⟨c, hc, by simp [isDig]; omega⟩)))
                  clear hc
                  generalize c.toNat = C at *
                  by_cases j0 : j = 0
                  · have j0' : (((a : Int) + (j : Int)) == (a : Int)) = true := by simp; omega
                    have J0 := Lib.hid j0
                    have HR2 := Lib.hid (HNO.out (by rw [HP.out]; exact parts_no k ip _ _ hk4 HR.out (num_none _ j v HEND.out.1 HEND.out.2 HV.out.1 (.inl J0.out))))
                    clear j0
                    go_wp2
                    go_ret2
                    exact ⟨by rw [HR2.out]; rfl, rfl⟩
                  · have j0' : (((a : Int) + (j : Int)) == (a : Int)) = false := by simp; omega
                    by_cases j1 : 1 < j
                    · have j1' : (1 : Int) < (a : Int) + (j : Int) - (a : Int) := by omega
                      obtain ⟨d, hd⟩ := HAT.out (a) (by omega)
                      have hix0 : ∀ w, (Instr.index 9 (.string s) (.int .i64 ((a : Int)))).run Tryd.prog w = .ok (.int .u8 (d.toNat : Int)) w := HIX.out (a) d hd
                      have HD := Lib.hid (show (L.drop (a))[0]? = some d by rw [drop_at]; exact hd)
                      clear hd
                      by_cases d48 : d = 48
                      · subst d48
                        have HR2 := Lib.hid (HNO.out (by rw [HP.out]; exact parts_no k ip _ _ hk4 HR.out (num_none _ j v HEND.out.1 HEND.out.2 HV.out.1 (.inr (.inl ⟨j1, HD.out⟩)))))
                        go_wp2
                        go_ret2
                        exact ⟨by rw [HR2.out]; rfl, rfl⟩
                      · have d48' : ((d.toNat : Int) == 48) = false := by
                          simp only [beq_eq_false_iff_ne, ne_eq]
                          intro he
                          exact d48 (UInt8.toNat_inj.1 (by show d.toNat = 48; omega))
                        have HD8 := Lib.hid d48
                        clear d48
                        by_cases h255 : 255 < v
                        · have h255' : (255 : Int) < (v : Int) := by omega
                          have HR2 := Lib.hid (HNO.out (by rw [HP.out]; exact parts_no k ip _ _ hk4 HR.out (num_none _ j v HEND.out.1 HEND.out.2 HV.out.1 (.inr (.inr h255)))))
                          go_wp2
                          go_ret2
                          exact ⟨by rw [HR2.out]; rfl, rfl⟩
                        · have h255' : ¬ (255 : Int) < (v : Int) := by omega
                          have HN := Lib.hid (parts_num k ip v _ _ hk4 HR.out (num_some _ j v HEND.out.1 HEND.out.2 HV.out.1 (by omega) (.inr ⟨d, HD.out, HD8.out⟩) (by omega)))
                          go_wp2
                          go_round
                          case rel => exact ⟨a + j, 256 * ip + v, k + 1, by go_num, by go_num, by go_num, by omega, by omega, by rw [HPS.out]; omega, Lib.hid (by rw [HP.out, HN.out, HEND.out.2, List.drop_drop])⟩
                          case measure => simp [intOf]; omega
                    · have j1' : ¬ (1 : Int) < (a : Int) + (j : Int) - (a : Int) := by omega
                      by_cases h255 : 255 < v
                      · have h255' : (255 : Int) < (v : Int) := by omega
                        have HR2 := Lib.hid (HNO.out (by rw [HP.out]; exact parts_no k ip _ _ hk4 HR.out (num_none _ j v HEND.out.1 HEND.out.2 HV.out.1 (.inr (.inr h255)))))
                        go_wp2
                        go_ret2
                        exact ⟨by rw [HR2.out]; rfl, rfl⟩
                      · have h255' : ¬ (255 : Int) < (v : Int) := by omega
                        have HN := Lib.hid (parts_num k ip v _ _ hk4 HR.out (num_some _ j v HEND.out.1 HEND.out.2 HV.out.1 (by omega) (.inl (by omega)) (by omega)))
                        go_wp2
                        go_round
                        case rel => exact ⟨a + j, 256 * ip + v, k + 1, by go_num, by go_num, by go_num, by omega, by omega, by rw [HPS.out]; omega, Lib.hid (by rw [HP.out, HN.out, HEND.out.2, List.drop_drop])⟩
                        case measure => simp [intOf]; omega
              · have HEND := Lib.hid (run_end L a j hj (by rw [HL.out]; exact hjn) HV.out.2 (.inr (.inr ⟨c, hc, by simp [isDig]; omega⟩)))
                clear hc
                generalize c.toNat = C at *
                by_cases j0 : j = 0
                · have j0' : (((a : Int) + (j : Int)) == (a : Int)) = true := by simp; omega
                  have J0 := Lib.hid j0
                  have HR2 := Lib.hid (HNO.out (by rw [HP.out]; exact parts_no k ip _ _ hk4 HR.out (num_none _ j v HEND.out.1 HEND.out.2 HV.out.1 (.inl J0.out))))
                  clear j0
                  go_wp2
                  go_ret2
                  exact ⟨by rw [HR2.out]; rfl, rfl⟩
                · have j0' : (((a : Int) + (j : Int)) == (a : Int)) = false := by simp; omega
                  by_cases j1 : 1 < j
                  · have j1' : (1 : Int) < (a : Int) + (j : Int) - (a : Int) := by omega
                    obtain ⟨d, hd⟩ := HAT.out (a) (by omega)
                    have hix0 : ∀ w, (Instr.index 9 (.string s) (.int .i64 ((a : Int)))).run Tryd.prog w = .ok (.int .u8 (d.toNat : Int)) w := HIX.out (a) d hd
                    have HD := Lib.hid (show (L.drop (a))[0]? = some d by rw [drop_at]; exact hd)
                    clear hd
                    by_cases d48 : d = 48
                    · subst d48
                      have HR2 := Lib.hid (HNO.out (by rw [HP.out]; exact parts_no k ip _ _ hk4 HR.out (num_none _ j v HEND.out.1 HEND.out.2 HV.out.1 (.inr (.inl ⟨j1, HD.out⟩)))))
                      go_wp2
                      go_ret2
                      exact ⟨by rw [HR2.out]; rfl, rfl⟩
                    · have d48' : ((d.toNat : Int) == 48) = false := by
                        simp only [beq_eq_false_iff_ne, ne_eq]
                        intro he
                        exact d48 (UInt8.toNat_inj.1 (by show d.toNat = 48; omega))
                      have HD8 := Lib.hid d48
                      clear d48
                      by_cases h255 : 255 < v
                      · have h255' : (255 : Int) < (v : Int) := by omega
                        have HR2 := Lib.hid (HNO.out (by rw [HP.out]; exact parts_no k ip _ _ hk4 HR.out (num_none _ j v HEND.out.1 HEND.out.2 HV.out.1 (.inr (.inr h255)))))
                        go_wp2
                        go_ret2
                        exact ⟨by rw [HR2.out]; rfl, rfl⟩
                      · have h255' : ¬ (255 : Int) < (v : Int) := by omega
                        have HN := Lib.hid (parts_num k ip v _ _ hk4 HR.out (num_some _ j v HEND.out.1 HEND.out.2 HV.out.1 (by omega) (.inr ⟨d, HD.out, HD8.out⟩) (by omega)))
                        go_wp2
                        go_round
                        case rel => exact ⟨a + j, 256 * ip + v, k + 1, by go_num, by go_num, by go_num, by omega, by omega, by rw [HPS.out]; omega, Lib.hid (by rw [HP.out, HN.out, HEND.out.2, List.drop_drop])⟩
                        case measure => simp [intOf]; omega
                  · have j1' : ¬ (1 : Int) < (a : Int) + (j : Int) - (a : Int) := by omega
                    by_cases h255 : 255 < v
                    · have h255' : (255 : Int) < (v : Int) := by omega
                      have HR2 := Lib.hid (HNO.out (by rw [HP.out]; exact parts_no k ip _ _ hk4 HR.out (num_none _ j v HEND.out.1 HEND.out.2 HV.out.1 (.inr (.inr h255)))))
                      go_wp2
                      go_ret2
                      exact ⟨by rw [HR2.out]; rfl, rfl⟩
                    · have h255' : ¬ (255 : Int) < (v : Int) := by omega
                      have HN := Lib.hid (parts_num k ip v _ _ hk4 HR.out (num_some _ j v HEND.out.1 HEND.out.2 HV.out.1 (by omega) (.inl (by omega)) (by omega)))
                      go_wp2
                      go_round
                      case rel => exact ⟨a + j, 256 * ip + v, k + 1, by go_num, by go_num, by go_num, by omega, by omega, by rw [HPS.out]; omega, Lib.hid (by rw [HP.out, HN.out, HEND.out.2, List.drop_drop])⟩
                      case measure => simp [intOf]; omega
            · have hj4' : ¬ (a : Int) + (j : Int) - (a : Int) < 4 := by omega
              have HEND := Lib.hid (run_end L a j hj (by rw [HL.out]; exact hjn) HV.out.2 (.inr (.inl (by omega))))
              by_cases j0 : j = 0
              · have j0' : (((a : Int) + (j : Int)) == (a : Int)) = true := by simp; omega
                have J0 := Lib.hid j0
                omega
              · have j0' : (((a : Int) + (j : Int)) == (a : Int)) = false := by simp; omega
                by_cases j1 : 1 < j
                · have j1' : (1 : Int) < (a : Int) + (j : Int) - (a : Int) := by omega
                  obtain ⟨d, hd⟩ := HAT.out (a) (by omega)
                  have hix0 : ∀ w, (Instr.index 9 (.string s) (.int .i64 ((a : Int)))).run Tryd.prog w = .ok (.int .u8 (d.toNat : Int)) w := HIX.out (a) d hd
                  have HD := Lib.hid (show (L.drop (a))[0]? = some d by rw [drop_at]; exact hd)
                  clear hd
                  by_cases d48 : d = 48
                  · subst d48
                    have HR2 := Lib.hid (HNO.out (by rw [HP.out]; exact parts_no k ip _ _ hk4 HR.out (num_none _ j v HEND.out.1 HEND.out.2 HV.out.1 (.inr (.inl ⟨j1, HD.out⟩)))))
                    go_wp2
                    go_ret2
                    exact ⟨by rw [HR2.out]; rfl, rfl⟩
                  · have d48' : ((d.toNat : Int) == 48) = false := by
                      simp only [beq_eq_false_iff_ne, ne_eq]
                      intro he
                      exact d48 (UInt8.toNat_inj.1 (by show d.toNat = 48; omega))
                    have HD8 := Lib.hid d48
                    clear d48
                    by_cases h255 : 255 < v
                    · have h255' : (255 : Int) < (v : Int) := by omega
                      have HR2 := Lib.hid (HNO.out (by rw [HP.out]; exact parts_no k ip _ _ hk4 HR.out (num_none _ j v HEND.out.1 HEND.out.2 HV.out.1 (.inr (.inr h255)))))
                      go_wp2
                      go_ret2
                      exact ⟨by rw [HR2.out]; rfl, rfl⟩
                    · have h255' : ¬ (255 : Int) < (v : Int) := by omega
                      have HN := Lib.hid (parts_num k ip v _ _ hk4 HR.out (num_some _ j v HEND.out.1 HEND.out.2 HV.out.1 (by omega) (.inr ⟨d, HD.out, HD8.out⟩) (by omega)))
                      go_wp2
                      go_round
                      case rel => exact ⟨a + j, 256 * ip + v, k + 1, by go_num, by go_num, by go_num, by omega, by omega, by rw [HPS.out]; omega, Lib.hid (by rw [HP.out, HN.out, HEND.out.2, List.drop_drop])⟩
                      case measure => simp [intOf]; omega
                · have j1' : ¬ (1 : Int) < (a : Int) + (j : Int) - (a : Int) := by omega
                  by_cases h255 : 255 < v
                  · have h255' : (255 : Int) < (v : Int) := by omega
                    have HR2 := Lib.hid (HNO.out (by rw [HP.out]; exact parts_no k ip _ _ hk4 HR.out (num_none _ j v HEND.out.1 HEND.out.2 HV.out.1 (.inr (.inr h255)))))
                    go_wp2
                    go_ret2
                    exact ⟨by rw [HR2.out]; rfl, rfl⟩
                  · have h255' : ¬ (255 : Int) < (v : Int) := by omega
                    have HN := Lib.hid (parts_num k ip v _ _ hk4 HR.out (num_some _ j v HEND.out.1 HEND.out.2 HV.out.1 (by omega) (.inl (by omega)) (by omega)))
                    go_wp2
                    go_round
                    case rel => exact ⟨a + j, 256 * ip + v, k + 1, by go_num, by go_num, by go_num, by omega, by omega, by rw [HPS.out]; omega, Lib.hid (by rw [HP.out, HN.out, HEND.out.2, List.drop_drop])⟩
                    case measure => simp [intOf]; omega
          · have hlt' : ¬ (a : Int) + (j : Int) < (n : Int) := by omega
            have HEND := Lib.hid (run_end L a j hj (by rw [HL.out]; exact hjn) HV.out.2 (.inl (by rw [HL.out]; omega)))
            by_cases j0 : j = 0
            · have j0' : (((a : Int) + (j : Int)) == (a : Int)) = true := by simp; omega
              have J0 := Lib.hid j0
              have HR2 := Lib.hid (HNO.out (by rw [HP.out]; exact parts_no k ip _ _ hk4 HR.out (num_none _ j v HEND.out.1 HEND.out.2 HV.out.1 (.inl J0.out))))
              clear j0
              go_wp2
              go_ret2
              exact ⟨by rw [HR2.out]; rfl, rfl⟩
            · have j0' : (((a : Int) + (j : Int)) == (a : Int)) = false := by simp; omega
              by_cases j1 : 1 < j
              · have j1' : (1 : Int) < (a : Int) + (j : Int) - (a : Int) := by omega
                obtain ⟨d, hd⟩ := HAT.out (a) (by omega)
                have hix0 : ∀ w, (Instr.index 9 (.string s) (.int .i64 ((a : Int)))).run Tryd.prog w = .ok (.int .u8 (d.toNat : Int)) w := HIX.out (a) d hd
                have HD := Lib.hid (show (L.drop (a))[0]? = some d by rw [drop_at]; exact hd)
                clear hd
                by_cases d48 : d = 48
                · subst d48
                  have HR2 := Lib.hid (HNO.out (by rw [HP.out]; exact parts_no k ip _ _ hk4 HR.out (num_none _ j v HEND.out.1 HEND.out.2 HV.out.1 (.inr (.inl ⟨j1, HD.out⟩)))))
                  go_wp2
                  go_ret2
                  exact ⟨by rw [HR2.out]; rfl, rfl⟩
                · have d48' : ((d.toNat : Int) == 48) = false := by
                    simp only [beq_eq_false_iff_ne, ne_eq]
                    intro he
                    exact d48 (UInt8.toNat_inj.1 (by show d.toNat = 48; omega))
                  have HD8 := Lib.hid d48
                  clear d48
                  by_cases h255 : 255 < v
                  · have h255' : (255 : Int) < (v : Int) := by omega
                    have HR2 := Lib.hid (HNO.out (by rw [HP.out]; exact parts_no k ip _ _ hk4 HR.out (num_none _ j v HEND.out.1 HEND.out.2 HV.out.1 (.inr (.inr h255)))))
                    go_wp2
                    go_ret2
                    exact ⟨by rw [HR2.out]; rfl, rfl⟩
                  · have h255' : ¬ (255 : Int) < (v : Int) := by omega
                    have HN := Lib.hid (parts_num k ip v _ _ hk4 HR.out (num_some _ j v HEND.out.1 HEND.out.2 HV.out.1 (by omega) (.inr ⟨d, HD.out, HD8.out⟩) (by omega)))
                    go_wp2
                    go_round
                    case rel => exact ⟨a + j, 256 * ip + v, k + 1, by go_num, by go_num, by go_num, by omega, by omega, by rw [HPS.out]; omega, Lib.hid (by rw [HP.out, HN.out, HEND.out.2, List.drop_drop])⟩
                    case measure => simp [intOf]; omega
              · have j1' : ¬ (1 : Int) < (a : Int) + (j : Int) - (a : Int) := by omega
                by_cases h255 : 255 < v
                · have h255' : (255 : Int) < (v : Int) := by omega
                  have HR2 := Lib.hid (HNO.out (by rw [HP.out]; exact parts_no k ip _ _ hk4 HR.out (num_none _ j v HEND.out.1 HEND.out.2 HV.out.1 (.inr (.inr h255)))))
                  go_wp2
                  go_ret2
                  exact ⟨by rw [HR2.out]; rfl, rfl⟩
                · have h255' : ¬ (255 : Int) < (v : Int) := by omega
                  have HN := Lib.hid (parts_num k ip v _ _ hk4 HR.out (num_some _ j v HEND.out.1 HEND.out.2 HV.out.1 (by omega) (.inl (by omega)) (by omega)))
                  go_wp2
                  go_round
                  case rel => exact ⟨a + j, 256 * ip + v, k + 1, by go_num, by go_num, by go_num, by omega, by omega, by rw [HPS.out]; omega, Lib.hid (by rw [HP.out, HN.out, HEND.out.2, List.drop_drop])⟩
                  case measure => simp [intOf]; omega
      · have k0' : (0 : Int) < (k : Int) := by omega
        have HK0 := Lib.hid k0
        clear k0
        by_cases hda : a < n
        · have hda' : ¬ (n : Int) ≤ (a : Int) := by omega
          obtain ⟨x, hx⟩ := HAT.out a hda
          have hixd : ∀ w, (Instr.index 9 (.string s) (.int .i64 (a : Int))).run Tryd.prog w = .ok (.int .u8 (x.toNat : Int)) w := HIX.out a x hx
          have HX := Lib.hid (drop_cons hx)
          clear hx
          by_cases hdot : x = 46
          · subst hdot
            have HR := Lib.hid (show (if k = 0 then some (L.drop a) else afterDot (L.drop a)) = some (L.drop (a + 1)) by rw [if_neg HK0.out, HX.out]; rfl)
            go_wp2
            go_loop [4, 8] (fun x y => ∃ (j v : Nat), x = .int .i64 (((a : Int) + 1) + (j : Int)) ∧ y = .int .i64 (v : Int) ∧ j ≤ 4 ∧ (a + 1) + j ≤ n ∧ v < 10000 ∧ Hid (v = valD ((L.drop (a + 1)).take j) ∧ ∀ x ∈ (L.drop (a + 1)).take j, isDig x = true)) (fun x _ => 4 + (n - (intOf x).toNat))
            case atStart => exact ⟨0, 0, by go_num, rfl, by omega, by omega, by omega, ⟨rfl, fun x hx => by simp at hx⟩⟩
            case round =>
              obtain ⟨j, v, rfl, rfl, hj, hjn, hv, HV⟩ := hrel
              by_cases hlt : (a + 1) + j < n
              · have hlt' : ((a : Int) + 1) + (j : Int) < (n : Int) := by omega
                by_cases hj4 : j < 4
                · have hj4' : ((a : Int) + 1) + (j : Int) - ((a : Int) + 1) < 4 := by omega
                  obtain ⟨c, hc⟩ := HAT.out ((a + 1) + j) hlt
                  have hix : ∀ w, (Instr.index 9 (.string s) (.int .i64 (((a : Int) + 1) + (j : Int)))).run Tryd.prog w = .ok (.int .u8 (c.toNat : Int)) w := HIX.out ((a + 1) + j) c hc
                  have hcl := c.toNat_lt
                  by_cases h48 : 48 ≤ c.toNat
                  · by_cases h57 : c.toNat ≤ 57
                    · have HV2 := Lib.hid (show 10 * v + (c.toNat - 48) = valD ((L.drop (a + 1)).take (j + 1)) ∧ ∀ x ∈ (L.drop (a + 1)).take (j + 1), isDig x = true from ⟨by rw [val_take _ j c (by rw [drop_at]; exact hc), HV.out.1], take_dig _ j c (by rw [drop_at]; exact hc) (by simp [isDig]; omega) HV.out.2⟩)
                      have hv2 : 10 * v + (c.toNat - 48) < 10000 := by
                        rw [HV2.out.1]
                        exact val_lt _ (j + 1) (by rw [List.length_take]; omega) HV2.out.2 (by omega)
                      clear hc
                      generalize c.toNat = C at *
                      go_wp2
                      go_round
                      case rel => exact ⟨j + 1, 10 * v + (C - 48), by go_num, by go_num, by omega, by omega, hv2, HV2⟩
                      case measure => simp [intOf]; omega
                    · have HEND := Lib.hid (run_end L (a + 1) j hj (by rw [HL.out]; exact hjn) HV.out.2 (.inr (.inr ⟨c, hc, by simp [isDig]; omega⟩)))
                      clear hc
                      generalize c.toNat = C at *
                      by_cases j0 : j = 0
                      · have j0' : ((((a : Int) + 1) + (j : Int)) == ((a : Int) + 1)) = true := by simp; omega
                        have J0 := Lib.hid j0
                        have HR2 := Lib.hid (HNO.out (by rw [HP.out]; exact parts_no k ip _ _ hk4 HR.out (num_none _ j v HEND.out.1 HEND.out.2 HV.out.1 (.inl J0.out))))
                        clear j0
                        go_wp2
                        go_ret2
                        exact ⟨by rw [HR2.out]; rfl, rfl⟩
                      · have j0' : ((((a : Int) + 1) + (j : Int)) == ((a : Int) + 1)) = false := by simp; omega
                        by_cases j1 : 1 < j
                        · have j1' : (1 : Int) < ((a : Int) + 1) + (j : Int) - ((a : Int) + 1) := by omega
                          obtain ⟨d, hd⟩ := HAT.out ((a + 1)) (by omega)
                          have hix0 : ∀ w, (Instr.index 9 (.string s) (.int .i64 (((a : Int) + 1)))).run Tryd.prog w = .ok (.int .u8 (d.toNat : Int)) w := HIX.out ((a + 1)) d hd
                          have HD := Lib.hid (show (L.drop ((a + 1)))[0]? = some d by rw [drop_at]; exact hd)
                          clear hd
                          by_cases d48 : d = 48
                          · subst d48
                            have HR2 := Lib.hid (HNO.out (by rw [HP.out]; exact parts_no k ip _ _ hk4 HR.out (num_none _ j v HEND.out.1 HEND.out.2 HV.out.1 (.inr (.inl ⟨j1, HD.out⟩)))))
                            go_wp2
                            go_ret2
                            exact ⟨by rw [HR2.out]; rfl, rfl⟩
                          · have d48' : ((d.toNat : Int) == 48) = false := by
                              simp only [beq_eq_false_iff_ne, ne_eq]
                              intro he
                              exact d48 (UInt8.toNat_inj.1 (by show d.toNat = 48; omega))
                            have HD8 := Lib.hid d48
                            clear d48
                            by_cases h255 : 255 < v
                            · have h255' : (255 : Int) < (v : Int) := by omega
                              have HR2 := Lib.hid (HNO.out (by rw [HP.out]; exact parts_no k ip _ _ hk4 HR.out (num_none _ j v HEND.out.1 HEND.out.2 HV.out.1 (.inr (.inr h255)))))
                              go_wp2
                              go_ret2
                              exact ⟨by rw [HR2.out]; rfl, rfl⟩
                            · have h255' : ¬ (255 : Int) < (v : Int) := by omega
                              have HN := Lib.hid (parts_num k ip v _ _ hk4 HR.out (num_some _ j v HEND.out.1 HEND.out.2 HV.out.1 (by omega) (.inr ⟨d, HD.out, HD8.out⟩) (by omega)))
                              go_wp2
                              go_round
                              case rel => exact ⟨(a + 1) + j, 256 * ip + v, k + 1, by go_num, by go_num, by go_num, by omega, by omega, by rw [HPS.out]; omega, Lib.hid (by rw [HP.out, HN.out, HEND.out.2, List.drop_drop])⟩
                              case measure => simp [intOf]; omega
                        · have j1' : ¬ (1 : Int) < ((a : Int) + 1) + (j : Int) - ((a : Int) + 1) := by omega
                          by_cases h255 : 255 < v
                          · have h255' : (255 : Int) < (v : Int) := by omega
                            have HR2 := Lib.hid (HNO.out (by rw [HP.out]; exact parts_no k ip _ _ hk4 HR.out (num_none _ j v HEND.out.1 HEND.out.2 HV.out.1 (.inr (.inr h255)))))
                            go_wp2
                            go_ret2
                            exact ⟨by rw [HR2.out]; rfl, rfl⟩
                          · have h255' : ¬ (255 : Int) < (v : Int) := by omega
                            have HN := Lib.hid (parts_num k ip v _ _ hk4 HR.out (num_some _ j v HEND.out.1 HEND.out.2 HV.out.1 (by omega) (.inl (by omega)) (by omega)))
                            go_wp2
                            go_round
                            case rel => exact ⟨(a + 1) + j, 256 * ip + v, k + 1, by go_num, by go_num, by go_num, by omega, by omega, by rw [HPS.out]; omega, Lib.hid (by rw [HP.out, HN.out, HEND.out.2, List.drop_drop])⟩
                            case measure => simp [intOf]; omega
                  · have HEND := Lib.hid (run_end L (a + 1) j hj (by rw [HL.out]; exact hjn) HV.out.2 (.inr (.inr ⟨c, hc, by simp [isDig]; omega⟩)))
                    clear hc
                    generalize c.toNat = C at *
                    by_cases j0 : j = 0
                    · have j0' : ((((a : Int) + 1) + (j : Int)) == ((a : Int) + 1)) = true := by simp; omega
                      have J0 := Lib.hid j0
                      have HR2 := Lib.hid (HNO.out (by rw [HP.out]; exact parts_no k ip _ _ hk4 HR.out (num_none _ j v HEND.out.1 HEND.out.2 HV.out.1 (.inl J0.out))))
                      clear j0
                      go_wp2
                      go_ret2
                      exact ⟨by rw [HR2.out]; rfl, rfl⟩
                    · have j0' : ((((a : Int) + 1) + (j : Int)) == ((a : Int) + 1)) = false := by simp; omega
                      by_cases j1 : 1 < j
                      · have j1' : (1 : Int) < ((a : Int) + 1) + (j : Int) - ((a : Int) + 1) := by omega
                        obtain ⟨d, hd⟩ := HAT.out ((a + 1)) (by omega)
                        have hix0 : ∀ w, (Instr.index 9 (.string s) (.int .i64 (((a : Int) + 1)))).run Tryd.prog w = .ok (.int .u8 (d.toNat : Int)) w := HIX.out ((a + 1)) d hd
                        have HD := Lib.hid (show (L.drop ((a + 1)))[0]? = some d by rw [drop_at]; exact hd)
                        clear hd
                        by_cases d48 : d = 48
                        · subst d48
                          have HR2 := Lib.hid (HNO.out (by rw [HP.out]; exact parts_no k ip _ _ hk4 HR.out (num_none _ j v HEND.out.1 HEND.out.2 HV.out.1 (.inr (.inl ⟨j1, HD.out⟩)))))
                          go_wp2
                          go_ret2
                          exact ⟨by rw [HR2.out]; rfl, rfl⟩
                        · have d48' : ((d.toNat : Int) == 48) = false := by
                            simp only [beq_eq_false_iff_ne, ne_eq]
                            intro he
                            exact d48 (UInt8.toNat_inj.1 (by show d.toNat = 48; omega))
                          have HD8 := Lib.hid d48
                          clear d48
                          by_cases h255 : 255 < v
                          · have h255' : (255 : Int) < (v : Int) := by omega
                            have HR2 := Lib.hid (HNO.out (by rw [HP.out]; exact parts_no k ip _ _ hk4 HR.out (num_none _ j v HEND.out.1 HEND.out.2 HV.out.1 (.inr (.inr h255)))))
                            go_wp2
                            go_ret2
                            exact ⟨by rw [HR2.out]; rfl, rfl⟩
                          · have h255' : ¬ (255 : Int) < (v : Int) := by omega
                            have HN := Lib.hid (parts_num k ip v _ _ hk4 HR.out (num_some _ j v HEND.out.1 HEND.out.2 HV.out.1 (by omega) (.inr ⟨d, HD.out, HD8.out⟩) (by omega)))
                            go_wp2
                            go_round
                            case rel => exact ⟨(a + 1) + j, 256 * ip + v, k + 1, by go_num, by go_num, by go_num, by omega, by omega, by rw [HPS.out]; omega, Lib.hid (by rw [HP.out, HN.out, HEND.out.2, List.drop_drop])⟩
                            case measure => simp [intOf]; omega
                      · have j1' : ¬ (1 : Int) < ((a : Int) + 1) + (j : Int) - ((a : Int) + 1) := by omega
                        by_cases h255 : 255 < v
                        · have h255' : (255 : Int) < (v : Int) := by omega
                          have HR2 := Lib.hid (HNO.out (by rw [HP.out]; exact parts_no k ip _ _ hk4 HR.out (num_none _ j v HEND.out.1 HEND.out.2 HV.out.1 (.inr (.inr h255)))))
                          go_wp2
                          go_ret2
                          exact ⟨by rw [HR2.out]; rfl, rfl⟩
                        · have h255' : ¬ (255 : Int) < (v : Int) := by omega
                          have HN := Lib.hid (parts_num k ip v _ _ hk4 HR.out (num_some _ j v HEND.out.1 HEND.out.2 HV.out.1 (by omega) (.inl (by omega)) (by omega)))
                          go_wp2
                          go_round
                          case rel => exact ⟨(a + 1) + j, 256 * ip + v, k + 1, by go_num, by go_num, by go_num, by omega, by omega, by rw [HPS.out]; omega, Lib.hid (by rw [HP.out, HN.out, HEND.out.2, List.drop_drop])⟩
                          case measure => simp [intOf]; omega
                · have hj4' : ¬ ((a : Int) + 1) + (j : Int) - ((a : Int) + 1) < 4 := by omega
                  have HEND := Lib.hid (run_end L (a + 1) j hj (by rw [HL.out]; exact hjn) HV.out.2 (.inr (.inl (by omega))))
                  by_cases j0 : j = 0
                  · have j0' : ((((a : Int) + 1) + (j : Int)) == ((a : Int) + 1)) = true := by simp; omega
                    have J0 := Lib.hid j0
                    omega
                  · have j0' : ((((a : Int) + 1) + (j : Int)) == ((a : Int) + 1)) = false := by simp; omega
                    by_cases j1 : 1 < j
                    · have j1' : (1 : Int) < ((a : Int) + 1) + (j : Int) - ((a : Int) + 1) := by omega
                      obtain ⟨d, hd⟩ := HAT.out ((a + 1)) (by omega)
                      have hix0 : ∀ w, (Instr.index 9 (.string s) (.int .i64 (((a : Int) + 1)))).run Tryd.prog w = .ok (.int .u8 (d.toNat : Int)) w := HIX.out ((a + 1)) d hd
                      have HD := Lib.hid (show (L.drop ((a + 1)))[0]? = some d by rw [drop_at]; exact hd)
                      clear hd
                      by_cases d48 : d = 48
                      · subst d48
                        have HR2 := Lib.hid (HNO.out (by rw [HP.out]; exact parts_no k ip _ _ hk4 HR.out (num_none _ j v HEND.out.1 HEND.out.2 HV.out.1 (.inr (.inl ⟨j1, HD.out⟩)))))
                        go_wp2
                        go_ret2
                        exact ⟨by rw [HR2.out]; rfl, rfl⟩
                      · have d48' : ((d.toNat : Int) == 48) = false := by
                          simp only [beq_eq_false_iff_ne, ne_eq]
                          intro he
                          exact d48 (UInt8.toNat_inj.1 (by show d.toNat = 48; omega))
                        have HD8 := Lib.hid d48
                        clear d48
                        by_cases h255 : 255 < v
                        · have h255' : (255 : Int) < (v : Int) := by omega
                          have HR2 := Lib.hid (HNO.out (by rw [HP.out]; exact parts_no k ip _ _ hk4 HR.out (num_none _ j v HEND.out.1 HEND.out.2 HV.out.1 (.inr (.inr h255)))))
                          go_wp2
                          go_ret2
                          exact ⟨by rw [HR2.out]; rfl, rfl⟩
                        · have h255' : ¬ (255 : Int) < (v : Int) := by omega
                          have HN := Lib.hid (parts_num k ip v _ _ hk4 HR.out (num_some _ j v HEND.out.1 HEND.out.2 HV.out.1 (by omega) (.inr ⟨d, HD.out, HD8.out⟩) (by omega)))
                          go_wp2
                          go_round
                          case rel => exact ⟨(a + 1) + j, 256 * ip + v, k + 1, by go_num, by go_num, by go_num, by omega, by omega, by rw [HPS.out]; omega, Lib.hid (by rw [HP.out, HN.out, HEND.out.2, List.drop_drop])⟩
                          case measure => simp [intOf]; omega
                    · have j1' : ¬ (1 : Int) < ((a : Int) + 1) + (j : Int) - ((a : Int) + 1) := by omega
                      by_cases h255 : 255 < v
                      · have h255' : (255 : Int) < (v : Int) := by omega
                        have HR2 := Lib.hid (HNO.out (by rw [HP.out]; exact parts_no k ip _ _ hk4 HR.out (num_none _ j v HEND.out.1 HEND.out.2 HV.out.1 (.inr (.inr h255)))))
                        go_wp2
                        go_ret2
                        exact ⟨by rw [HR2.out]; rfl, rfl⟩
                      · have h255' : ¬ (255 : Int) < (v : Int) := by omega
                        have HN := Lib.hid (parts_num k ip v _ _ hk4 HR.out (num_some _ j v HEND.out.1 HEND.out.2 HV.out.1 (by omega) (.inl (by omega)) (by omega)))
                        go_wp2
                        go_round
                        case rel => exact ⟨(a + 1) + j, 256 * ip + v, k + 1, by go_num, by go_num, by go_num, by omega, by omega, by rw [HPS.out]; omega, Lib.hid (by rw [HP.out, HN.out, HEND.out.2, List.drop_drop])⟩
                        case measure => simp [intOf]; omega
              · have hlt' : ¬ ((a : Int) + 1) + (j : Int) < (n : Int) := by omega
                have HEND := Lib.hid (run_end L (a + 1) j hj (by rw [HL.out]; exact hjn) HV.out.2 (.inl (by rw [HL.out]; omega)))
                by_cases j0 : j = 0
                · have j0' : ((((a : Int) + 1) + (j : Int)) == ((a : Int) + 1)) = true := by simp; omega
                  have J0 := Lib.hid j0
                  have HR2 := Lib.hid (HNO.out (by rw [HP.out]; exact parts_no k ip _ _ hk4 HR.out (num_none _ j v HEND.out.1 HEND.out.2 HV.out.1 (.inl J0.out))))
                  clear j0
                  go_wp2
                  go_ret2
                  exact ⟨by rw [HR2.out]; rfl, rfl⟩
                · have j0' : ((((a : Int) + 1) + (j : Int)) == ((a : Int) + 1)) = false := by simp; omega
                  by_cases j1 : 1 < j
                  · have j1' : (1 : Int) < ((a : Int) + 1) + (j : Int) - ((a : Int) + 1) := by omega
                    obtain ⟨d, hd⟩ := HAT.out ((a + 1)) (by omega)
                    have hix0 : ∀ w, (Instr.index 9 (.string s) (.int .i64 (((a : Int) + 1)))).run Tryd.prog w = .ok (.int .u8 (d.toNat : Int)) w := HIX.out ((a + 1)) d hd
                    have HD := Lib.hid (show (L.drop ((a + 1)))[0]? = some d by rw [drop_at]; exact hd)
                    clear hd
                    by_cases d48 : d = 48
                    · subst d48
                      have HR2 := Lib.hid (HNO.out (by rw [HP.out]; exact parts_no k ip _ _ hk4 HR.out (num_none _ j v HEND.out.1 HEND.out.2 HV.out.1 (.inr (.inl ⟨j1, HD.out⟩)))))
                      go_wp2
                      go_ret2
                      exact ⟨by rw [HR2.out]; rfl, rfl⟩
                    · have d48' : ((d.toNat : Int) == 48) = false := by
                        simp only [beq_eq_false_iff_ne, ne_eq]
                        intro he
                        exact d48 (UInt8.toNat_inj.1 (by show d.toNat = 48; omega))
                      have HD8 := Lib.hid d48
                      clear d48
                      by_cases h255 : 255 < v
                      · have h255' : (255 : Int) < (v : Int) := by omega
                        have HR2 := Lib.hid (HNO.out (by rw [HP.out]; exact parts_no k ip _ _ hk4 HR.out (num_none _ j v HEND.out.1 HEND.out.2 HV.out.1 (.inr (.inr h255)))))
                        go_wp2
                        go_ret2
                        exact ⟨by rw [HR2.out]; rfl, rfl⟩
                      · have h255' : ¬ (255 : Int) < (v : Int) := by omega
                        have HN := Lib.hid (parts_num k ip v _ _ hk4 HR.out (num_some _ j v HEND.out.1 HEND.out.2 HV.out.1 (by omega) (.inr ⟨d, HD.out, HD8.out⟩) (by omega)))
                        go_wp2
                        go_round
                        case rel => exact ⟨(a + 1) + j, 256 * ip + v, k + 1, by go_num, by go_num, by go_num, by omega, by omega, by rw [HPS.out]; omega, Lib.hid (by rw [HP.out, HN.out, HEND.out.2, List.drop_drop])⟩
                        case measure => simp [intOf]; omega
                  · have j1' : ¬ (1 : Int) < ((a : Int) + 1) + (j : Int) - ((a : Int) + 1) := by omega
                    by_cases h255 : 255 < v
                    · have h255' : (255 : Int) < (v : Int) := by omega
                      have HR2 := Lib.hid (HNO.out (by rw [HP.out]; exact parts_no k ip _ _ hk4 HR.out (num_none _ j v HEND.out.1 HEND.out.2 HV.out.1 (.inr (.inr h255)))))
                      go_wp2
                      go_ret2
                      exact ⟨by rw [HR2.out]; rfl, rfl⟩
                    · have h255' : ¬ (255 : Int) < (v : Int) := by omega
                      have HN := Lib.hid (parts_num k ip v _ _ hk4 HR.out (num_some _ j v HEND.out.1 HEND.out.2 HV.out.1 (by omega) (.inl (by omega)) (by omega)))
                      go_wp2
                      go_round
                      case rel => exact ⟨(a + 1) + j, 256 * ip + v, k + 1, by go_num, by go_num, by go_num, by omega, by omega, by rw [HPS.out]; omega, Lib.hid (by rw [HP.out, HN.out, HEND.out.2, List.drop_drop])⟩
                      case measure => simp [intOf]; omega
          · have hdot' : ((x.toNat : Int) == 46) = false := by
              simp only [beq_eq_false_iff_ne, ne_eq]
              intro he
              exact hdot (UInt8.toNat_inj.1 (by show x.toNat = 46; omega))
            have HR2 := Lib.hid (HNO.out (by rw [HP.out]; exact parts_dot k ip _ hk4 (by rw [if_neg HK0.out, HX.out]; exact if_neg hdot)))
            clear hdot
            generalize x.toNat = X at *
            have hdot2 : X ≠ 46 := by simp at hdot'; omega
            go_wp2
            go_ret2
            exact ⟨by rw [HR2.out]; rfl, rfl⟩
        · have hda' : (n : Int) ≤ (a : Int) := by omega
          have HR2 := Lib.hid (HNO.out (by rw [HP.out]; exact parts_dot k ip _ hk4 (by rw [if_neg HK0.out, List.drop_of_length_le (by rw [HL.out]; omega)]; rfl)))
          go_wp2
          go_ret2
          exact ⟨by rw [HR2.out]; rfl, rfl⟩
    · have hk44 : k = 4 := by omega
      subst hk44
      have hip' : ip < 4294967296 := hip
      clear hip
      by_cases hae : a = n
      · have hae' : ((a : Int) != (n : Int)) = false := by simp; omega
        have HR2 := Lib.hid (HYES.out ip (by rw [HP.out, List.drop_of_length_le (by rw [HL.out]; omega)]; rfl))
        have HAE := Lib.hid hae
        clear hae
        have hw32 : IntKind.wrap .u32 (ip : Int) = (ip : Int) := by rw [IntKind.wrap_u32]; omega
        go_wp2
        go_ret2
        exact ⟨by rw [HR2.out]; rfl, rfl⟩
      · have hae' : ((a : Int) != (n : Int)) = true := by simp; omega
        have HR2 := Lib.hid (HNO.out (by
          rw [HP.out]
          show partsM 0 ip (L.drop a) = none
          unfold partsM
          rw [if_neg (fun h => by
            have := congrArg List.length h
            rw [List.length_drop, HL.out] at this
            simp at this
            omega)]))
        go_wp2
        go_ret2
        exact ⟨by rw [HR2.out]; rfl, rfl⟩
end Go.Proofs.YtflhbidmjlfjkaaDoor
