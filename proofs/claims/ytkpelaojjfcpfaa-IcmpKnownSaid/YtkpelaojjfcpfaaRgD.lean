/- tollref06: contracts of number, Sum, lay, masked, digits. tollref06: contracts of masked, Has, digits, Text, PrefixText. tollref06: contracts of Text, PrefixText. tollref06: contract of options. -/
import Derived.Test.YtkpelaojjfcpfaaCur
import Derived.Test.YtkpelaojjfcpfaaInD
import Derived.Test.YtkpelaojjfcpfaaInV
import Derived.Test.YtkpelaojjfcpfaaUpto
import Derived.Deep.DeepCutAuto
namespace Go.Proofs.Ytkpelaojjfcpfaa
open Go.RowKit Go.Sort
set_option linter.unusedVariables false

theorem acc_two (l : List UInt8) (i : Nat) (hi : i % 2 = 0) (h : i + 1 < l.length) (a b : UInt8) (ha : l[i]? = some a) (hb : l[i + 1]? = some b) : accM (l.take (i + 2)) = addM (accM (l.take i)) (256 * a.toNat + b.toNat) := by
  have e : l.take (i + 2) = l.take i ++ [a, b] := by
    rw [show i + 2 = i + 1 + 1 from rfl, List.take_succ_eq_append_getElem h, List.take_succ_eq_append_getElem (by omega), List.append_assoc]
    rw [List.getElem?_eq_getElem (by omega)] at ha hb
    simp at ha hb
    rw [ha, hb]
    rfl
  unfold accM
  rw [e, wordsM_app _ _ (by rw [List.length_take]; omega), List.foldl_append]
  rfl
theorem acc_one (l : List UInt8) (i : Nat) (hi : i % 2 = 0) (h : i + 1 = l.length) (a : UInt8) (ha : l[i]? = some a) : accM (l.take (i + 2)) = addM (accM (l.take i)) (256 * a.toNat) := by
  have e : l.take (i + 2) = l.take i ++ [a] := by
    rw [List.take_of_length_le (by omega)]
    have := List.take_succ_eq_append_getElem (l := l) (i := i) (by omega)
    rw [List.take_of_length_le (by omega)] at this
    rw [List.getElem?_eq_getElem (by omega)] at ha
    simp at ha
    rw [ha] at this
    exact this
  unfold accM
  rw [e, wordsM_app _ _ (by rw [List.length_take]; omega), List.foldl_append]
  rfl
set_option maxHeartbeats 1000000 in
theorem gsum_yes (A : Option Addr) (n c : Nat) (l : List UInt8) (w : World) (h : Byt w A n c l) (hn : n ≤ 1099511627776) : Calls Try.prog 27 #[.slice A n c] w fun e w' => e = .returned (.int .u16 (sumM l : Int)) ∧ w = w' := by
  have hnc := h.2.1
  have hcc := h.2.2.1
  have HL := Lib.hid h.1
  have HB := Lib.hid h
  clear h
  go_enter Try.func27, Try.ntmps27
  go_wp2
  go_loop [3, 4] (fun t i => ∃ k : Nat, k ≤ n + 1 ∧ k % 2 = 0 ∧ i = .int .i64 (k : Int) ∧ t = .int .i64 (accM (l.take k) : Int)) (fun _ i => n + 2 - (intOf i).toNat)
  case atStart => exact ⟨0, Nat.zero_le _, rfl, rfl, rfl⟩
  case round =>
    obtain ⟨k, hk, hk2, rfl, rfl⟩ := hrel
    have hle := accM_le (l.take k)
    by_cases hlt : k < n
    · have hkl : k < l.length := by rw [HL.out]; exact hlt
      obtain ⟨b, o, rfl, hcell⟩ := HB.out.at (i := k) hkl
      obtain ⟨x, hx⟩ : ∃ x, l[k] = x := ⟨_, rfl⟩
      have hx? : l[k]? = some x := by rw [List.getElem?_eq_getElem hkl, hx]
      have hxl := x.toNat_lt
      rw [hx] at hcell
      by_cases hlt2 : k + 1 < n
      · obtain ⟨y, hy⟩ : ∃ y, l[k + 1]? = some y := ⟨l[k + 1]'(by rw [HL.out]; exact hlt2), List.getElem?_eq_getElem _⟩
        have hcy := byt_ge HB.out (k + 1) y hy
        have hyl := y.toNat_lt
        have HS := Lib.hid (acc_two l k hk2 (by rw [HL.out]; exact hlt2) x y hx? hy)
        generalize accM (l.take k) = N at *
        have hlt2' : (k : Int) + 1 < (n : Int) := by omega
        clear hx hx? hy
        by_cases hbig : 65535 < N + (256 * x.toNat + y.toNat)
        · have HA := Lib.hid (show addM N (256 * x.toNat + y.toNat) = N + (256 * x.toNat + y.toNat) - 65535 by unfold addM; rw [if_pos hbig])
          have hbig' : (65535 : Int) < (N : Int) + (256 * (x.toNat : Int) + (y.toNat : Int)) := by omega
          go_wp2
          go_round
          case rel => exact ⟨k + 2, by omega, by omega, by go_num, by rw [HS.out, HA.out]; go_num⟩
          case measure => simp [intOf]; omega
        · have HA := Lib.hid (show addM N (256 * x.toNat + y.toNat) = N + (256 * x.toNat + y.toNat) by unfold addM; rw [if_neg hbig])
          have hbig' : ¬ (65535 : Int) < (N : Int) + (256 * (x.toNat : Int) + (y.toNat : Int)) := by omega
          go_wp2
          go_round
          case rel => exact ⟨k + 2, by omega, by omega, by go_num, by rw [HS.out, HA.out]; go_num⟩
          case measure => simp [intOf]; omega
      · have HS := Lib.hid (acc_one l k hk2 (by rw [HL.out]; omega) x hx?)
        generalize accM (l.take k) = N at *
        have hlt2' : ¬ (k : Int) + 1 < (n : Int) := by omega
        clear hx hx?
        by_cases hbig : 65535 < N + 256 * x.toNat
        · have HA := Lib.hid (show addM N (256 * x.toNat) = N + 256 * x.toNat - 65535 by unfold addM; rw [if_pos hbig])
          have hbig' : (65535 : Int) < (N : Int) + 256 * (x.toNat : Int) := by omega
          go_wp2
          go_round
          case rel => exact ⟨k + 2, by omega, by omega, by go_num, by rw [HS.out, HA.out]; go_num⟩
          case measure => simp [intOf]; omega
        · have HA := Lib.hid (show addM N (256 * x.toNat) = N + 256 * x.toNat by unfold addM; rw [if_neg hbig])
          have hbig' : ¬ (65535 : Int) < (N : Int) + 256 * (x.toNat : Int) := by omega
          go_wp2
          go_round
          case rel => exact ⟨k + 2, by omega, by omega, by go_num, by rw [HS.out, HA.out]; go_num⟩
          case measure => simp [intOf]; omega
    · have ht : l.take k = l := by rw [List.take_of_length_le]; rw [HL.out]; omega
      rw [ht] at hle ⊢
      have HSM := Lib.hid (show ((sumM l : Nat) : Int) = 65535 - (accM l : Int) by unfold sumM; omega)
      generalize accM l = f at *
      clear ht
      go_wp2
      go_ret
      exact ⟨by rw [HSM.out]; rfl, rfl⟩
end Go.Proofs.Ytkpelaojjfcpfaa
namespace Go.Proofs.Ytkpelaojjfcpfaa
open Go.RowKit Go.Sort
set_option linter.unusedVariables false

theorem mask_step (ip j : Nat) : ip / 2 ^ j * 2 ^ j - (if ip / 2 ^ j % 2 = 1 then 2 ^ j else 0) = ip / 2 ^ (j + 1) * 2 ^ (j + 1) := by
  have e : ip / 2 ^ (j + 1) = ip / 2 ^ j / 2 := by rw [Nat.pow_succ, Nat.div_div_eq_div_mul]
  rw [e, Nat.pow_succ]
  generalize ip / 2 ^ j = Q
  generalize 2 ^ j = P
  have h := Nat.div_add_mod Q 2
  rcases Nat.mod_two_eq_zero_or_one Q with h0 | h0
  · rw [if_neg (by omega), Nat.sub_zero, Nat.mul_comm P 2, ← Nat.mul_assoc]
    congr 1
    omega
  · rw [if_pos h0, Nat.mul_comm P 2, ← Nat.mul_assoc]
    have : Q = Q / 2 * 2 + 1 := by omega
    conv => lhs; rw [this]
    rw [Nat.add_mul, Nat.one_mul, Nat.add_sub_cancel]
/-- Digits, from the end. -/
theorem dig_ten (n : Nat) (h : n < 10) : digM n = [UInt8.ofNat (48 + n)] := by unfold digM; rw [if_pos h]
theorem dig_more (n : Nat) (h : 10 ≤ n) (h2 : n < 1000) : digM n = digM (n / 10) ++ [UInt8.ofNat (48 + n % 10)] := by
  unfold digM
  rw [if_neg (by omega)]
  by_cases h3 : n < 100
  · rw [if_pos h3, if_pos (by omega)]
    rfl
  · rw [if_neg h3, if_neg (by omega), if_pos (by omega), show n / 10 / 10 = n / 100 by omega]
    rfl
theorem str_app (a b : List UInt8) : (⟨a.toArray⟩ : ByteArray) ++ ⟨b.toArray⟩ = ⟨(a ++ b).toArray⟩ := by
  apply ByteArray.ext
  simp [ByteArray.data_append]
/-- What stands before the digits that have been told. -/
def tailD : Nat → Nat → List UInt8
  | 0, _ => []
  | j + 1, n => tailD j (n / 10) ++ [UInt8.ofNat (48 + n % 10)]
end Go.Proofs.Ytkpelaojjfcpfaa
namespace Go.Proofs.Ytkpelaojjfcpfaa
open Go.RowKit Go.Sort
set_option linter.unusedVariables false

theorem dig_len (n : Nat) : (digM n).length ≤ 3 := by unfold digM; split; simp; split <;> simp
theorem bs_size (l : List UInt8) : (⟨l.toArray⟩ : ByteArray).size = l.length := rfl
theorem text_len (ip : Nat) : (textM ip).length ≤ 15 := by
  unfold textM
  have h1 := dig_len (ip / 16777216)
  have h2 := dig_len (ip / 65536 % 256)
  have h3 := dig_len (ip / 256 % 256)
  have h4 := dig_len (ip % 256)
  simp only [List.length_append, List.length_cons]
  omega
end Go.Proofs.Ytkpelaojjfcpfaa
namespace Go.Proofs.Ytkpelaojjfcpfaa
open Go.RowKit Go.Sort
set_option linter.unusedVariables false

theorem opts_fuel (f g : Nat) (l : List UInt8) (hf : l.length ≤ f) (hg : l.length ≤ g) : optsGo f l = optsGo g l := by
  induction f generalizing g l with
  | zero =>
    have : l = [] := List.eq_nil_of_length_eq_zero (by omega)
    subst this
    cases g <;> rfl
  | succ f ih =>
    cases l with
    | nil => cases g <;> rfl
    | cons a r =>
      cases g with
      | zero => simp at hg
      | succ g =>
        simp only [List.length_cons] at hf hg
        unfold optsGo
        split
        · rfl
        · split
          · exact ih g r (by omega) (by omega)
          · split
            · rfl
            · rename_i b r2
              split
              · rfl
              · rename_i hb
                refine ih g _ ?_ ?_ <;> (rw [List.length_drop, List.length_cons]; omega)
/-- What is left of a list, element by element. -/
theorem drop_cons {l : List UInt8} {k : Nat} {x : UInt8} (h : l[k]? = some x) : l.drop k = x :: l.drop (k + 1) := by
  obtain ⟨hk, rfl⟩ := List.getElem?_eq_some_iff.1 h
  exact List.drop_eq_getElem_cons hk
theorem opts_zero (l : List UInt8) (n k : Nat) (hl : l.length = n) (hk : k < n) (h : l[k]? = some 0) : optsGo (n - k) (l.drop k) = true := by
  rw [drop_cons h, show n - k = (n - k - 1) + 1 by omega]
  rfl
theorem opts_one (l : List UInt8) (n k : Nat) (hl : l.length = n) (hk : k < n) (h : l[k]? = some 1) : optsGo (n - k) (l.drop k) = optsGo (n - (k + 1)) (l.drop (k + 1)) := by
  rw [drop_cons h, show n - k = (n - (k + 1)) + 1 by omega]
  rfl
theorem opts_last (l : List UInt8) (n k : Nat) (x : UInt8) (hl : l.length = n) (hk : k + 1 = n) (h : l[k]? = some x) (h0 : x ≠ 0) (h1 : x ≠ 1) : optsGo (n - k) (l.drop k) = false := by
  rw [drop_cons h, List.drop_of_length_le (by omega), show n - k = 0 + 1 by omega]
  unfold optsGo
  rw [if_neg h0, if_neg h1]
theorem opts_step (f : Nat) (a b : UInt8) (r : List UInt8) (h0 : a ≠ 0) (h1 : a ≠ 1) : optsGo (f + 1) (a :: b :: r) = if b.toNat < 2 ∨ (b :: r).length + 1 < b.toNat then false else optsGo f ((a :: b :: r).drop b.toNat) := by
  show (if a = 0 then true else if a = 1 then optsGo f (b :: r) else _) = _
  rw [if_neg h0, if_neg h1]
theorem opts_more (l : List UInt8) (n k : Nat) (x y : UInt8) (hl : l.length = n) (hk : k + 1 < n) (h : l[k]? = some x) (hy : l[k + 1]? = some y) (h0 : x ≠ 0) (h1 : x ≠ 1) : optsGo (n - k) (l.drop k) = if y.toNat < 2 ∨ n < k + y.toNat then false else optsGo (n - (k + y.toNat)) (l.drop (k + y.toNat)) := by
  have hlen : (l.drop (k + 1)).length = n - k - 1 := by rw [List.length_drop]; omega
  have e2 := drop_cons hy
  have e1 := drop_cons h
  rw [show n - k = (n - k - 1) + 1 by omega, e1, e2, opts_step _ _ _ _ h0 h1, ← e2, hlen, ← e1, List.drop_drop]
  by_cases hc : y.toNat < 2 ∨ n < k + y.toNat
  · rw [if_pos hc, if_pos (show y.toNat < 2 ∨ n - k - 1 + 1 < y.toNat by omega)]
  · rw [if_neg hc, if_neg (show ¬ (y.toNat < 2 ∨ n - k - 1 + 1 < y.toNat) by omega)]
    refine opts_fuel _ _ _ ?_ ?_ <;> (rw [List.length_drop]; omega)
end Go.Proofs.Ytkpelaojjfcpfaa
