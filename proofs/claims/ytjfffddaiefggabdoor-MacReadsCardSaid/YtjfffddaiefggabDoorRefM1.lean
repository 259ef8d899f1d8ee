/- The reference's digit, Parse: what they come to. -/
import Derived.Test.YtjfffddaiefggabDoorMacS
import Derived.Test.YtjfffddaiefggabDoorMacC
namespace Go.Proofs.YtjfffddaiefggabDoor
open Go.RowKit
set_option linter.unusedVariables false

/-- A hex digit's number; 16: it is none. -/
def dg (c : UInt8) : Nat := if 48 ≤ c.toNat ∧ c.toNat ≤ 57 then c.toNat - 48 else if 97 ≤ c.toNat ∧ c.toNat ≤ 102 then c.toNat - 87 else if 65 ≤ c.toNat ∧ c.toNat ≤ 70 then c.toNat - 55 else 16
def hexU (x : Nat) : UInt8 := ([48, 49, 50, 51, 52, 53, 54, 55, 56, 57, 65, 66, 67, 68, 69, 70] : List UInt8).getD x 0
theorem dg_low : ∀ k : Fin 16, dg (hexd k.val) = k.val ∧ dg (hexU k.val) = k.val := by decide +kernel
theorem dg_all : ∀ c : Fin 256, dg (UInt8.ofNat c.val) < 16 → hexd (dg (UInt8.ofNat c.val)) = UInt8.ofNat c.val ∨ hexU (dg (UInt8.ofNat c.val)) = UInt8.ofNat c.val := by decide +kernel
theorem dg_digv : ∀ c : Fin 256, (digv (UInt8.ofNat c.val) < 16 ∧ dg (UInt8.ofNat c.val) = digv (UInt8.ofNat c.val)) ∨ (16 ≤ digv (UInt8.ofNat c.val) ∧ dg (UInt8.ofNat c.val) = 16) := by decide +kernel
theorem of_self (c : UInt8) : UInt8.ofNat c.toNat = c := by simp
theorem dg_none (c : UInt8) (h : ∀ j, j < 16 → hexd j ≠ c ∧ hexU j ≠ c) : dg c = 16 := by
  have := dg_all ⟨c.toNat, c.toNat_lt⟩
  simp only [of_self] at this
  by_cases hlt : dg c < 16
  · rcases this hlt with h1 | h1
    · exact absurd h1 (h _ hlt).1
    · exact absurd h1 (h _ hlt).2
  · have : dg c ≤ 16 := by unfold dg; split <;> (try split) <;> (try split) <;> omega
    omega
theorem dg_le (c : UInt8) : dg c ≤ 16 := by unfold dg; split <;> (try split) <;> (try split) <;> omega
theorem num2 (c d : UInt8) : numB 16 0 [c, d] = if dg c < 16 ∧ dg d < 16 then some (dg c * 16 + dg d) else none := by
  have h1 := dg_digv ⟨c.toNat, c.toNat_lt⟩
  have h2 := dg_digv ⟨d.toNat, d.toNat_lt⟩
  simp only [of_self] at h1 h2
  simp only [numB]
  rcases h1 with ⟨a, b⟩ | ⟨a, b⟩
  · rcases h2 with ⟨a', b'⟩ | ⟨a', b'⟩
    · rw [if_pos a, if_pos a', if_pos ⟨by omega, by omega⟩, b, b']
      simp
    · rw [if_pos a, if_neg (by omega), if_neg (by omega)]
  · rw [if_neg (by omega), if_neg (by omega)]
theorem lowI (k : Nat) (hk : k < 16) (w : World) : (Instr.index 9 (.string ⟨#[48, 49, 50, 51, 52, 53, 54, 55, 56, 57, 97, 98, 99, 100, 101, 102]⟩) (.int .i64 (k : Int))).run Tryd.prog w = .ok (.int .u8 ((hexd k).toNat : Int)) w :=
  idxS _ k _ ((by decide +kernel : ∀ k : Fin 16, ([48, 49, 50, 51, 52, 53, 54, 55, 56, 57, 97, 98, 99, 100, 101, 102] : List UInt8)[k.val]? = some (hexd k.val)) ⟨k, hk⟩) w
theorem uppI (k : Nat) (hk : k < 16) (w : World) : (Instr.index 9 (.string ⟨#[48, 49, 50, 51, 52, 53, 54, 55, 56, 57, 65, 66, 67, 68, 69, 70]⟩) (.int .i64 (k : Int))).run Tryd.prog w = .ok (.int .u8 ((hexU k).toNat : Int)) w :=
  idxS _ k _ ((by decide +kernel : ∀ k : Fin 16, ([48, 49, 50, 51, 52, 53, 54, 55, 56, 57, 65, 66, 67, 68, 69, 70] : List UInt8)[k.val]? = some (hexU k.val)) ⟨k, hk⟩) w
theorem ret_i64 {a b : Int} (h : a = b) : Ending.returned (.int .i64 a) = .returned (.int .i64 b) := by rw [h]
set_option maxHeartbeats 2000000 in
set_option maxRecDepth 100000 in
theorem digit_any (c : UInt8) (w : World) : Calls Tryd.prog 38 #[.int .u8 (c.toNat : Int)] w fun r w' => r = .returned (.int .i64 (dg c : Int)) ∧ w = w' := by
  go_enter Tryd.func38, Tryd.ntmps38
  go_wp2
  go_loop [3] (fun i => ∃ k : Nat, k ≤ 16 ∧ i = .int .i64 k ∧ Hid (∀ j, j < k → hexd j ≠ c ∧ hexU j ≠ c)) (fun i => 16 - (intOf i).toNat)
  case atStart => exact ⟨0, by omega, rfl, fun j hj => absurd hj (by omega)⟩
  case round =>
    obtain ⟨k, hk, rfl, hh⟩ := hrel
    by_cases hlt : k < 16
    · have il := lowI k hlt
      have iu := uppI k hlt
      have hd := dg_low ⟨k, hlt⟩
      simp only at hd
      by_cases h1 : hexd k = c
      · have HE := Lib.hid (show dg c = k by rw [← h1]; exact hd.1)
        have hb : (((hexd k).toNat : Int) == (c.toNat : Int)) = true := by rw [h1]; simp
        clear hd h1
        go_wp2
        go_ret
        exact ⟨ret_i64 (by rw [HE.out]), rfl⟩
      · have hb : (((hexd k).toNat : Int) == (c.toNat : Int)) = false := by
          rw [beq_eq_false_iff_ne]; intro h; exact h1 (UInt8.toNat_inj.1 (by omega))
        by_cases h2 : hexU k = c
        · have HE := Lib.hid (show dg c = k by rw [← h2]; exact hd.2)
          have hb2 : (((hexU k).toNat : Int) == (c.toNat : Int)) = true := by rw [h2]; simp
          clear hd h1 h2
          go_wp2
          go_ret
          exact ⟨ret_i64 (by rw [HE.out]), rfl⟩
        · have hb2 : (((hexU k).toNat : Int) == (c.toNat : Int)) = false := by
            rw [beq_eq_false_iff_ne]; intro h; exact h2 (UInt8.toNat_inj.1 (by omega))
          have HN := Lib.hid (And.intro h1 h2)
          clear hd h1 h2
          go_wp2
          go_round
          case rel => exact ⟨k + 1, by omega, by go_num, fun j hj => by
            by_cases hjk : j = k
            · subst hjk; exact HN.out
            · exact hh.out j (by omega)⟩
          case measure => simp [intOf]; omega
    · obtain rfl : k = 16 := by omega
      have HE := Lib.hid (dg_none c hh.out)
      go_wp2
      go_ret
      exact ⟨by rw [HE.out]; rfl, rfl⟩

/-- Position i of a text is no address's. -/
def bad (l : List UInt8) (i : Nat) : Prop := if i % 3 = 2 then l.getD i 0 ≠ 58 else dg (l.getD i 0) = 16
/-- The bytes after i positions. -/
def mst (l : List UInt8) : Nat → List UInt8
  | 0 => [0, 0, 0, 0, 0, 0]
  | i + 1 => if i % 3 = 2 then mst l i else (mst l i).set (i / 3) (UInt8.ofNat (((mst l i).getD (i / 3) 0).toNat * 16 + dg (l.getD i 0)))
theorem mst_len (l : List UInt8) : ∀ i, (mst l i).length = 6
  | 0 => rfl
  | i + 1 => by
    unfold mst
    split
    · exact mst_len l i
    · rw [List.length_set]; exact mst_len l i
theorem two_of (l : List UInt8) (k : Nat) (h : k + 1 < l.length) : (l.drop k).take 2 = [l.getD k 0, l.getD (k + 1) 0] := by
  have e1 := List.drop_eq_getElem_cons (l := l) (i := k) (by omega)
  have e2 := List.drop_eq_getElem_cons (l := l) (i := k + 1) h
  rw [e1, e2]
  simp only [List.take_succ_cons, List.take_zero]
  rw [List.getD_eq_getElem?_getD, List.getD_eq_getElem?_getD, List.getElem?_eq_getElem h, List.getElem?_eq_getElem (show k < l.length by omega)]
  rfl
theorem pst_eq (l : List UInt8) (k : Nat) (h : 3 * k + 1 < l.length) : pst l k = if 0 < k ∧ l.getD (3 * k - 1) 0 ≠ 58 then none else if dg (l.getD (3 * k) 0) < 16 ∧ dg (l.getD (3 * k + 1) 0) < 16 then some (UInt8.ofNat (dg (l.getD (3 * k) 0) * 16 + dg (l.getD (3 * k + 1) 0))) else none := by
  unfold pst
  rw [two_of l (3 * k) h, num2]
  split
  · rfl
  · split <;> rfl
theorem ref_bad (l : List UInt8) (hl : l.length = 17) (i : Nat) (hi : i < 17) (h : bad l i) : prs l = none := by
  unfold bad at h
  by_cases h3 : i % 3 = 2
  · rw [if_pos h3] at h
    refine prs_dead l ((i + 1) / 3) (by omega) ?_
    rw [pst_eq l _ (by omega), if_pos ⟨by omega, by rw [show 3 * ((i + 1) / 3) - 1 = i by omega]; exact h⟩]
  · rw [if_neg h3] at h
    refine prs_dead l (i / 3) (by omega) ?_
    rw [pst_eq l _ (by omega)]
    split
    · rfl
    · rw [if_neg]
      rintro ⟨h1, h2⟩
      rcases (show i = 3 * (i / 3) ∨ i = 3 * (i / 3) + 1 by omega) with e | e
      · rw [← e] at h1; omega
      · rw [← e] at h2; omega
theorem half (d : Nat) (h : d ≤ 16) : (UInt8.ofNat ((0 : UInt8).toNat * 16 + d)).toNat = d := by
  rw [UInt8.toNat_ofNat']
  have : (0 : UInt8).toNat = 0 := rfl
  rw [this]
  omega
theorem ref_good (l : List UInt8) (hl : l.length = 17) (h : ∀ i, i < 17 → ¬ bad l i) : prs l = some (mst l 17) := by
  have hd : ∀ i, i < 17 → i % 3 ≠ 2 → dg (l.getD i 0) < 16 := fun i hi h3 => by
    have := h i hi
    unfold bad at this
    rw [if_neg h3] at this
    have := dg_le (l.getD i 0)
    omega
  have hc : ∀ i, i < 17 → i % 3 = 2 → l.getD i 0 = 58 := fun i hi h3 => by
    have := h i hi
    unfold bad at this
    rw [if_pos h3] at this
    exact Decidable.not_not.1 this
  have hp : ∀ k, k < 6 → pst l k = some (UInt8.ofNat (dg (l.getD (3 * k) 0) * 16 + dg (l.getD (3 * k + 1) 0))) := fun k hk => by
    rw [pst_eq l k (by omega), if_neg, if_pos ⟨hd _ (by omega) (by omega), hd _ (by omega) (by omega)⟩]
    rintro ⟨h1, h2⟩
    exact h2 (hc _ (by omega) (by omega))
  unfold prs
  rw [if_pos hl]
  have e0 := hp 0 (by omega)
  have e1 := hp 1 (by omega)
  have e2 := hp 2 (by omega)
  have e3 := hp 3 (by omega)
  have e4 := hp 4 (by omega)
  have e5 := hp 5 (by omega)
  simp only [Nat.reduceMul, Nat.reduceAdd] at e0 e1 e2 e3 e4 e5
  have hq : pfx l 6 = some [UInt8.ofNat (dg (l.getD 0 0) * 16 + dg (l.getD 1 0)), UInt8.ofNat (dg (l.getD 3 0) * 16 + dg (l.getD 4 0)), UInt8.ofNat (dg (l.getD 6 0) * 16 + dg (l.getD 7 0)), UInt8.ofNat (dg (l.getD 9 0) * 16 + dg (l.getD 10 0)), UInt8.ofNat (dg (l.getD 12 0) * 16 + dg (l.getD 13 0)), UInt8.ofNat (dg (l.getD 15 0) * 16 + dg (l.getD 16 0))] := by
    simp [pfx, e0, e1, e2, e3, e4, e5]
  rw [hq]
  have g : ∀ i, dg (l.getD i 0) ≤ 16 := fun i => dg_le _
  generalize hD : (fun i => dg (l.getD i 0)) = D
  have hD' : ∀ i, dg (l.getD i 0) = D i := fun i => by rw [← hD]
  simp only [hD'] at g ⊢
  have hm : mst l 17 = [UInt8.ofNat (D 0 * 16 + D 1), UInt8.ofNat (D 3 * 16 + D 4), UInt8.ofNat (D 6 * 16 + D 7), UInt8.ofNat (D 9 * 16 + D 10), UInt8.ofNat (D 12 * 16 + D 13), UInt8.ofNat (D 15 * 16 + D 16)] := by
    have f0 := half (D 0) (g 0)
    have f3 := half (D 3) (g 3)
    have f6 := half (D 6) (g 6)
    have f9 := half (D 9) (g 9)
    have f12 := half (D 12) (g 12)
    have f15 := half (D 15) (g 15)
    simp only [mst, hD', Nat.reduceMod, Nat.reduceDiv, Nat.reduceEqDiff, Nat.zero_mod, Nat.zero_div, if_true, if_false, List.set_cons_zero, List.set_cons_succ, List.getD_cons_zero, List.getD_cons_succ, f0, f3, f6, f9, f12, f15, reduceIte]
  rw [hm]
end Go.Proofs.YtjfffddaiefggabDoor
