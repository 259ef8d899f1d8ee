/- Texts that belong together, one behind the other: BpF, BpO. Conditions: those of each. -/
import Derived.Test.YtbkjobmjapbmpaaMg12
import Derived.Test.YtbkjobmjapbmpaaMg13
import Derived.Test.YtbkjobmjapbmpaaMg17
/- tolllaw10: the rows (tells), sign. -/
namespace Go.Proofs.Ytbkjobmjapbmpaa
open Go.RowKit Go.Sort
set_option linter.unusedVariables false

def bxC : Bp := ⟨1, 0, 0, 0, 0, 0, 0, 1, 0, 0⟩
def bxR : Bp := ⟨3, 0, 0, 0, 0, 0, 0, 1, 0, 0⟩
theorem bxC_ok : bxC.ok := ⟨by decide, by decide, by decide, by decide, by decide, by decide, by decide, by decide, by decide, by decide, by decide⟩
theorem bxR_ok : bxR.ok := ⟨by decide, by decide, by decide, by decide, by decide, by decide, by decide, by decide, by decide, by decide, by decide⟩
theorem bx_chg : putB Bp.chg = ([0, 0, 0, 128], 0) := by decide +kernel
theorem bx_c : (putB bxC).1.length = 35 ∧ (putB bxC).2 = 0 := by decide +kernel
theorem bx_r : (putB bxR).1.length = 36 ∧ (putB bxR).2 = 0 := by decide +kernel
set_option maxRecDepth 100000 in
set_option maxHeartbeats 2000000 in
theorem rows_yes (w : World) : Calls Try.prog 19 #[] w fun e w' => e = .returned (.bool true) ∧ Kept Nil w w' := by
  go_enter Try.func19, Try.ntmps19
  go_wp2_with (fail)
  refine (put_yes Bp.chg Bp.chg_ok _).mono ?_
  rintro e w1 ⟨v1, rfl, hm⟩
  rw [bx_chg] at hm ⊢
  obtain ⟨A1, c1, rfl, hy1, -⟩ := byt_own hm
  have HY := Lib.hid hy1
  have HK := Lib.hid hm.2
  clear hm hy1
  go_wp2_with (fail)
  refine (put_yes bxC bxC_ok _).mono ?_
  rintro e w2 ⟨v2, rfl, hm⟩
  rw [bx_c.2]
  obtain ⟨A2, c2, rfl, hy2, -⟩ := byt_own hm
  rw [bx_c.1]
  have HY := Lib.hid (HY.out.kept hm.2 (fun _ _ hf => hf))
  have HK := Lib.hid (HK.out.then hm.2)
  clear hm hy2
  go_wp2_with (fail)
  refine (put_yes bxR bxR_ok _).mono ?_
  rintro e w3 ⟨v3, rfl, hm⟩
  rw [bx_r.2]
  obtain ⟨A3, c3, rfl, hy3, -⟩ := byt_own hm
  rw [bx_r.1]
  have HY := Lib.hid (HY.out.kept hm.2 (fun _ _ hf => hf))
  have HK := Lib.hid (HK.out.then hm.2)
  clear hm hy3
  have ht : (convert 31 9 (.slice A1 4 c1)).run Try.prog w3 = .ok (.string ⟨#[0, 0, 0, 128]⟩) w3 := HY.out.text (P := Try.prog) Try.underlying31 Try.underlying5 Try.underlying9
  go_wp2_with (fail)
  go_ret
  exact ⟨rfl, HK.out⟩
/-- sign: -1, 0, 1. -/
def sgn (x : Int) : Int := if x < 0 then -1 else if 0 < x then 1 else 0
theorem sgn_is (x : Int) : max (-1) (min x 1) = sgn x := by unfold sgn; omega
theorem sign_yes (x : Int) (w : World) : Calls Try.prog 13 #[.int .i64 x] w fun e w' => e = .returned (.int .i64 (sgn x)) ∧ Kept Nil w w' := by
  have hs := sgn_is x
  have HS := Lib.hid hs
  clear hs
  go_enter Try.func13, Try.ntmps13
  go_wp2_with (fail)
  all_goals (go_ret; refine ⟨?_, Kept.refl Nil w⟩; show Ending.returned (.int .i64 _) = _; congr 2; unfold sgn; (repeat' split) <;> omega)
end Go.Proofs.Ytbkjobmjapbmpaa
/- Package bpdu: Compare as an order of numbers. -/
namespace Go.Proofs.Ytbkjobmjapbmpaa
open Go.RowKit Go.Sort
set_option linter.unusedVariables false

theorem cmp1_lex (x y r s N : Nat) (hr : r < N) (hs : s < N) : (if cmp1 x y = 0 then cmp1 r s else cmp1 x y) = cmp1 (x * N + r) (y * N + s) := by
  rcases Nat.lt_trichotomy x y with h | h | h
  · have h1 : cmp1 x y = -1 := by unfold cmp1; rw [if_pos h]
    have h2 : (x + 1) * N ≤ y * N := Nat.mul_le_mul_right N h
    rw [Nat.add_mul] at h2
    rw [h1, if_neg (by decide)]
    unfold cmp1
    rw [if_pos (by omega)]
  · subst h
    have h1 : cmp1 x x = 0 := by unfold cmp1; rw [if_neg (Nat.lt_irrefl _), if_neg (Nat.lt_irrefl _)]
    rw [h1, if_pos rfl]
    unfold cmp1
    congr 1
    · simp
    · congr 1
      simp
  · have h1 : cmp1 x y = 1 := by unfold cmp1; rw [if_neg (by omega), if_pos h]
    have h2 : (y + 1) * N ≤ x * N := Nat.mul_le_mul_right N h
    rw [Nat.add_mul] at h2
    rw [h1, if_neg (by decide)]
    unfold cmp1
    rw [if_neg (by omega), if_pos (by omega)]
def keyB (m : Bp) : Nat := ((m.ro * 4294967296 + m.co) * 18446744073709551616 + m.br) * 65536 + m.po
theorem or4 (a b c d : Int) : orI [a, b, c, d] = (if (if (if a = 0 then b else a) = 0 then c else (if a = 0 then b else a)) = 0 then d else (if (if a = 0 then b else a) = 0 then c else (if a = 0 then b else a))) := by
  unfold orI orI orI orI orI
  by_cases ha : a = 0
  · by_cases hb : b = 0
    · by_cases hc : c = 0
      · by_cases hd : d = 0 <;> simp [ha, hb, hc, hd]
      · simp [ha, hb, hc]
    · simp [ha, hb]
  · simp [ha]
theorem cmpL_key (a b : Bp) (ha : a.ok) (hb : b.ok) : orI (cmpL a b) = cmp1 (keyB a) (keyB b) := by
  unfold cmpL keyB
  rw [or4, cmp1_lex _ _ _ _ 4294967296 ha.co hb.co, cmp1_lex _ _ _ _ 18446744073709551616 ha.br hb.br, cmp1_lex _ _ _ _ 65536 ha.po hb.po]
theorem cmp_key (a b : Bp) (ha : a.ok) (hb : b.ok) : cmpB a b = cmp1 (keyB (cpdB a)) (keyB (cpdB b)) := cmpL_key _ _ (cpdB_ok ha) (cpdB_ok hb)
theorem cmp1_cases (x y : Nat) : (x < y ∧ cmp1 x y = -1) ∨ (x = y ∧ cmp1 x y = 0) ∨ (y < x ∧ cmp1 x y = 1) := by
  unfold cmp1
  rcases Nat.lt_trichotomy x y with h | h | h
  · exact .inl ⟨h, if_pos h⟩
  · exact .inr (.inl ⟨h, by rw [if_neg (by omega), if_neg (by omega)]⟩)
  · exact .inr (.inr ⟨h, by rw [if_neg (by omega), if_pos h]⟩)
theorem sgn_cmp (a b : Bp) (ha : a.ok) (hb : b.ok) : sgn (cmpB a b) = cmp1 (keyB (cpdB a)) (keyB (cpdB b)) := by
  rw [cmp_key a b ha hb]
  rcases cmp1_cases (keyB (cpdB a)) (keyB (cpdB b)) with h | h | h <;> rw [h.2] <;> rfl
theorem key_ro (a b : Bp) (ha : a.ok) (hb : b.ok) (h : a.ro < b.ro) : keyB a < keyB b := by
  have := ha.co; have := ha.br; have := ha.po
  unfold keyB
  omega
theorem key_co (a b : Bp) (ha : a.ok) (hb : b.ok) (hr : a.ro = b.ro) (h : a.co < b.co) : keyB a < keyB b := by
  have := ha.br; have := ha.po
  unfold keyB
  omega
theorem cmp1_turn (x y : Nat) : cmp1 y x = - cmp1 x y := by
  rcases cmp1_cases x y with h | h | h <;> rcases cmp1_cases y x with k | k | k <;> rw [h.2, k.2] <;> omega
theorem ord3 (x y z : Nat) : cmp1 x y = 1 ∨ (cmp1 x y = 0 ∧ cmp1 y z = 1) ∨ (cmp1 x y = 0 ∧ cmp1 y z = 0 ∧ ¬ 0 < cmp1 x z) ∨ (cmp1 x y = 0 ∧ cmp1 y z = -1 ∧ ¬ 0 < cmp1 x z ∧ ¬ 0 ≤ cmp1 x z) ∨ (cmp1 x y = -1 ∧ cmp1 y z = 1) ∨ (cmp1 x y = -1 ∧ cmp1 y z ≠ 1 ∧ (cmp1 y z = 0 ∨ cmp1 y z = -1) ∧ ¬ 0 < cmp1 x z ∧ ¬ 0 ≤ cmp1 x z) := by
  rcases cmp1_cases x y with h | h | h
  · rcases cmp1_cases y z with k | k | k
    · rcases cmp1_cases x z with l | l | l
      · rw [h.2, k.2, l.2]; decide
      · omega
      · omega
    · rcases cmp1_cases x z with l | l | l
      · rw [h.2, k.2, l.2]; decide
      · omega
      · omega
    · rw [h.2, k.2]; exact .inr (.inr (.inr (.inr (.inl ⟨rfl, rfl⟩))))
  · rcases cmp1_cases y z with k | k | k
    · rcases cmp1_cases x z with l | l | l
      · rw [h.2, k.2, l.2]; decide
      · omega
      · omega
    · rcases cmp1_cases x z with l | l | l
      · omega
      · rw [h.2, k.2, l.2]; decide
      · omega
    · rw [h.2, k.2]; exact .inr (.inl ⟨rfl, rfl⟩)
  · exact .inl h.2
end Go.Proofs.Ytbkjobmjapbmpaa
