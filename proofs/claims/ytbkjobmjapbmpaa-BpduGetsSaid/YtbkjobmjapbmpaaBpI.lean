/- Package bpdu: what Get tells, by the bytes. Plain. -/
import Derived.Test.YtbkjobmjapbmpaaBpH
import Derived.Test.YtbkjobmjapbmpaaBrA
import Derived.Test.YtbkjobmjapbmpaaCutD
namespace Go.Proofs.Ytbkjobmjapbmpaa
open Go.RowKit Go.Sort
set_option linter.unusedVariables false

theorem seg_is (b : List UInt8) (k n : Nat) : numM ((b.drop k).take n) = sgB b k (k + n) := by
  unfold sgB
  rw [List.drop_take, Nat.add_sub_cancel_left]
theorem four_split (b : List UInt8) (h : 4 ≤ b.length) : numM (b.take 4) = ((sgB b 0 1 * 256 + sgB b 1 2) * 256 + sgB b 2 3) * 256 + sgB b 3 4 := by
  match b, h with
  | x0 :: x1 :: x2 :: x3 :: r, _ => simp [numM, sgB]
theorem take_ok0 (b : List UInt8) (n : Nat) (h : n ≤ b.length) : takeM ⟨b, 0, 0⟩ (n : Int) = (b.take n, ⟨b, n, 0⟩) := by
  have := takeM_ok b 0 n (by omega)
  simpa using this
theorem fail_err (s : Cst) (h : s.er ≠ 0) (x : Int) : failM s x = s := by unfold failM; rw [if_neg h]
theorem fn_err (m : Bp) (s : Cst) (h : s.er = 4 ∨ s.er = 5) : fnM m s = (Bp.zero, s.er) := by
  have h0 : s.er ≠ 0 := by omega
  have ht : (takeM s 1).2 = s := by
    obtain ⟨l, k, er⟩ := s
    rw [takeM_err l k er h0]
  unfold fnM
  simp only [ht, fail_err s h0]
  by_cases hk : m.kd = 3
  · simp [hk, h0, fail_err s h0 5]
  · simp [hk, h0, fail_err s h0 5]
theorem st_err (s : Cst) (h : s.er ≠ 0) : st9 s = s := by
  obtain ⟨l, k, er⟩ := s
  have e : ∀ x, (takeM ⟨l, k, er⟩ x).2 = ⟨l, k, er⟩ := fun x => by rw [takeM_err l k er h]
  simp only [st9, st8, st7, st6, st5, st4, st3, st2, st1, e]
theorem Took.nine {b : List UInt8} {s : Cst} (h : Took b 4 s) : Took b 35 (st9 s) :=
  ((((((((h.next 1).next 8).next 4).next 8).next 2).next 2).next 2).next 2).next 2
theorem takes_ok (b : List UInt8) (k : Int) (h : 35 ≤ b.length) : tfM k ⟨b, 4, 0⟩ = rdB k b ∧ st9 ⟨b, 4, 0⟩ = ⟨b, 35, 0⟩ := by
  have t1 : takeM ⟨b, 4, 0⟩ 1 = ((b.drop 4).take 1, ⟨b, 5, 0⟩) := takeM_ok b 4 1 (by omega)
  have t2 : takeM ⟨b, 5, 0⟩ 8 = ((b.drop 5).take 8, ⟨b, 13, 0⟩) := takeM_ok b 5 8 (by omega)
  have t3 : takeM ⟨b, 13, 0⟩ 4 = ((b.drop 13).take 4, ⟨b, 17, 0⟩) := takeM_ok b 13 4 (by omega)
  have t4 : takeM ⟨b, 17, 0⟩ 8 = ((b.drop 17).take 8, ⟨b, 25, 0⟩) := takeM_ok b 17 8 (by omega)
  have t5 : takeM ⟨b, 25, 0⟩ 2 = ((b.drop 25).take 2, ⟨b, 27, 0⟩) := takeM_ok b 25 2 (by omega)
  have t6 : takeM ⟨b, 27, 0⟩ 2 = ((b.drop 27).take 2, ⟨b, 29, 0⟩) := takeM_ok b 27 2 (by omega)
  have t7 : takeM ⟨b, 29, 0⟩ 2 = ((b.drop 29).take 2, ⟨b, 31, 0⟩) := takeM_ok b 29 2 (by omega)
  have t8 : takeM ⟨b, 31, 0⟩ 2 = ((b.drop 31).take 2, ⟨b, 33, 0⟩) := takeM_ok b 31 2 (by omega)
  have t9 : takeM ⟨b, 33, 0⟩ 2 = ((b.drop 33).take 2, ⟨b, 35, 0⟩) := takeM_ok b 33 2 (by omega)
  have s1 : st1 ⟨b, 4, 0⟩ = ⟨b, 5, 0⟩ := by unfold st1; rw [t1]
  have s2 : st2 ⟨b, 4, 0⟩ = ⟨b, 13, 0⟩ := by unfold st2; rw [s1, t2]
  have s3 : st3 ⟨b, 4, 0⟩ = ⟨b, 17, 0⟩ := by unfold st3; rw [s2, t3]
  have s4 : st4 ⟨b, 4, 0⟩ = ⟨b, 25, 0⟩ := by unfold st4; rw [s3, t4]
  have s5 : st5 ⟨b, 4, 0⟩ = ⟨b, 27, 0⟩ := by unfold st5; rw [s4, t5]
  have s6 : st6 ⟨b, 4, 0⟩ = ⟨b, 29, 0⟩ := by unfold st6; rw [s5, t6]
  have s7 : st7 ⟨b, 4, 0⟩ = ⟨b, 31, 0⟩ := by unfold st7; rw [s6, t7]
  have s8 : st8 ⟨b, 4, 0⟩ = ⟨b, 33, 0⟩ := by unfold st8; rw [s7, t8]
  refine ⟨?_, by unfold st9; rw [s8, t9]⟩
  unfold tfM rdB
  rw [s1, s2, s3, s4, s5, s6, s7, s8, t1, t2, t3, t4, t5, t6, t7, t8, t9]
  simp only [seg_is, Nat.reduceAdd]
theorem fn_full (k : Int) (hk : k = 1 ∨ k = 3) (b : List UInt8) (s : Cst) (hT : Took b 4 s) (he : b.length < 35 ∨ s = ⟨b, 4, 0⟩) : fnM (tfM k s) (st9 s) = finB k (if k = 3 then 36 else 35) b := by
  by_cases h35 : b.length < 35
  · have := hT.nine.done h35
    rw [fn_err _ _ (.inl this), this]
    unfold finB
    rw [if_pos (by split <;> omega)]
  · have hs : s = ⟨b, 4, 0⟩ := by rcases he with h | h; exact absurd h h35; exact h
    subst hs
    obtain ⟨e1, e2⟩ := takes_ok b k (by omega)
    rw [e1, e2]
    have hkd : (rdB k b).kd = k := rfl
    have hmay : mayB (rdB k b) = decide ((rdB k b).ag < (rdB k b).ma) := by unfold mayB; rw [if_pos (by rw [hkd]; exact hk)]
    unfold finB
    rcases hk with rfl | rfl
    · rw [if_neg (show ¬ b.length < (if (1 : Int) = 3 then 36 else 35) from h35)]
      by_cases hag : (rdB 1 b).ma ≤ (rdB 1 b).ag
      · rw [if_pos (.inl hag), fnM_a _ _ (by rw [hkd]; decide) (by rw [hmay]; simp; omega)]
        rfl
      · rw [if_neg (by rintro (h | ⟨h, _⟩); exact hag h; exact absurd h (by decide)), fnM_b _ _ (by rw [hkd]; decide) (by rw [hmay]; simp; omega)]
        rfl
    · rw [if_pos (show (3 : Int) = 3 from rfl)]
      by_cases h36 : b.length < 36
      · have hl : b.length = 35 := by omega
        have ht : takeM ⟨b, 35, 0⟩ 1 = ([], ⟨b, 35, 4⟩) := takeM_short b 35 1 (by omega) (by omega)
        rw [if_pos h36]
        have hn : numM (takeM ⟨b, 35, 0⟩ 1).1 = 0 := by rw [ht]; rfl
        cases hm : mayB (rdB 3 b)
        · rw [fnM_3b _ _ hkd hn hm, ht]; rfl
        · rw [fnM_3c _ _ hkd hn hm, ht]; rfl
      · rw [if_neg h36]
        have ht : takeM ⟨b, 35, 0⟩ 1 = ((b.drop 35).take 1, ⟨b, 36, 0⟩) := takeM_ok b 35 1 (by omega)
        have hn : numM (takeM ⟨b, 35, 0⟩ 1).1 = sgB b 35 36 := by rw [ht]; exact seg_is b 35 1
        by_cases h0 : sgB b 35 36 = 0
        · by_cases hag : (rdB 3 b).ma ≤ (rdB 3 b).ag
          · rw [if_pos (.inl hag), fnM_3b _ _ hkd (by rw [hn, h0]) (by rw [hmay]; simp; omega), ht]; rfl
          · rw [if_neg (by rintro (h | ⟨_, h⟩); exact hag h; exact h h0), fnM_3c _ _ hkd (by rw [hn, h0]) (by rw [hmay]; simp; omega), ht]; rfl
        · rw [if_pos (.inr ⟨rfl, h0⟩), fnM_3a _ _ hkd (by rw [hn]; exact h0), ht]; rfl
theorem sg_byte (b : List UInt8) (k : Nat) : sgB b k (k + 1) < 256 := sg_lt b k (k + 1) 1 (by omega)
theorem gp_get (b : List UInt8) : gpM b = getB b := by
  unfold gpM getB
  by_cases h4 : b.length < 4
  · have ht : takeM ⟨b, 0, 0⟩ 4 = ([], ⟨b, 0, 4⟩) := takeM_short b 0 4 (by omega) (by omega)
    have e : tkM ⟨b, 0, 0⟩ = (1, ⟨b, 0, 4⟩) := by unfold tkM; rw [ht]; rfl
    rw [if_pos h4, e]
    dsimp only
    rw [if_neg (by decide), st_err _ (show (4 : Int) ≠ 0 by decide), fn_err _ _ (.inl rfl)]
  · rw [if_neg h4]
    have ht : takeM ⟨b, 0, 0⟩ 4 = (b.take 4, ⟨b, 4, 0⟩) := take_ok0 b 4 (by omega)
    have hn := four_split b (by omega)
    have e : tkM ⟨b, 0, 0⟩ = (kinB (numM (b.take 4)), if kinB (numM (b.take 4)) = 0 then ⟨b, 4, 5⟩ else ⟨b, 4, 0⟩) := by unfold tkM; rw [ht]; rfl
    have l0 : sgB b 0 1 < 256 := sg_byte b 0
    have l1 : sgB b 1 2 < 256 := sg_byte b 1
    have l2 : sgB b 2 3 < 256 := sg_byte b 2
    have l3 : sgB b 3 4 < 256 := sg_byte b 3
    rw [e, hn]
    have hT : Took b 4 ⟨b, 4, 0⟩ := ⟨rfl, .inr ⟨rfl, rfl, by omega⟩⟩
    by_cases h01 : sgB b 0 1 ≠ 0 ∨ sgB b 1 2 ≠ 0
    · have hk : kinB (((sgB b 0 1 * 256 + sgB b 1 2) * 256 + sgB b 2 3) * 256 + sgB b 3 4) = 0 := by
        unfold kinB; rw [if_neg (by omega), if_neg (by omega), if_neg (by omega)]
      rw [if_pos h01, hk]
      dsimp only
      rw [if_neg (by decide), if_pos rfl, st_err _ (show (5 : Int) ≠ 0 by decide), fn_err _ _ (.inr rfl)]
    · rw [if_neg h01]
      by_cases hc : sgB b 2 3 = 0 ∧ sgB b 3 4 = 128
      · have hk : kinB (((sgB b 0 1 * 256 + sgB b 1 2) * 256 + sgB b 2 3) * 256 + sgB b 3 4) = 2 := by
          unfold kinB; rw [if_neg (by omega), if_pos (by omega)]
        rw [if_pos hc, hk]
        dsimp only
        rw [if_pos rfl, if_neg (by decide), fnM_b _ _ (by decide) (by decide)]
        rfl
      · rw [if_neg hc]
        by_cases hz : sgB b 2 3 = 0 ∧ sgB b 3 4 = 0
        · have hk : kinB (((sgB b 0 1 * 256 + sgB b 1 2) * 256 + sgB b 2 3) * 256 + sgB b 3 4) = 1 := by
            unfold kinB; rw [if_pos (by omega)]
          rw [if_pos hz, hk]
          dsimp only
          rw [if_neg (by decide), if_neg (by decide)]
          exact fn_full 1 (.inl rfl) b _ hT (.inr rfl)
        · rw [if_neg hz]
          by_cases hr : sgB b 2 3 = 2 ∧ sgB b 3 4 = 2
          · have hk : kinB (((sgB b 0 1 * 256 + sgB b 1 2) * 256 + sgB b 2 3) * 256 + sgB b 3 4) = 3 := by
              unfold kinB; rw [if_neg (by omega), if_neg (by omega), if_pos (by omega)]
            rw [if_pos hr, hk]
            dsimp only
            rw [if_neg (by decide), if_neg (by decide)]
            exact fn_full 3 (.inr rfl) b _ hT (.inr rfl)
          · have hk : kinB (((sgB b 0 1 * 256 + sgB b 1 2) * 256 + sgB b 2 3) * 256 + sgB b 3 4) = 0 := by
              unfold kinB; rw [if_neg (by omega), if_neg (by omega), if_neg (by omega)]
            rw [if_neg hr, hk]
            dsimp only
            rw [if_neg (by decide), if_pos rfl, st_err _ (show (5 : Int) ≠ 0 by decide), fn_err _ _ (.inr rfl)]
end Go.Proofs.Ytbkjobmjapbmpaa
