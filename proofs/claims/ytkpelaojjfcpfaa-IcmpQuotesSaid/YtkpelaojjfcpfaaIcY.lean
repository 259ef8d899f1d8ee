/- What an error quotes of a datagram, in plain words. -/
import Derived.Test.YtkpelaojjfcpfaaIcQ
namespace Go.Proofs.Ytkpelaojjfcpfaa
set_option linter.unusedVariables false

/-- A head that is no fragment's and has no options. -/
def bareH (h : Hd) : Hd := ⟨h.t, h.l, h.p, h.i, h.e, h.d, false, 0, h.s, h.g, []⟩
theorem bare_may (h : Hd) (hok : h.ok) (b : List UInt8) (hb : b.length ≤ 100) : (bareH h).may b where
  ok := ⟨hok.i, ⟨by show (-9223372036854775808 : Int) ≤ 0; decide, by show (0 : Int) ≤ 9223372036854775807; decide⟩, hok.s, hok.g⟩
  o0 := by show (0 : Int) ≤ 0; decide
  o1 := by show (0 : Int) ≤ 8191; decide
  x := rfl
  f := by
    unfold fitsM
    rw [decide_eq_true_eq]
    refine ⟨?_, fun e => ?_⟩
    · show (0 : Int) * 8 + (b.length : Int) ≤ 65535; omega
    · exact absurd (show false = true from e) (by decide)
  n := by show 20 + 0 + b.length ≤ 65535; omega
theorem bare_len (h : Hd) (hok : h.ok) (b : List UInt8) (hb : b.length ≤ 100) : (putHM (bareH h) b).1.length = 20 + b.length ∧ (putHM (bareH h) b).2 = 0 := by
  rw [put_may _ _ (bare_may h hok b hb)]
  refine ⟨?_, rfl⟩
  show (headB (bareH h) _ _ ++ b).length = _
  rw [List.length_append, headB_len]
  rfl
theorem quote_put (h : Hd) (hok : h.ok) (b : List UInt8) (hb : b.length ≤ 100) (k : Nat) (hk : k ≤ 20 + b.length) (t : UInt8) (ht : kindN t.toNat = 1) :
    (k < 20 + min 8 b.length → quoteM ⟨t, 0, 0, 0, 0, 0, (putHM (bareH h) b).1.take k⟩ = (Hd.zero, [], 4)) ∧ (¬ k < 20 + min 8 b.length → quoteM ⟨t, 0, 0, 0, 0, 0, (putHM (bareH h) b).1.take k⟩ = (bareH h, b.take (k - 20), 0)) := by
  have hm := bare_may h hok b hb
  have hl := (bare_len h hok b hb).1
  unfold quoteM
  dsimp only
  rw [if_neg (by rw [ht]; simp)]
  by_cases hkl : k < 20 + b.length
  · obtain ⟨r1, r2, r3⟩ := read_cut (bareH h) b hm k (by rw [hl]; exact hkl)
    rw [show 20 + (bareH h).x.length = 20 from rfl] at r2 r3
    refine ⟨fun h1 => ?_, fun h1 => ?_⟩
    · by_cases h20 : 20 ≤ k
      · rw [r2 h20]
        dsimp only
        rw [if_neg (by simp), if_pos ⟨by rw [List.length_take]; omega, r1⟩]
      · rw [if_pos (by rw [r3 (by omega)]; decide), r3 (by omega)]
    · rw [r2 (by omega)]
      dsimp only
      rw [if_neg (by simp), if_neg (by rintro ⟨h2, _⟩; rw [List.length_take] at h2; omega)]
  · obtain rfl : k = 20 + b.length := by omega
    have e : (putHM (bareH h) b).1.take (20 + b.length) = (putHM (bareH h) b).1 ++ [] := by rw [List.append_nil, List.take_of_length_le (by rw [hl]; exact Nat.le_refl _)]
    refine ⟨fun h1 => by omega, fun _ => ?_⟩
    rw [e, read_put _ _ hm, read_put _ _ hm]
    dsimp only
    rw [if_neg (by simp), if_neg (by rintro ⟨_, h2⟩; exact absurd h2 (by decide)), show 20 + b.length - 20 = b.length by omega, List.take_length]
theorem quote_eight (b : List UInt8) : quoteM ⟨8, 0, 0, 0, 0, 0, b⟩ = (Hd.zero, [], 1) := by
  unfold quoteM
  exact if_pos (show kindN 8 ≠ 1 from by decide)
end Go.Proofs.Ytkpelaojjfcpfaa
