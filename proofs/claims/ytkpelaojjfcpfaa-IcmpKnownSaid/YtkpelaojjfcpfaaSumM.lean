/- Sums of words, as plain numbers: nothing of the program is named here. -/
import Derived.Test.YtkpelaojjfcpfaaMem
namespace Go.Proofs.Ytkpelaojjfcpfaa

/-- One byte more: the sum so far, and whether the byte is the high one. -/
def stepS (x : Nat × Bool) (b : UInt8) : Nat × Bool := (x.1 + (if x.2 then b.toNat * 256 else b.toNat), !x.2)
def runS (x : Nat × Bool) (l : List UInt8) : Nat × Bool := l.foldl stepS x
/-- What goes over 16 bits is added at the low end, until nothing does. -/
def fold16 (s : Nat) : Nat := if s = 0 then 0 else (s - 1) % 65535 + 1
def csumM (l : List UInt8) : Nat := 65535 - fold16 (runS (0, true) l).1

theorem runS_app (x : Nat × Bool) (l m : List UInt8) : runS x (l ++ m) = runS (runS x l) m := by simp [runS]
theorem runS_snoc (x : Nat × Bool) (l : List UInt8) (b : UInt8) : runS x (l ++ [b]) = stepS (runS x l) b := by simp [runS]
theorem runS_le (l : List UInt8) (x : Nat × Bool) : (runS x l).1 ≤ x.1 + 65280 * l.length := by
  induction l generalizing x with
  | nil => simp [runS]
  | cons b l ih =>
    have h1 := ih (stepS x b)
    have h2 := b.toNat_lt
    have h3 : (stepS x b).1 ≤ x.1 + 65280 := by unfold stepS; cases x.2 <;> simp <;> omega
    simp only [runS, List.foldl_cons, List.length_cons] at h1 ⊢
    omega
theorem fold16_le (s : Nat) : fold16 s ≤ 65535 := by unfold fold16; split <;> omega
theorem fold16_small (s : Nat) (h : s ≤ 65535) : fold16 s = s := by unfold fold16; split <;> omega
theorem fold16_step (s : Nat) (h : 65535 < s) : fold16 (s / 65536 + s % 65536) = fold16 s := by
  unfold fold16
  rw [if_neg (by omega), if_neg (by omega)]
  omega
theorem fold_less (s : Nat) (h : 65535 < s) : s / 65536 + s % 65536 < s := by omega
end Go.Proofs.Ytkpelaojjfcpfaa
