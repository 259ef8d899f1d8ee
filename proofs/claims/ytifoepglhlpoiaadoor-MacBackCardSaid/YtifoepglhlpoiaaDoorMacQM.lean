/- What mac.Parse comes to, as a function of the text's bytes. -/
import Derived.Test.YtifoepglhlpoiaaDoorMacP
namespace Go.Proofs.YtifoepglhlpoiaaDoor
open Go.RowKit
set_option linter.unusedVariables false

/-- The byte that a text's part number k tells, if it is one. -/
def pst (l : List UInt8) (k : Nat) : Option UInt8 := if 0 < k ∧ l.getD (3 * k - 1) 0 ≠ 58 then none else (numB 16 0 ((l.drop (3 * k)).take 2)).map UInt8.ofNat
/-- The first k bytes. -/
def pfx (l : List UInt8) : Nat → Option (List UInt8)
  | 0 => some []
  | k + 1 => match pfx l k, pst l k with
    | some bs, some b => some (bs ++ [b])
    | _, _ => none
def prs (l : List UInt8) : Option (List UInt8) := if l.length = 17 then pfx l 6 else none
def puP : Option (List UInt8) → Value
  | some bs => .tuple #[mv bs, .int .i64 0]
  | none => .tuple #[mv [0, 0, 0, 0, 0, 0], .int .i64 5]
theorem pfx_dead (l : List UInt8) (k : Nat) (h : pfx l k = none) : ∀ m, pfx l (k + m) = none
  | 0 => h
  | m + 1 => by
    show pfx l (k + m + 1) = none
    rw [pfx, pfx_dead l k h m]
theorem prs_dead (l : List UInt8) (k : Nat) (hk : k < 6) (h : pst l k = none) : prs l = none := by
  have h1 : pfx l (k + 1) = none := by
    rw [pfx, h]
    cases pfx l k <;> rfl
  unfold prs
  split
  · have := pfx_dead l (k + 1) h1 (5 - k)
    rw [show k + 1 + (5 - k) = 6 by omega] at this
    exact this
  · rfl
theorem pfx_more (l : List UInt8) (k : Nat) (bs : List UInt8) (b : UInt8) (h : pfx l k = some bs) (hb : pst l k = some b) : pfx l (k + 1) = some (bs ++ [b]) := by
  rw [pfx, h, hb]
theorem pfx_len (l : List UInt8) : ∀ (k : Nat) (bs : List UInt8), pfx l k = some bs → bs.length = k
  | 0, bs, h => by simp [pfx] at h; subst h; rfl
  | k + 1, bs, h => by
    rw [pfx] at h
    split at h
    · rename_i bs' b h1 h2
      have := pfx_len l k bs' h1
      simp at h
      subst h
      simp [this]
    · cases h
theorem bys_at (bs : List UInt8) (k : Nat) (h : bs.length = k) (hk : k < 6) : (bys (bs ++ List.replicate (6 - k) 0)).toArray[k]? = some (.int .u8 0) := by
  subst h
  rw [List.getElem?_toArray, bys_app, List.getElem?_append_right (by rw [bys_len]; omega), bys_len, Nat.sub_self, show 6 - bs.length = (5 - bs.length) + 1 by omega, List.replicate_succ]
  rfl
theorem bys_put (bs : List UInt8) (b : UInt8) (k : Nat) (h : bs.length = k) (hk : k < 6) : (bys (bs ++ List.replicate (6 - k) 0)).toArray.setIfInBounds k (.int .u8 (b.toNat : Int)) = (bys ((bs ++ [b]) ++ List.replicate (6 - (k + 1)) 0)).toArray := by
  subst h
  rw [List.setIfInBounds_toArray, bys_app, List.set_append_right _ _ (by rw [bys_len]; omega), bys_len, Nat.sub_self, show 6 - bs.length = (5 - bs.length) + 1 by omega, List.replicate_succ, show 6 - (bs.length + 1) = 5 - bs.length by omega]
  simp [bys]
theorem digv_lt (c : UInt8) (h : digv c < 16) : digv c ≤ 15 := by omega
theorem num16_byte (l : List UInt8) (hl : l.length ≤ 2) (n : Nat) (h : numB 16 0 l = some n) : n < 256 := by
  match l, hl with
  | [], _ => simp [numB] at h; omega
  | [c], _ =>
    simp only [numB] at h
    split at h
    · simp at h; omega
    · cases h
  | [c, d], _ =>
    simp only [numB] at h
    split at h
    · split at h
      · simp at h; omega
      · cases h
    · cases h
theorem byte_of (n : Nat) (h : n < 256) : n = (UInt8.ofNat n).toNat := by rw [UInt8.toNat_ofNat']; omega
theorem getD_some (l : List UInt8) (k : Nat) (hk : k < l.length) : l[k]? = some (l.getD k 0) := by
  rw [List.getD_eq_getElem?_getD, List.getElem?_eq_getElem hk]; rfl
end Go.Proofs.YtifoepglhlpoiaaDoor
