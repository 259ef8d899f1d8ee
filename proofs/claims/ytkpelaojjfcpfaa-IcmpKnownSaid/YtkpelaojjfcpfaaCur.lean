/- A number's bytes while they are laid, the lowest first. Nothing of the program is named here. -/
import Derived.Test.YtkpelaojjfcpfaaNum
import Derived.Test.YtkpelaojjfcpfaaLib
namespace Go.Proofs.Ytkpelaojjfcpfaa
open Go.RowKit
set_option linter.unusedVariables false

/-- A number's bytes while they are laid, the lowest first. -/
def curB (W x j : Nat) : List UInt8 := List.replicate (W - j) 0 ++ (beM W x).drop (W - j)
theorem made_of {w w' : World} {W : Nat} {l : List UInt8} (hl : l.length = W) (hW : W ≤ 100) (hb : Blo w' w.heap.size 5 (bys l).toArray) (hk : Kept Nil w w') : Made w w' (.slice (some ⟨w.heap.size, 0, none⟩) W W) l := by
  refine ⟨⟨by rw [bys_len]; simp, .inr ⟨w.heap.size, W, _, by rw [hl], Nat.le_refl _, hb, Nat.le_of_eq hl, by unfold maxLen; omega, by simp [bys_len, hl], by simp [← hl, ← bys_len]⟩⟩, hk⟩
theorem cur_full (W x : Nat) : curB W x W = beM W x := by simp [curB]
theorem cur_at (W x j : Nat) (h : j < W) : (bys (curB W x j)).toArray[W - 1 - j]? = some (.int .u8 0) := by
  have : (curB W x j)[W - 1 - j]? = some 0 := by
    unfold curB
    rw [List.getElem?_append_left (by simp; omega), List.getElem?_replicate, if_pos (by omega)]
  simp [bys, this]
theorem cur_set (W x j : Nat) (h : j < W) : (curB W x j).set (W - 1 - j) (UInt8.ofNat (x / 256 ^ j)) = curB W x (j + 1) := by
  unfold curB
  have e1 : List.replicate (W - j) (0 : UInt8) = List.replicate (W - (j + 1)) 0 ++ [0] := by rw [show W - j = (W - (j + 1)) + 1 from by omega, List.replicate_succ']
  have e2 : (beM W x).drop (W - (j + 1)) = UInt8.ofNat (x / 256 ^ j) :: (beM W x).drop (W - j) := by
    have hl := beM_len W x
    rw [List.drop_eq_getElem_cons (by omega)]
    congr 1
    · simp only [beM, List.getElem_map, List.getElem_range]
      rw [show 8 * (W - 1 - (W - (j + 1))) = 8 * j from by omega, Nat.pow_mul]
    · congr 1; omega
  rw [e1, e2, List.append_assoc, List.set_append_right _ _ (by simp; omega)]
  simp
  rw [show W - 1 - j - (W - (j + 1)) = 0 from by omega]
  rfl
theorem cur_step {w : World} {g t : Nat} (W x j : Nat) (h : j < W) (hb : Blo w g t (bys (curB W x j)).toArray) : Blo (w.setCell ⟨g, W - 1 - j, none⟩ (.int .u8 (((x / 256 ^ j : Nat) : Int) % 256))) g t (bys (curB W x (j + 1))).toArray := by
  have := hb.set (W - 1 - j) (.int .u8 (((x / 256 ^ j : Nat) : Int) % 256))
  rw [List.setIfInBounds_toArray, show ((x / 256 ^ j : Nat) : Int) % 256 = ((UInt8.ofNat (x / 256 ^ j)).toNat : Int) from by rw [UInt8.toNat_ofNat']; omega, bys_set, cur_set W x j h] at this
  exact this
end Go.Proofs.Ytkpelaojjfcpfaa
