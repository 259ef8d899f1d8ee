/- Texts that belong together, one behind the other: Cur, Blk. Conditions: those of each. -/
import Derived.Test.YtbkjobmjapbmpaaMg4
import Derived.Test.YtbkjobmjapbmpaaMg7
import Derived.Test.YtbkjobmjapbmpaaMg13
import Derived.Test.YtbkjobmjapbmpaaMg3
/- A number's bytes while they are laid, the lowest first. Nothing of the program is named here. -/
namespace Go.Proofs.Ytbkjobmjapbmpaa
open Go.RowKit
set_option linter.unusedVariables false

/-- A number's bytes while they are laid, the lowest first. -/
def curB (W x j : Nat) : List UInt8 := List.replicate (W - j) 0 ++ (beM W x).drop (W - j)
theorem made_of {w w' : World} {W : Nat} {l : List UInt8} (hl : l.length = W) (hW : W ≤ 100) (hb : Blo w' w.heap.size 5 (bys l).toArray) (hk : Kept Nil w w') : Made w w' (.slice (some ⟨w.heap.size, 0, none⟩) W W) l := by
  refine ⟨⟨by rw [bys_len]; simp, .inr ⟨w.heap.size, W, _, by rw [hl], Nat.le_refl _, hb, Nat.le_of_eq hl, by unfold maxLen; omega, by simp [bys_len, hl], by simp [← hl, ← bys_len]⟩⟩, hk⟩
theorem cur_full (W x : Nat) : curB W x W = beM W x := by simp [curB]
theorem cur_at (W x j : Nat) (h : j < W) : (bys (curB W x j)).toArray[W - 1 - j]? = some (.int .u8 0) := by
  have : (curB W x j)[W - 1 - j]? = some 0 := by
    unfold curB
    rw [List.getElem?_append_left (by simp; omega), List.getElem?_replicate, if_pos (by omega)]
  simp [bys, this]
theorem cur_set (W x j : Nat) (h : j < W) : (curB W x j).set (W - 1 - j) (UInt8.ofNat (x / 256 ^ j)) = curB W x (j + 1) := by
  unfold curB
  have e1 : List.replicate (W - j) (0 : UInt8) = List.replicate (W - (j + 1)) 0 ++ [0] := by rw [show W - j = (W - (j + 1)) + 1 from by omega, List.replicate_succ']
  have e2 : (beM W x).drop (W - (j + 1)) = UInt8.ofNat (x / 256 ^ j) :: (beM W x).drop (W - j) := by
    have hl := beM_len W x
    rw [List.drop_eq_getElem_cons (by omega)]
    congr 1
    · simp only [beM, List.getElem_map, List.getElem_range]
      rw [show 8 * (W - 1 - (W - (j + 1))) = 8 * j from by omega, Nat.pow_mul]
    · congr 1; omega
  rw [e1, e2, List.append_assoc, List.set_append_right _ _ (by simp; omega)]
  simp
  rw [show W - 1 - j - (W - (j + 1)) = 0 from by omega]
  rfl
theorem cur_step {w : World} {g t : Nat} (W x j : Nat) (h : j < W) (hb : Blo w g t (bys (curB W x j)).toArray) : Blo (w.setCell ⟨g, W - 1 - j, none⟩ (.int .u8 (((x / 256 ^ j : Nat) : Int) % 256))) g t (bys (curB W x (j + 1))).toArray := by
  have := hb.set (W - 1 - j) (.int .u8 (((x / 256 ^ j : Nat) : Int) % 256))
  rw [List.setIfInBounds_toArray, show ((x / 256 ^ j : Nat) : Int) % 256 = ((UInt8.ofNat (x / 256 ^ j)).toNat : Int) from by rw [UInt8.toNat_ofNat']; omega, bys_set, cur_set W x j h] at this
  exact this
end Go.Proofs.Ytbkjobmjapbmpaa
/- A row of bytes that is one's own: its block, changed at a place; appended to nothing. -/
namespace Go.Proofs.Ytbkjobmjapbmpaa
open Go.RowKit Go.Sort
set_option linter.unusedVariables false

theorem own_blkB {w : World} {base e : Nat} {v : Value} {n : Nat} {l : List UInt8} (h : w.ownsRow base e 1 v n (bys l)) (hn : 0 < n) : ∃ g cap r, v = .slice (some ⟨g, 0, none⟩) n cap ∧ base ≤ g ∧ Blo w g e (bys l ++ r).toArray ∧ n ≤ cap ∧ cap ≤ 9223372036854775807 := by
  rcases h.2 with ⟨e, h0⟩ | ⟨g, cap, cur, e, hb, hg, hnc, hcap, hsz, htk⟩
  · omega
  · refine ⟨g, cap, cur.toList.drop n, e, hb, ?_, hnc, by simpa [maxLen] using hcap⟩
    rw [Nat.mul_one] at htk
    rw [← htk, List.take_append_drop]
    exact hg
theorem blk_bytB {w : World} {g : Nat} {T : TypeId} {l : List UInt8} {r : List Value} (h : Blo w g T (bys l ++ r).toArray) (n c : Nat) (hn : l.length = n) (hc : n ≤ c) (hcc : c ≤ 9223372036854775807) : Byt w (some ⟨g, 0, none⟩) n c l := by
  subst hn
  refine ⟨rfl, hc, hcc, fun _ => ⟨g, 0, rfl, fun i hi => ?_⟩⟩
  rw [h.cell]
  simp [bys, List.getElem?_append_left, hi]
theorem bys_putB (l : List UInt8) (i : Nat) (b : UInt8) : (bys l).set i (.int .u8 (b.toNat : Int)) = bys (l.set i b) := by simp [bys, List.map_set]
theorem blk_putB {w : World} {g : Nat} {T : TypeId} {l : List UInt8} {r : List Value} {i : Nat} {b : UInt8} (hi : i < l.length) (h : Blo w g T ((bys l ++ r).take i ++ [Value.int .u8 (b.toNat : Int)] ++ (bys l ++ r).drop (i + [Value.int .u8 (b.toNat : Int)].length)).toArray) : Blo w g T (bys (l.set i b) ++ r).toArray := by
  rw [set_split _ _ _ (by simp [bys_len]; omega), List.set_append_left _ _ (by rw [bys_len]; exact hi), bys_putB] at h
  exact h
/-- Bytes appended to an own row of bytes (or to nothing). -/
theorem wpList_apB {w : World} {ops : Array Oper} {rest : List Oper} {o : Oper} {a : Act} {Q : Exit → Act → World → Prop} (hgd : o.guard = none) (sl x : Operand)
    (ho : o.op = .call { callee := .builtin .append, args := #[sl, x], argTypes := #[31, 31] }) (B : Nat) (v : Value) (l0 : List UInt8) (hs : a.eval sl = v) (hown : w.ownsRow B 5 1 v l0.length (bys l0)) (ad : Addr) (m c : Nat) (l : List UInt8) (hx : a.eval x = .slice (some ad) m c) (hy : Byt w (some ad) m c l)
    (hb : l0.length + m ≤ 140737488355328) (hB : B ≤ w.heap.size)
    (h : ∀ v' w', w'.ownsRow B 5 1 v' (l0 ++ l).length (bys (l0 ++ l)) → w.grownBy w' v.ownBlock → wpList Try.prog ops Q rest (a.put o.dst v') w') : wpList Try.prog ops Q (o :: rest) a w := by
  obtain ⟨i0, hi, hz0, hz1, hz2⟩ := info_parts Try.infb
  refine wpList_append_own _ hgd _ _ 31 ho B 5 i0 (.int .u8 0) 1 1 Try.underlying31 hi hz0 hz1 hz2 rfl (by decide) _ _ _ hs hown ad m c (bys l) hx (by rw [bys_len, hy.1, Nat.mul_one]) hy.news (bys_one l) (by unfold maxLen; omega) (by omega) hB ?_
  intro v' w' ho' hg _
  refine h v' w' ?_ hg
  rw [List.length_append, hy.1]
  simpa [bys] using ho'
end Go.Proofs.Ytbkjobmjapbmpaa
