/- Texts that belong together, one behind the other: BpT, Upto. Conditions: those of each. -/
import Derived.Test.YthjfeanmgaidcaaMg19
import Derived.Test.YthjfeanmgaidcaaMg27
import Derived.Test.YthjfeanmgaidcaaMg3
/- Package bpdu: a message's frame, laid and read. Plain. -/
namespace Go.Proofs.Ythjfeanmgaidcaa
open Go.RowKit Go.Sort
set_option linter.unusedVariables false

theorem frm_is (s : List UInt8) (m : Bp) (h : mayB m = true) : frmB s m = ⟨brd, s, [], 2, 0, lcb, z3, forB m, []⟩ := by
  unfold frmB putB
  rw [h]
  rfl
theorem frm_ok (s : List UInt8) (hs : s.length = 6) (m : Bp) (h : mayB m = true) : (frmB s m).ok := by
  rw [frm_is s m h]
  exact ⟨rfl, hs, fun t ht => (by cases ht), ⟨show -9223372036854775808 ≤ (2 : Int) by decide, show (2 : Int) ≤ 9223372036854775807 by decide⟩, ⟨show -9223372036854775808 ≤ (0 : Int) by decide, show (0 : Int) ≤ 9223372036854775807 by decide⟩, rfl, rfl⟩
theorem frm_put (s : List UInt8) (hs : s.length = 6) (m : Bp) (h : mayB m = true) : (putM (frmB s m)).2 = 0 ∧ (putM (frmB s m)).1.length ≤ 100 := by
  have hl := forB_le m
  rw [frm_is s m h]
  have hc : carryM ⟨brd, s, [], 2, 0, lcb, z3, forB m, []⟩ = true := by
    unfold carryM
    rw [if_neg (show ¬ (2 : Int) = 1 by decide), if_pos rfl]
    have e1 : decide (lcb = snapL) = false := by decide
    have e2 : decide (3 + (forB m).length ≤ 1500) = true := decide_eq_true (by omega)
    show (decide ((0 : Int) = 0) && decide (z3 = z3) && !decide (lcb = snapL) && decide (3 + (forB m).length ≤ 1500)) = true
    rw [e1, e2]
    rfl
  have ha : (aheadM ⟨brd, s, [], 2, 0, lcb, z3, forB m, []⟩).length = 17 := by
    simp only [aheadM, headM, List.length_append, hs]
    rfl
  unfold putM
  rw [if_neg (by rw [hc]; show ¬ (mayL [] && true) = false; decide), if_neg (by rw [ha]; simp only [List.length_nil]; omega)]
  refine ⟨rfl, ?_⟩
  simp only [List.length_append, ha, List.length_nil]
  omega
theorem frm_get (s : List UInt8) (hs : s.length = 6) (m : Bp) (h : mayB m = true) : (getM (putM (frmB s m)).1).1 = frmB s m ∧ (getM (putM (frmB s m)).1).2.2 = 0 := by
  obtain ⟨h1, h2⟩ := frm_put s hs m h
  rw [get_put _ (frm_ok s hs m h) h1 (by omega)]
  exact ⟨rfl, rfl⟩
theorem frm_isF (s : List UInt8) (m : Bp) (h : mayB m = true) : isF (frmB s m) = true := by
  rw [frm_is s m h]
  rfl
theorem zero_isF : isF Fr.zero = false := by decide
theorem frm_no (s : List UInt8) (m : Bp) (h : mayB m = false) : frmB s m = Fr.zero := by
  unfold frmB putB
  rw [h]
  rfl
end Go.Proofs.Ythjfeanmgaidcaa
/- Bytes copied one by one into zeros; a byte of a slice. Nothing of the program is named here. -/
namespace Go.Proofs.Ythjfeanmgaidcaa
open Go.RowKit Go.Sort
set_option linter.unusedVariables false

/-- The first q of l, zeros behind. -/
def upto (N q : Nat) (l : List UInt8) : List UInt8 := l.take q ++ List.replicate (N - q) 0
theorem upto_len (N q : Nat) (l : List UInt8) (h : q ≤ l.length) (hq : q ≤ N) : (upto N q l).length = N := by unfold upto; rw [List.length_append, List.length_take, List.length_replicate]; omega
theorem upto_set (N q : Nat) (l : List UInt8) (h : q < l.length) (hq : q < N) : (upto N q l).set q l[q] = upto N (q + 1) l := by
  unfold upto
  have h1 : (l.take q).length = q := by rw [List.length_take]; omega
  rw [List.set_append_right _ _ (by omega), h1, Nat.sub_self, show N - q = (N - (q + 1)) + 1 by omega, List.replicate_succ, List.set_cons_zero, List.take_succ_eq_append_getElem h, List.append_assoc]
  rfl
theorem upto_all (N : Nat) (l : List UInt8) : upto N N l = l.take N := by unfold upto; rw [Nat.sub_self, List.replicate_zero, List.append_nil]
theorem upto_zero (N : Nat) (l : List UInt8) : upto N 0 l = List.replicate N 0 := rfl
theorem byt_ge {w : World} {b o n c : Nat} {l : List UInt8} (h : Byt w (some ⟨b, o, none⟩) n c l) (i : Nat) (u : UInt8) (hu : l[i]? = some u) : w.cell? ⟨b, o + i, none⟩ = some (.int .u8 (u.toNat : Int)) := by
  obtain ⟨hi, rfl⟩ := List.getElem?_eq_some_iff.1 hu
  obtain ⟨b', o', e, hc⟩ := h.at hi
  cases e
  exact hc
theorem set_split {α : Type} (cs : List α) (i : Nat) (v : α) (h : i < cs.length) : cs.take i ++ [v] ++ cs.drop (i + [v].length) = cs.set i v := by
  rw [List.set_eq_take_append_cons_drop, if_pos h]
  simp
theorem bys_put (l : List UInt8) (i : Nat) (b : UInt8) : (bys l).set i (.int .u8 (b.toNat : Int)) = bys (l.set i b) := by simp [bys, List.map_set]
end Go.Proofs.Ythjfeanmgaidcaa
