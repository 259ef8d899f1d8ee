/- Texts that belong together, one behind the other: Upto, OwnB. Conditions: those of each. -/
import Derived.Test.YtiehmpiaddjhiaaDoorMg7
import Derived.Test.YtiehmpiaddjhiaaDoorMg4
import Derived.Laws.BitsAllLaws
/- Bytes copied one by one into zeros; a byte of a slice. Nothing of the program is named here. -/
namespace Go.Proofs.YtiehmpiaddjhiaaDoor
open Go.RowKit Go.Sort
set_option linter.unusedVariables false

/-- The first q of l, zeros behind. -/
def upto (N q : Nat) (l : List UInt8) : List UInt8 := l.take q ++ List.replicate (N - q) 0
theorem upto_len (N q : Nat) (l : List UInt8) (h : q ≤ l.length) (hq : q ≤ N) : (upto N q l).length = N := by unfold upto; rw [List.length_append, List.length_take, List.length_replicate]; omega
theorem upto_set (N q : Nat) (l : List UInt8) (h : q < l.length) (hq : q < N) : (upto N q l).set q l[q] = upto N (q + 1) l := by
  unfold upto
  have h1 : (l.take q).length = q := by rw [List.length_take]; omega
  rw [List.set_append_right _ _ (by omega), h1, Nat.sub_self, show N - q = (N - (q + 1)) + 1 by omega, List.replicate_succ, List.set_cons_zero, List.take_succ_eq_append_getElem h, List.append_assoc]
  rfl
theorem upto_all (N : Nat) (l : List UInt8) : upto N N l = l.take N := by unfold upto; rw [Nat.sub_self, List.replicate_zero, List.append_nil]
theorem upto_zero (N : Nat) (l : List UInt8) : upto N 0 l = List.replicate N 0 := rfl
theorem byt_ge {w : World} {b o n c : Nat} {l : List UInt8} (h : Byt w (some ⟨b, o, none⟩) n c l) (i : Nat) (u : UInt8) (hu : l[i]? = some u) : w.cell? ⟨b, o + i, none⟩ = some (.int .u8 (u.toNat : Int)) := by
  obtain ⟨hi, rfl⟩ := List.getElem?_eq_some_iff.1 hu
  obtain ⟨b', o', e, hc⟩ := h.at hi
  cases e
  exact hc
theorem set_split {α : Type} (cs : List α) (i : Nat) (v : α) (h : i < cs.length) : cs.take i ++ [v] ++ cs.drop (i + [v].length) = cs.set i v := by
  rw [List.set_eq_take_append_cons_drop, if_pos h]
  simp
theorem bys_put (l : List UInt8) (i : Nat) (b : UInt8) : (bys l).set i (.int .u8 (b.toNat : Int)) = bys (l.set i b) := by simp [bys, List.map_set]
end Go.Proofs.YtiehmpiaddjhiaaDoor
/- Bytes of the call's own, stored into one by one. -/
namespace Go.Proofs.YtiehmpiaddjhiaaDoor
open Go.RowKit Go.Sort
set_option linter.unusedVariables false

theorem Byt.put {w : World} {b o n c : Nat} {l : List UInt8} (h : Byt w (some ⟨b, o, Option.none⟩) n c l) (q : Nat) (x : UInt8) (hq : q < n) : Byt (w.setCell ⟨b, o + q, Option.none⟩ (.int .u8 (x.toNat : Int))) (some ⟨b, o, Option.none⟩) n c (l.set q x) := by
  refine ⟨by rw [List.length_set]; exact h.1, h.2.1, h.2.2.1, fun h0 => ⟨b, o, rfl, fun i hi => ?_⟩⟩
  have hi' : i < l.length := by simpa using hi
  obtain ⟨b', o', e, hc⟩ := h.at hi'
  cases e
  by_cases hiq : q = i
  · subst hiq
    rw [World.cell?_setCell_same (h := hc)]
    simp
  · rw [World.cell?_setCell_other (h := fun e => by injection e with _ e _; omega), hc, List.getElem_set_ne hiq]
theorem xor255 (a : UInt8) : bits .xor .u8 (a.toNat : Int) 255 = ((a ^^^ 255).toNat : Int) := by
  have := u8_xor_nat a.toNat 255 a.toNat_lt (by omega)
  rw [show (255 : Int) = ((255 : Nat) : Int) from rfl, this, UInt8.toNat_xor]
  rfl
/-- Bytes of the call's own, as a block. -/
def OwnB (w : World) (b1 m : Nat) (cs : List Value) : Prop := 0 < m → Blo w b1 5 cs.toArray ∧ m ≤ cs.length ∧ ∀ i, i < m → ∃ u : UInt8, cs[i]? = some (.int .u8 (u.toNat : Int))
theorem own_B {w : World} {base m c : Nat} {A : Option Addr} {l : List UInt8} (h : w.ownsRow base 5 1 (.slice A m c) m (bys l)) : ∃ b1 cs, (0 < m → A = some ⟨b1, 0, none⟩ ∧ base ≤ b1) ∧ OwnB w b1 m cs := by
  rcases h.2 with ⟨e, h0⟩ | ⟨g, cap, cur, e, hb, hg, hnc, hcap, hsz, htk⟩
  · exact ⟨0, [], fun h => by omega, fun h => by omega⟩
  · injection e with e1 e2 e3
    refine ⟨g, cur.toList, fun _ => ⟨e1, hb⟩, fun _ => ⟨hg, by simp; omega, fun i hi => ?_⟩⟩
    have hl : l.length = m := by have := h.1; rw [bys_len] at this; omega
    have hil : i < l.length := by omega
    refine ⟨l[i], ?_⟩
    have h1 : (cur.toList.take (m * 1))[i]? = (bys l)[i]? := by rw [htk]
    rw [List.getElem?_take_of_lt (by omega)] at h1
    rw [h1]
    simp [bys, hil]
theorem OwnB.set {w w' : World} {b1 m : Nat} {cs : List Value} (h : OwnB w b1 m cs) (q : Nat) (hq : q < m) (x : UInt8) (hb : Blo w' b1 5 (cs.take q ++ [Value.int .u8 (x.toNat : Int)] ++ cs.drop (q + 1)).toArray) : OwnB w' b1 m (cs.take q ++ [Value.int .u8 (x.toNat : Int)] ++ cs.drop (q + 1)) := by
  intro h0
  obtain ⟨h1, h2, h3⟩ := h h0
  refine ⟨hb, by simp; omega, fun i hi => ?_⟩
  have e : cs.take q ++ [Value.int .u8 (x.toNat : Int)] ++ cs.drop (q + 1) = cs.set q (Value.int .u8 (x.toNat : Int)) := by rw [List.set_eq_take_append_cons_drop, if_pos (by omega)]; simp
  rw [e]
  by_cases hiq : q = i
  · subst hiq
    exact ⟨x, by rw [List.getElem?_set_self (by omega)]⟩
  · obtain ⟨u, hu⟩ := h3 i hi
    exact ⟨u, by rw [List.getElem?_set_ne hiq]; exact hu⟩
theorem OwnB.kept {w w' : World} {b1 m : Nat} {cs : List Value} (h : OwnB w b1 m cs) (k : Kept Nil w w') : OwnB w' b1 m cs := fun h0 => ⟨(h h0).1.kept k (fun hf => hf), (h h0).2⟩
theorem infU' : (Tryd.prog.info? 5).map (·.size) = some 1 := by kernel_rfl
end Go.Proofs.YtiehmpiaddjhiaaDoor
