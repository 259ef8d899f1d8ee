/- Texts that belong together, one behind the other: OwnB, BpIa. Conditions: those of each. -/
import Derived.Test.YthjfeanmgaidcaaMg28
import Derived.Test.YthjfeanmgaidcaaMg7
import Derived.Test.YthjfeanmgaidcaaMg3
import Derived.Laws.BitsAllLaws
/- Bytes of the call's own, stored into one by one. -/
namespace Go.Proofs.Ythjfeanmgaidcaa
open Go.RowKit Go.Sort
set_option linter.unusedVariables false

theorem Byt.put {w : World} {b o n c : Nat} {l : List UInt8} (h : Byt w (some ⟨b, o, Option.none⟩) n c l) (q : Nat) (x : UInt8) (hq : q < n) : Byt (w.setCell ⟨b, o + q, Option.none⟩ (.int .u8 (x.toNat : Int))) (some ⟨b, o, Option.none⟩) n c (l.set q x) := by
  refine ⟨by rw [List.length_set]; exact h.1, h.2.1, h.2.2.1, fun h0 => ⟨b, o, rfl, fun i hi => ?_⟩⟩
  have hi' : i < l.length := by simpa using hi
  obtain ⟨b', o', e, hc⟩ := h.at hi'
  cases e
  by_cases hiq : q = i
  · subst hiq
    rw [World.cell?_setCell_same (h := hc)]
    simp
  · rw [World.cell?_setCell_other (h := fun e => by injection e with _ e _; omega), hc, List.getElem_set_ne hiq]
theorem xor255 (a : UInt8) : bits .xor .u8 (a.toNat : Int) 255 = ((a ^^^ 255).toNat : Int) := by
  have := u8_xor_nat a.toNat 255 a.toNat_lt (by omega)
  rw [show (255 : Int) = ((255 : Nat) : Int) from rfl, this, UInt8.toNat_xor]
  rfl
/-- Bytes of the call's own, as a block. -/
def OwnB (w : World) (b1 m : Nat) (cs : List Value) : Prop := 0 < m → Blo w b1 5 cs.toArray ∧ m ≤ cs.length ∧ ∀ i, i < m → ∃ u : UInt8, cs[i]? = some (.int .u8 (u.toNat : Int))
theorem own_B {w : World} {base m c : Nat} {A : Option Addr} {l : List UInt8} (h : w.ownsRow base 5 1 (.slice A m c) m (bys l)) : ∃ b1 cs, (0 < m → A = some ⟨b1, 0, none⟩ ∧ base ≤ b1) ∧ OwnB w b1 m cs := by
  rcases h.2 with ⟨e, h0⟩ | ⟨g, cap, cur, e, hb, hg, hnc, hcap, hsz, htk⟩
  · exact ⟨0, [], fun h => by omega, fun h => by omega⟩
  · injection e with e1 e2 e3
    refine ⟨g, cur.toList, fun _ => ⟨e1, hb⟩, fun _ => ⟨hg, by simp; omega, fun i hi => ?_⟩⟩
    have hl : l.length = m := by have := h.1; rw [bys_len] at this; omega
    have hil : i < l.length := by omega
    refine ⟨l[i], ?_⟩
    have h1 : (cur.toList.take (m * 1))[i]? = (bys l)[i]? := by rw [htk]
    rw [List.getElem?_take_of_lt (by omega)] at h1
    rw [h1]
    simp [bys, hil]
theorem OwnB.set {w w' : World} {b1 m : Nat} {cs : List Value} (h : OwnB w b1 m cs) (q : Nat) (hq : q < m) (x : UInt8) (hb : Blo w' b1 5 (cs.take q ++ [Value.int .u8 (x.toNat : Int)] ++ cs.drop (q + 1)).toArray) : OwnB w' b1 m (cs.take q ++ [Value.int .u8 (x.toNat : Int)] ++ cs.drop (q + 1)) := by
  intro h0
  obtain ⟨h1, h2, h3⟩ := h h0
  refine ⟨hb, by simp; omega, fun i hi => ?_⟩
  have e : cs.take q ++ [Value.int .u8 (x.toNat : Int)] ++ cs.drop (q + 1) = cs.set q (Value.int .u8 (x.toNat : Int)) := by rw [List.set_eq_take_append_cons_drop, if_pos (by omega)]; simp
  rw [e]
  by_cases hiq : q = i
  · subst hiq
    exact ⟨x, by rw [List.getElem?_set_self (by omega)]⟩
  · obtain ⟨u, hu⟩ := h3 i hi
    exact ⟨u, by rw [List.getElem?_set_ne hiq]; exact hu⟩
theorem OwnB.kept {w w' : World} {b1 m : Nat} {cs : List Value} (h : OwnB w b1 m cs) (k : Kept Nil w w') : OwnB w' b1 m cs := fun h0 => ⟨(h h0).1.kept k (fun hf => hf), (h h0).2⟩
theorem infU' : (Try.prog.info? 5).map (·.size) = some 1 := by kernel_rfl
end Go.Proofs.Ythjfeanmgaidcaa
/- tolllaw10.BpduIs: its frames. Plain. -/
namespace Go.Proofs.Ythjfeanmgaidcaa
open Go.RowKit Go.Sort
set_option linter.unusedVariables false

def tgI1 (q : Nat) : Tg := ⟨33024, 0, false, q⟩
def frI (s : List UInt8) (q : Nat) (b : List UInt8) : Fr := ⟨brd, s, [tgI1 q], 2, 0, lcb, z3, b, []⟩
theorem fri_six (s : List UInt8) (hs : s.length = 6) (q : Nat) (b : List UInt8) : (frI s q b).six := ⟨rfl, hs, rfl, rfl⟩
theorem fri_ok (s : List UInt8) (hs : s.length = 6) (q : Nat) (hq : q < 4096) (b : List UInt8) : (frI s q b).ok :=
  ⟨rfl, hs, fun t ht => (by
    obtain rfl := List.mem_singleton.1 ht
    exact ⟨show 33024 < 65536 by decide, show 0 < 256 by decide, show q < 65536 by omega⟩), ⟨show -9223372036854775808 ≤ (2 : Int) by decide, show (2 : Int) ≤ 9223372036854775807 by decide⟩, ⟨show -9223372036854775808 ≤ (0 : Int) by decide, show (0 : Int) ≤ 9223372036854775807 by decide⟩, rfl, rfl⟩
theorem fri_put (s : List UInt8) (hs : s.length = 6) (q : Nat) (hq : q < 4096) (b : List UInt8) (hb : b.length ≤ 100) : (putM (frI s q b)).2 = 0 ∧ (putM (frI s q b)).1.length ≤ 200 := by
  have hc : carryM (frI s q b) = true := by
    unfold carryM frI
    rw [if_neg (show ¬ (2 : Int) = 1 by decide), if_pos rfl]
    have e1 : decide (lcb = snapL) = false := by decide
    have e2 : decide (3 + b.length ≤ 1500) = true := decide_eq_true (by omega)
    show (decide ((0 : Int) = 0) && decide (z3 = z3) && !decide (lcb = snapL) && decide (3 + b.length ≤ 1500)) = true
    rw [e1, e2]
    rfl
  have hm : mayL [tgI1 q] = true := by
    have e : decide (q ≤ 4095) = true := decide_eq_true (by omega)
    show ((mayT (tgI1 q) && standM 33024 0) && true) = true
    unfold mayT
    rw [show (tgI1 q).n = q from rfl, e]
    rfl
  have ha : (aheadM (frI s q b)).length = 21 := by
    simp only [aheadM, headM, List.length_append, hs, frI, bytTs_len]
    rfl
  unfold putM
  rw [if_neg (by rw [hc]; show ¬ (mayL [tgI1 q] && true) = false; rw [hm]; decide), if_neg (by rw [ha]; show ¬ 65539 < 21 + b.length + 0; omega)]
  refine ⟨rfl, ?_⟩
  simp only [List.length_append, ha]
  show 21 + b.length + 0 ≤ 200
  omega
theorem fri_get (s : List UInt8) (hs : s.length = 6) (q : Nat) (hq : q < 4096) (b : List UInt8) (hb : b.length ≤ 100) : (getM (putM (frI s q b)).1).1 = frI s q b ∧ (getM (putM (frI s q b)).1).2.2 = 0 := by
  obtain ⟨h1, h2⟩ := fri_put s hs q hq b hb
  rw [get_put _ (fri_ok s hs q hq b) h1 (by omega)]
  exact ⟨rfl, rfl⟩
theorem fri_isF (s : List UInt8) (q : Nat) (b : List UInt8) : isF (frI s q b) = true := rfl
theorem xor_8i (a b : UInt8) : bits .xor .u8 (a.toNat : Int) (b.toNat : Int) = ((a ^^^ b).toNat : Int) := by
  rw [u8_xor_nat a.toNat b.toNat a.toNat_lt b.toNat_lt, UInt8.toNat_xor]
theorem xor_nei (a b : UInt8) (hb : b ≠ 0) : a ^^^ b ≠ a := by
  intro h
  have := congrArg (a ^^^ ·) h
  simp only [← UInt8.xor_assoc, UInt8.xor_self, UInt8.zero_xor] at this
  exact hb this
def dI (K : Nat) (x : UInt8) : List UInt8 := brd.set K (brd.getD K 0 ^^^ x)
def lI (J : Nat) (x : UInt8) : List UInt8 := lcb.set J (lcb.getD J 0 ^^^ x)
theorem dI_len (K : Nat) (x : UInt8) : (dI K x).length = 6 := by unfold dI; rw [List.length_set]; rfl
theorem lI_len (J : Nat) (x : UInt8) : (lI J x).length = 3 := by unfold lI; rw [List.length_set]; rfl
theorem dI_ne (K : Nat) (hK : K < 6) (x : UInt8) (hx : x ≠ 0) : (dI K x == brd) = false := by
  rw [beq_eq_false_iff_ne]
  intro h
  have h1 : (dI K x).getD K 0 = brd.getD K 0 := by rw [h]
  unfold dI at h1
  rw [List.getD_eq_getElem?_getD, List.getElem?_set_self (show K < brd.length from hK)] at h1
  exact xor_nei _ _ hx h1
theorem lI_ne (J : Nat) (hJ : J < 3) (x : UInt8) (hx : x ≠ 0) : (lI J x == lcb) = false := by
  rw [beq_eq_false_iff_ne]
  intro h
  have h1 : (lI J x).getD J 0 = lcb.getD J 0 := by rw [h]
  unfold lI at h1
  rw [List.getD_eq_getElem?_getD, List.getElem?_set_self (show J < lcb.length from hJ)] at h1
  exact xor_nei _ _ hx h1
theorem isF_g (s : List UInt8) (q : Nat) (b : List UInt8) (K : Nat) (hK : K < 6) (x : UInt8) (hx : x ≠ 0) : isF { frI s q b with d := dI K x } = false := isF_d _ (dI_ne K hK x hx)
theorem isF_h (s : List UInt8) (q : Nat) (b : List UInt8) (J : Nat) (hJ : J < 3) (x : UInt8) (hx : x ≠ 0) : isF { frI s q b with l := lI J x } = false := by
  rw [isF_l _ rfl rfl]
  exact lI_ne J hJ x hx
theorem isF_i (s : List UInt8) (q : Nat) (b : List UInt8) : isF { frI s q b with k := 1, y := 2048 } = false := isF_k _ (by show ¬ (1 : Int) = 2; decide)
/-- One byte of the destination, or of the LLC, is stored. -/
theorem set_dI {w : World} {g : Nat} {T : TypeId} {s : List UInt8} {q : Nat} {b : List UInt8} {vt vb vr : Value} (K : Nat) (hK : K < 6) (x : UInt8)
    (h : Blo w g T ((fcs (frI s q b) vt vb vr).take K ++ [Value.int .u8 ((brd.getD K 0 ^^^ x).toNat : Int)] ++ (fcs (frI s q b) vt vb vr).drop (K + 1)).toArray) : FB w g T { frI s q b with d := dI K x } vt vb vr := by
  match K, hK with
  | 0, _ => exact h
  | 1, _ => exact h
  | 2, _ => exact h
  | 3, _ => exact h
  | 4, _ => exact h
  | 5, _ => exact h
theorem set_lI {w : World} {g : Nat} {T : TypeId} {s : List UInt8} (hs : s.length = 6) {q : Nat} {b : List UInt8} {vt vb vr : Value} (J : Nat) (hJ : J < 3) (x : UInt8)
    (h : Blo w g T ((fcs (frI s q b) vt vb vr).take (15 + J) ++ [Value.int .u8 ((lcb.getD J 0 ^^^ x).toNat : Int)] ++ (fcs (frI s q b) vt vb vr).drop (15 + J + 1)).toArray) : FB w g T { frI s q b with l := lI J x } vt vb vr := by
  obtain ⟨s0, s1, s2, s3, s4, s5, rfl⟩ := six_of s hs
  match J, hJ with
  | 0, _ => exact h
  | 1, _ => exact h
  | 2, _ => exact h
end Go.Proofs.Ythjfeanmgaidcaa
