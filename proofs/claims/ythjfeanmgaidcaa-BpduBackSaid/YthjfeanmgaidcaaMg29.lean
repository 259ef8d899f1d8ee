/- Texts that belong together, one behind the other: OwnB, BpF. Conditions: those of each. -/
import Derived.Test.YthjfeanmgaidcaaMg28
import Derived.Test.YthjfeanmgaidcaaMg7
import Derived.Test.YthjfeanmgaidcaaMg3
import Derived.Laws.BitsAllLaws
import Derived.Test.YthjfeanmgaidcaaBpE
import Derived.Test.YthjfeanmgaidcaaMg24
/- Bytes of the call's own, stored into one by one. -/
namespace Go.Proofs.Ythjfeanmgaidcaa
open Go.RowKit Go.Sort
set_option linter.unusedVariables false

theorem Byt.put {w : World} {b o n c : Nat} {l : List UInt8} (h : Byt w (some ⟨b, o, Option.none⟩) n c l) (q : Nat) (x : UInt8) (hq : q < n) : Byt (w.setCell ⟨b, o + q, Option.none⟩ (.int .u8 (x.toNat : Int))) (some ⟨b, o, Option.none⟩) n c (l.set q x) := by
  refine ⟨by rw [List.length_set]; exact h.1, h.2.1, h.2.2.1, fun h0 => ⟨b, o, rfl, fun i hi => ?_⟩⟩
  have hi' : i < l.length := by simpa using hi
  obtain ⟨b', o', e, hc⟩ := h.at hi'
  cases e
  by_cases hiq : q = i
  · subst hiq
    rw [World.cell?_setCell_same (h := hc)]
    simp
  · rw [World.cell?_setCell_other (h := fun e => by injection e with _ e _; omega), hc, List.getElem_set_ne hiq]
theorem xor255 (a : UInt8) : bits .xor .u8 (a.toNat : Int) 255 = ((a ^^^ 255).toNat : Int) := by
  have := u8_xor_nat a.toNat 255 a.toNat_lt (by omega)
  rw [show (255 : Int) = ((255 : Nat) : Int) from rfl, this, UInt8.toNat_xor]
  rfl
/-- Bytes of the call's own, as a block. -/
def OwnB (w : World) (b1 m : Nat) (cs : List Value) : Prop := 0 < m → Blo w b1 5 cs.toArray ∧ m ≤ cs.length ∧ ∀ i, i < m → ∃ u : UInt8, cs[i]? = some (.int .u8 (u.toNat : Int))
theorem own_B {w : World} {base m c : Nat} {A : Option Addr} {l : List UInt8} (h : w.ownsRow base 5 1 (.slice A m c) m (bys l)) : ∃ b1 cs, (0 < m → A = some ⟨b1, 0, none⟩ ∧ base ≤ b1) ∧ OwnB w b1 m cs := by
  rcases h.2 with ⟨e, h0⟩ | ⟨g, cap, cur, e, hb, hg, hnc, hcap, hsz, htk⟩
  · exact ⟨0, [], fun h => by omega, fun h => by omega⟩
  · injection e with e1 e2 e3
    refine ⟨g, cur.toList, fun _ => ⟨e1, hb⟩, fun _ => ⟨hg, by simp; omega, fun i hi => ?_⟩⟩
    have hl : l.length = m := by have := h.1; rw [bys_len] at this; omega
    have hil : i < l.length := by omega
    refine ⟨l[i], ?_⟩
    have h1 : (cur.toList.take (m * 1))[i]? = (bys l)[i]? := by rw [htk]
    rw [List.getElem?_take_of_lt (by omega)] at h1
    rw [h1]
    simp [bys, hil]
theorem OwnB.set {w w' : World} {b1 m : Nat} {cs : List Value} (h : OwnB w b1 m cs) (q : Nat) (hq : q < m) (x : UInt8) (hb : Blo w' b1 5 (cs.take q ++ [Value.int .u8 (x.toNat : Int)] ++ cs.drop (q + 1)).toArray) : OwnB w' b1 m (cs.take q ++ [Value.int .u8 (x.toNat : Int)] ++ cs.drop (q + 1)) := by
  intro h0
  obtain ⟨h1, h2, h3⟩ := h h0
  refine ⟨hb, by simp; omega, fun i hi => ?_⟩
  have e : cs.take q ++ [Value.int .u8 (x.toNat : Int)] ++ cs.drop (q + 1) = cs.set q (Value.int .u8 (x.toNat : Int)) := by rw [List.set_eq_take_append_cons_drop, if_pos (by omega)]; simp
  rw [e]
  by_cases hiq : q = i
  · subst hiq
    exact ⟨x, by rw [List.getElem?_set_self (by omega)]⟩
  · obtain ⟨u, hu⟩ := h3 i hi
    exact ⟨u, by rw [List.getElem?_set_ne hiq]; exact hu⟩
theorem OwnB.kept {w w' : World} {b1 m : Nat} {cs : List Value} (h : OwnB w b1 m cs) (k : Kept Nil w w') : OwnB w' b1 m cs := fun h0 => ⟨(h h0).1.kept k (fun hf => hf), (h h0).2⟩
theorem infU' : (Try.prog.info? 5).map (·.size) = some 1 := by kernel_rfl
end Go.Proofs.Ythjfeanmgaidcaa
/- tolllaw10: the rows (tells), sign. -/
namespace Go.Proofs.Ythjfeanmgaidcaa
open Go.RowKit Go.Sort
set_option linter.unusedVariables false

def bxC : Bp := ⟨1, 0, 0, 0, 0, 0, 0, 1, 0, 0⟩
def bxR : Bp := ⟨3, 0, 0, 0, 0, 0, 0, 1, 0, 0⟩
theorem bxC_ok : bxC.ok := ⟨by decide, by decide, by decide, by decide, by decide, by decide, by decide, by decide, by decide, by decide, by decide⟩
theorem bxR_ok : bxR.ok := ⟨by decide, by decide, by decide, by decide, by decide, by decide, by decide, by decide, by decide, by decide, by decide⟩
theorem bx_chg : putB Bp.chg = ([0, 0, 0, 128], 0) := by decide +kernel
theorem bx_c : (putB bxC).1.length = 35 ∧ (putB bxC).2 = 0 := by decide +kernel
theorem bx_r : (putB bxR).1.length = 36 ∧ (putB bxR).2 = 0 := by decide +kernel
set_option maxRecDepth 100000 in
set_option maxHeartbeats 2000000 in
theorem rows_yes (w : World) : Calls Try.prog 19 #[] w fun e w' => e = .returned (.bool true) ∧ Kept Nil w w' := by
  go_enter Try.func19, Try.ntmps19
  go_wp2_with (fail)
  refine (bpput_yes Bp.chg Bp.chg_ok _).mono ?_
  rintro e w1 ⟨v1, rfl, hm⟩
  rw [bx_chg] at hm ⊢
  obtain ⟨A1, c1, rfl, hy1, -⟩ := byt_own hm
  have HY := Lib.hid hy1
  have HK := Lib.hid hm.2
  clear hm hy1
  go_wp2_with (fail)
  refine (bpput_yes bxC bxC_ok _).mono ?_
  rintro e w2 ⟨v2, rfl, hm⟩
  rw [bx_c.2]
  obtain ⟨A2, c2, rfl, hy2, -⟩ := byt_own hm
  rw [bx_c.1]
  have HY := Lib.hid (HY.out.kept hm.2 (fun _ _ hf => hf))
  have HK := Lib.hid (HK.out.then hm.2)
  clear hm hy2
  go_wp2_with (fail)
  refine (bpput_yes bxR bxR_ok _).mono ?_
  rintro e w3 ⟨v3, rfl, hm⟩
  rw [bx_r.2]
  obtain ⟨A3, c3, rfl, hy3, -⟩ := byt_own hm
  rw [bx_r.1]
  have HY := Lib.hid (HY.out.kept hm.2 (fun _ _ hf => hf))
  have HK := Lib.hid (HK.out.then hm.2)
  clear hm hy3
  have ht : (convert 31 9 (.slice A1 4 c1)).run Try.prog w3 = .ok (.string ⟨#[0, 0, 0, 128]⟩) w3 := HY.out.text (P := Try.prog) Try.underlying31 Try.underlying5 Try.underlying9
  go_wp2_with (fail)
  go_ret
  exact ⟨rfl, HK.out⟩
/-- sign: -1, 0, 1. -/
def sgn (x : Int) : Int := if x < 0 then -1 else if 0 < x then 1 else 0
theorem sgn_is (x : Int) : max (-1) (min x 1) = sgn x := by unfold sgn; omega
end Go.Proofs.Ythjfeanmgaidcaa
