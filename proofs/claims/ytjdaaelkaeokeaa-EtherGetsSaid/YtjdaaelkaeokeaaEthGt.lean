/- tolllaw04.EtherGets: the walk. -/
import Derived.Test.YtjdaaelkaeokeaaEthBk
import Derived.Test.YtjdaaelkaeokeaaEthR
import Derived.Laws.BitsAllLaws
namespace Go.Proofs.Ytjdaaelkaeokeaa
open Go.RowKit Go.Sort
set_option linter.unusedVariables false

theorem Byt.put {w : World} {b o n c : Nat} {l : List UInt8} (h : Byt w (some ⟨b, o, Option.none⟩) n c l) (q : Nat) (x : UInt8) (hq : q < n) : Byt (w.setCell ⟨b, o + q, Option.none⟩ (.int .u8 (x.toNat : Int))) (some ⟨b, o, Option.none⟩) n c (l.set q x) := by
  refine ⟨by rw [List.length_set]; exact h.1, h.2.1, h.2.2.1, fun h0 => ⟨b, o, rfl, fun i hi => ?_⟩⟩
  have hi' : i < l.length := by simpa using hi
  obtain ⟨b', o', e, hc⟩ := h.at hi'
  cases e
  by_cases hiq : q = i
  · subst hiq
    rw [World.cell?_setCell_same (h := hc)]
    simp
  · rw [World.cell?_setCell_other (h := fun e => by injection e with _ e _; omega), hc, List.getElem_set_ne hiq]
theorem xor255 (a : UInt8) : bits .xor .u8 (a.toNat : Int) 255 = ((a ^^^ 255).toNat : Int) := by
  have := u8_xor_nat a.toNat 255 a.toNat_lt (by omega)
  rw [show (255 : Int) = ((255 : Nat) : Int) from rfl, this, UInt8.toNat_xor]
  rfl
/-- Bytes of the call's own, as a block. -/
def OwnB (w : World) (b1 m : Nat) (cs : List Value) : Prop := 0 < m → Blo w b1 5 cs.toArray ∧ m ≤ cs.length ∧ ∀ i, i < m → ∃ u : UInt8, cs[i]? = some (.int .u8 (u.toNat : Int))
theorem own_B {w : World} {base m c : Nat} {A : Option Addr} {l : List UInt8} (h : w.ownsRow base 5 1 (.slice A m c) m (bys l)) : ∃ b1 cs, (0 < m → A = some ⟨b1, 0, none⟩ ∧ base ≤ b1) ∧ OwnB w b1 m cs := by
  rcases h.2 with ⟨e, h0⟩ | ⟨g, cap, cur, e, hb, hg, hnc, hcap, hsz, htk⟩
  · exact ⟨0, [], fun h => by omega, fun h => by omega⟩
  · injection e with e1 e2 e3
    refine ⟨g, cur.toList, fun _ => ⟨e1, hb⟩, fun _ => ⟨hg, by simp; omega, fun i hi => ?_⟩⟩
    have hl : l.length = m := by have := h.1; rw [bys_len] at this; omega
    have hil : i < l.length := by omega
    refine ⟨l[i], ?_⟩
    have h1 : (cur.toList.take (m * 1))[i]? = (bys l)[i]? := by rw [htk]
    rw [List.getElem?_take_of_lt (by omega)] at h1
    rw [h1]
    simp [bys, hil]
theorem OwnB.set {w w' : World} {b1 m : Nat} {cs : List Value} (h : OwnB w b1 m cs) (q : Nat) (hq : q < m) (x : UInt8) (hb : Blo w' b1 5 (cs.take q ++ [Value.int .u8 (x.toNat : Int)] ++ cs.drop (q + 1)).toArray) : OwnB w' b1 m (cs.take q ++ [Value.int .u8 (x.toNat : Int)] ++ cs.drop (q + 1)) := by
  intro h0
  obtain ⟨h1, h2, h3⟩ := h h0
  refine ⟨hb, by simp; omega, fun i hi => ?_⟩
  have e : cs.take q ++ [Value.int .u8 (x.toNat : Int)] ++ cs.drop (q + 1) = cs.set q (Value.int .u8 (x.toNat : Int)) := by rw [List.set_eq_take_append_cons_drop, if_pos (by omega)]; simp
  rw [e]
  by_cases hiq : q = i
  · subst hiq
    exact ⟨x, by rw [List.getElem?_set_self (by omega)]⟩
  · obtain ⟨u, hu⟩ := h3 i hi
    exact ⟨u, by rw [List.getElem?_set_ne hiq]; exact hu⟩
theorem OwnB.kept {w w' : World} {b1 m : Nat} {cs : List Value} (h : OwnB w b1 m cs) (k : Kept Nil w w') : OwnB w' b1 m cs := fun h0 => ⟨(h h0).1.kept k (fun hf => hf), (h h0).2⟩
theorem infU' : (Try.prog.info? 5).map (·.size) = some 1 := by kernel_rfl
def gtG (F : Fr) (vb vr : Value) (i : Nat) (v : Value) (u : World) : Prop := match i with
  | 0 => ∃ t1, v = frv F t1 vb vr ∧ FrRd u F t1 vb vr
  | _ => True
theorem gtG_kept {F : Fr} {vb vr : Value} (i : Nat) (v : Value) (u u' : World) (h : gtG F vb vr i v u) (k : Kept Nil u u') : gtG F vb vr i v u' := by
  match i, h with
  | 0, ⟨t1, e, h⟩ => exact ⟨t1, e, h.kept k⟩
  | _ + 1, _ => trivial
def gtP (F : Fr) (vb vr : Value) (i : Nat) (v : Value) : Prop := if i = 1 then ∃ t1, v = frv F t1 vb vr else v = .bool true
theorem got_small (l : List UInt8) (h : l.length ≤ 2000) : (getM l).1.ok ∧ (getM l).1.t.length ≤ 1000 ∧ (getM l).1.b.length ≤ 1000000 ∧ (getM l).1.r.length ≤ 1000000 := by
  by_cases h0 : (getM l).2.2 = 0
  · obtain ⟨h1, h2⟩ := put_get l h0
    have := put_lens (getM l).1 (by rw [h2])
    rw [h2] at this
    simp only at this
    exact ⟨h1, by omega, by omega, by omega⟩
  · rw [(get_none l h0).1]
    exact ⟨Fr.zero_ok, by decide, by decide, by decide⟩
theorem get_rest (l : List UInt8) : (getM l).2.2 = 0 → (getM l).2.1 = l.drop 12 ∧ 12 ≤ l.length := by
  intro h
  unfold getM at h ⊢
  split
  · rename_i h0; rw [if_pos h0] at h; cases h
  · rename_i h0
    rw [if_neg h0] at h
    split
    · rename_i h1; rw [if_pos h1] at h; cases h
    · rename_i h1
      rw [if_neg h1] at h
      split
      · rename_i h2; rw [if_pos h2] at h; exact absurd h h2
      · rename_i h2
        rw [if_neg h2] at h
        split
        · rename_i h3; rw [if_pos h3] at h; exact absurd h h3
        · exact ⟨rfl, by omega⟩
set_option maxRecDepth 100000 in
set_option maxHeartbeats 16000000 in
theorem egets_yes (A : Option Addr) (n c : Nat) (bl : List UInt8) (w : World) (h : Byt w A n c bl) :
    Calls Try.prog 4 #[.slice A n c] w fun e w' => e = .returned (.bool true) ∧ Below w.heap.size w w' := by
  have hnc := h.2.1
  obtain ⟨m, hm, hm1, hm2⟩ : ∃ m : Nat, (if (2000 : Int) < (n : Int) then (2000 : Int) else (n : Int)) = (m : Int) ∧ m ≤ n ∧ m ≤ 2000 := ⟨min n 2000, by split <;> omega, by omega, by omega⟩
  have hsl := run_cut_hi (P := Try.prog) Try.underlying26 inf5.1 A n c m (m : Int) rfl (by omega)
  have HB := Lib.hid (h.pre hm1)
  have HM := Lib.hid (And.intro hm2 (show m ≤ c by omega))
  generalize bl.take m = l at *
  clear h hm1 hm2 hnc
  obtain ⟨i0, hi, hz0, hz1, hz2⟩ := info_parts Try.infb
  go_enter Try.func4, Try.ntmps4
  go_wp2_with (at_builtin; refine wpList_any rfl _ _ 26 rfl w.heap.size 5 i0 (.int .u8 0) Try.underlying26 hi hz0 hz1 hz2 rfl (.slice none 0 0) 0 [] rfl (World.ownsRow_nil _ _ _ _) A m c l rfl HB.out (by have := HM.out.1; omega) (Nat.le_refl _) ?_; intro v1 w1 hown1 hgr1 hob1; clear hob1; rw [Nat.zero_add, List.nil_append] at hown1; have HO1 := Lib.hid hown1; have HG1 := Lib.hid hgr1; obtain ⟨A1, c1, rfl⟩ := own_form hown1; clear hown1 hgr1)
  have hk01 : Kept Nil w w1 := (Kept.refl Nil w).grown HG1.out (fun k hk => by cases hk)
  obtain ⟨A1', c1', e1, hy1, hl1⟩ := Byt.of_own (l := l) HO1.out
  cases e1
  have HY1 := Lib.hid hy1
  have HL1 := Lib.hid hl1
  have HL2 := Lib.hid hy1.lt
  have HB1 := Lib.hid (HB.out.kept hk01 (fun _ _ hf => hf))
  have HBLT := Lib.hid HB.out.lt
  have HK1 := Lib.hid hk01
  have HBLEN := Lib.hid HB.out.1
  obtain ⟨b1, cs1, hA1, hob⟩ := own_B HO1.out
  have HA1 := Lib.hid hA1
  have HOB1 := Lib.hid hob
  clear hk01 hy1 hl1 HO1 HG1 HB hsl hm hA1 hob
  refine (eget_yes A1 m c1 l w1 HY1.out (by have := HM.out.1; omega)).mono ?_
  rintro e w2 ⟨vt, vb, vr, rfl, hnf, hk⟩
  have hsm := got_small l (by rw [HBLEN.out]; exact HM.out.1)
  have hgr := get_rest l
  have hgn := get_none l
  have hbh := fun W (hW : Byt W A1 m c1 l) => behind_yes A1 m c1 l W hW (by have := HM.out.1; omega)
  have hrg := fun W (hW : Byt W A m c l) => rget_yes A m c l W hW (by have := HM.out.1; omega)
  generalize hR : getM l = R at *
  obtain ⟨F, X, E⟩ := R
  simp only at hnf hsm hgr hgn hbh hrg ⊢
  clear hR
  have HFOK := Lib.hid hsm
  have HSIX := Lib.hid hsm.1.six
  have HGR := Lib.hid hgr
  have HGN := Lib.hid hgn
  have HBH := Lib.hid hbh
  have HRG := Lib.hid hrg
  have HNF2 := Lib.hid hnf
  have HK12 := Lib.hid hk
  have HFN := Lib.hid (FB.new w2 28 Fr.zero nilv nilv nilv)
  clear hnf hk hsm hgr hgn hbh hrg
  go_upto_region 4 with (refine wpList_st rfl _ (.tmp 4) _ rfl _ 0 rfl (fcs F vt vb vr) _ rfl rfl (by rw [fcs_len HSIX.out]; exact infF) 28 _ HFN.out (by rw [fcs_len Fr.zero_six, fcs_len HSIX.out]; omega) HNF2.out.ones ?_; intro w3 hb3 hk3 hz3)
  have hk23 := ((Kept.refl Nil w2).alloc (.cells (fcs Fr.zero nilv nilv nilv).toArray 28)).fresh hk3 (fun i hi => by cases hi; exact Nat.le_refl _)
  have hk13 := HK12.out.then hk23
  have HF3 := Lib.hid (FB.of_all (f' := F) Fr.zero_six HSIX.out hb3)
  have HNF3 := Lib.hid (HNF2.out.kept hk23)
  have HY3 := Lib.hid (HY1.out.kept hk13 (fun _ _ hf => hf))
  have HB3 := Lib.hid (HB1.out.kept hk13 (fun _ _ hf => hf))
  have HK3 := Lib.hid (HK1.out.then hk13)
  have HOB3 := Lib.hid (HOB1.out.kept hk13)
  have HG4 := Lib.hid (show w1.heap.size ≤ w2.heap.size from HK12.out.size)
  have HG13 := Lib.hid (show w1.heap.size ≤ w3.heap.size from hk13.size)
  obtain ⟨g4, hg4⟩ : ∃ g, w2.heap.size = g := ⟨_, rfl⟩
  rw [hg4] at HF3 HG4 ⊢
  clear hb3 hk3 hz3 hk23 hk13 HFN HNF2 HK12 HY1 HB1 HK1 hg4 HOB1
  go_wp2_with (fail)
  refine (HBH.out w3 HY3.out).mono ?_
  rintro e w4 ⟨vx, rfl, hnx, hk⟩
  obtain ⟨Ax, nx, cx, rfl, hx, hxl⟩ := hnx
  have HC4 := Lib.hid hx
  have HCL := Lib.hid (show ∀ i, Lies Ax nx i → w1.heap.size ≤ i from fun i hi => Nat.le_trans HG13.out (hxl i hi))
  have HF4 := Lib.hid (HF3.out.kept hk (fun hf => hf))
  have HNF4 := Lib.hid (HNF3.out.kept hk)
  have HY4 := Lib.hid (HY3.out.kept hk (fun _ _ hf => hf))
  have HB4 := Lib.hid (HB3.out.kept hk (fun _ _ hf => hf))
  have HK4 := Lib.hid (HK3.out.then hk)
  have HOB4 := Lib.hid (HOB3.out.kept hk)
  clear hx hxl hk HF3 HNF3 HY3 HB3 HK3 HBH HOB3
  go_wp2_with (fail)
  go_loopw [8] (fun i wr => ∃ q : Nat, q ≤ m ∧ i = .int .i64 (q : Int) ∧ ∃ cs, Hid (OwnB wr b1 m cs) ∧ Hid (FB wr g4 28 F vt vb vr) ∧ Hid (NewF w1 wr F vt vb vr) ∧ Hid (Byt wr Ax nx cx X) ∧ Hid (Byt wr A m c l) ∧ Hid (Kept Nil w wr)) (fun i _ => m - (intOf i).toNat)
  case atStart => exact ⟨0, Nat.zero_le _, rfl, cs1, HOB4, HF4, HNF4, HC4, HB4, HK4⟩
  case round =>
    obtain ⟨q, hq, rfl, cs, HY, HF, HNF, HC, HB, HK⟩ := hrel
    clear HOB4 HY4 HF4 HNF4 HC4 HB4 HK4
    by_cases hlt : q < m
    · have hm2 := HM.out.1
      obtain ⟨e1, hlo⟩ := HA1.out (by omega)
      subst e1
      obtain ⟨hblo, hcl, hcu⟩ := HY.out (by omega)
      obtain ⟨x, hx⟩ := hcu q hlt
      have hcell : wr.cell? ⟨b1, 0 + q, none⟩ = some (.int .u8 (x.toNat : Int)) := by rw [hblo.cell]; simpa using hx
      rw [Nat.zero_add] at hcell
      have hxor := xor255 x
      have hhi : b1 < w1.heap.size := HL2.out b1 ⟨by omega, _, rfl, rfl⟩
      have HLO := Lib.hid hlo
      have HHI := Lib.hid hhi
      have HBLO := Lib.hid hblo
      have HCL := Lib.hid (And.intro hcl HCL.out)
      clear hx hlo hhi hblo hcl hcu
      go_wp2_with (refine wpList_st rfl _ _ _ rfl b1 q rfl [.int .u8 ((x ^^^ 255).toNat : Int)] _ (by first | rfl | simp [Act.eval]) rfl infU' 5 _ HBLO.out (by have := HCL.out.1; rw [List.length_singleton]; omega) (by intro u hu; simp at hu; subst hu; rfl) ?_; intro w5 hb5 hk5 hz5)
      have HY5 := Lib.hid (HY.out.set q hlt (x ^^^ 255) hb5)
      have HF5 := Lib.hid (HF.out.kept hk5 (fun hf => by unfold One at hf; have := HG4.out; have := HHI.out; omega))
      have HNF5 := Lib.hid (HNF.out.far hk5 HHI.out)
      have HC5 := Lib.hid (HC.out.kept hk5 (fun i hi hf => by have := HCL.out.2 i hi; have := HHI.out; cases hf; omega))
      have HB5 := Lib.hid (HB.out.kept hk5 (fun i hi hf => by have := HBLT.out i hi; have := HLO.out; cases hf; omega))
      have HK5 := Lib.hid (HK.out.fresh hk5 (fun i hi => by cases hi; exact HLO.out))
      clear hb5 hk5 hz5 HY HF HNF HC HB HK HBLO hcell hxor
      go_wp2
      go_roundw
      case rel => exact ⟨q + 1, by omega, by go_num, _, HY5, HF5, HNF5, HC5, HB5, HK5⟩
      case measure => simp [intOf]; omega
    · obtain rfl : q = m := by omega
      go_wp2_with (fail)
      refine (HRG.out wr HB.out).mono ?_
      rintro e w7 ⟨ut, ub, ur, rfl, hrd, hk⟩
      obtain ⟨Au, nu, cu, rfl, hu1⟩ := hrd.t
      obtain ⟨Av, nv, cv, rfl, hu2⟩ := hrd.b
      obtain ⟨Aw, nw, cw, rfl, hu3⟩ := hrd.r
      have HRD := Lib.hid hrd
      have HF7 := Lib.hid (HF.out.kept hk (fun hf => hf))
      have HNF7 := Lib.hid (HNF.out.kept hk)
      have HC7 := Lib.hid (HC.out.kept hk (fun _ _ hf => hf))
      have HB7 := Lib.hid (HB.out.kept hk (fun _ _ hf => hf))
      have HK7 := Lib.hid (HK.out.then hk)
      have HFN := Lib.hid (FB.new w7 32 Fr.zero nilv nilv nilv)
      clear hu1 hu2 hu3 hrd hk HY HF HNF HC HB HK HRG
      go_upto_region 10 with (refine wpList_st rfl _ (.tmp 9) _ rfl _ 0 rfl (fcs F (.slice Au nu cu) (.slice Av nv cv) (.slice Aw nw cw)) _ rfl rfl (by rw [fcs_len HSIX.out]; exact infR) 32 _ HFN.out (by rw [fcs_len Fr.zero_six, fcs_len HSIX.out]; omega) (fcs_one rfl rfl rfl) ?_; intro w9 hb9 hk9 hz9)
      have hk79 := ((Kept.refl Nil w7).alloc (.cells (fcs Fr.zero nilv nilv nilv).toArray 32)).fresh hk9 (fun i hi => by cases hi; exact Nat.le_refl _)
      have HG9 := Lib.hid (FB.of_all (f' := F) Fr.zero_six HSIX.out hb9)
      have HF9 := Lib.hid (HF7.out.kept hk79 (fun hf => hf))
      have HFI9 := Lib.hid ((HNF7.out.kept hk79).frIn HFOK.out.1 HFOK.out.2.1 HFOK.out.2.2.1 HFOK.out.2.2.2)
      have HRR9 := Lib.hid (HRD.out.kept hk79)
      have HC9 := Lib.hid (HC7.out.kept hk79 (fun _ _ hf => hf))
      have HB9 := Lib.hid (HB7.out.kept hk79 (fun _ _ hf => hf))
      have HK9 := Lib.hid (HK7.out.then hk79)
      obtain ⟨g9, hg9⟩ : ∃ g, w7.heap.size = g := ⟨_, rfl⟩
      rw [hg9] at HG9 ⊢
      clear hb9 hk9 hz9 hk79 hg9 HFN HF7 HNF7 HRD HC7 HB7 HK7
      obtain ⟨ut, hut⟩ : ∃ ut : Value, ut = .slice Au nu cu := ⟨_, rfl⟩
      obtain ⟨ub, hub⟩ : ∃ ub : Value, ub = .slice Av nv cv := ⟨_, rfl⟩
      obtain ⟨ur, hur⟩ : ∃ ur : Value, ur = .slice Aw nw cw := ⟨_, rfl⟩
      rw [← hut, ← hub, ← hur] at HG9 HRR9
      clear hut hub hur
      by_cases er0 : E = 0
      · obtain ⟨hX, h12⟩ := HGR.out er0
        have hm12 : 12 ≤ q := by rw [← HBLEN.out]; exact h12
        have hsl := run_cut_lo (P := Try.prog) Try.underlying26 inf5.1 inf5.2 A q c 12 (12 : Int) rfl (by omega)
        have hxc := HB9.out.cut (lo := 12) (hi := q) hm12 (Nat.le_refl _)
        rw [List.take_of_length_le (by rw [HBLEN.out]; exact Nat.le_refl _), ← hX] at hxc
        obtain ⟨Ay, hAy⟩ : ∃ Ay, cutA A c 12 = Ay := ⟨_, rfl⟩
        obtain ⟨ny, hny⟩ : ∃ ny, q - 12 = ny := ⟨_, rfl⟩
        obtain ⟨cy, hcy⟩ : ∃ cy, c - 12 = cy := ⟨_, rfl⟩
        rw [hAy, hny, hcy] at hsl
        rw [hAy, hny, hcy] at hxc
        have hx13 := hxc
        clear hxc hAy hny hcy hX h12 HGR HGN
        subst er0
        go_upto_region 13 with (fail)
        have HX13 := Lib.hid hx13
        clear hx13
        refine wp_region_acts Nil [1, 3, 22] (fun i vl => (#[], 0)) (fun i => undef) (actI (gtG F vb vr)) (gtP F vb vr) 25 (by kernel_rfl) (by kernel_rfl) (actI_keeps gtG_kept) actI_nil ?_
        simp only [List.take_succ_cons, List.take_zero, List.drop_succ_cons, List.drop_zero]
        refine tLex_quiets 1 rfl (by kernel_rfl) ?_
        simp only [List.take_succ_cons, List.take_zero, List.drop_succ_cons, List.drop_zero]
        apply Exists.intro
        refine ⟨?hq, ?hv, ?ht⟩
        case hq =>
          intro V hV
          refine wpQuiet_ld rfl _ _ rfl g4 0 rfl (fcs F vt vb vr) (fun w' hw => row_grown ((HF9.out.kept hV (fun hf => hf)).all) hw) _ Try.underlying28 rfl (by rw [fcs_len HSIX.out]; exact infF) ?_
          simp only [Act.put, List.setIfInBounds_toArray, List.set_cons_succ, List.set_cons_zero]
          exact wpQuiet_nil rfl
        case hv => exact ⟨trivial, trivial⟩
        case ht =>
          refine tLex_act 10 #[frv F vt vb vr] (fun u => ?he) rfl rfl (frv F nilv vb vr) ⟨_, rfl⟩ ?hc ?_
          case he => simp [execOp, go_sem]; rfl
          case hc =>
            intro D u hu hI hd
            refine (frOf_yes F vt vb vr u (HFI9.out.kept hu)).mono ?_
            rintro e w' ⟨v, rfl, hnt, hk⟩
            exact ⟨_, rfl, ⟨v, rfl⟩, hu.then hk, actI_snoc gtG_kept hI hk 0 rfl ⟨v, rfl, of_rd (HFI9.out.kept hu) hnt hk⟩, hk.size, fun k _ h2 => hk.block k h2 (fun hf => hf)⟩
          intro v7 hv7
          clear hv7
          simp only [Act.put, List.setIfInBounds_toArray, List.set_cons_succ, List.set_cons_zero]
          refine tLex_quiets 1 rfl (by kernel_rfl) ?_
          simp only [List.take_succ_cons, List.take_zero, List.drop_succ_cons, List.drop_zero]
          apply Exists.intro
          refine ⟨?hq2, ?hv2, ?ht2⟩
          case hq2 =>
            intro V hV
            refine wpQuiet_ld rfl _ _ rfl g9 0 rfl (fcs F ut ub ur) (fun w' hw => row_grown ((HG9.out.kept hV (fun hf => hf)).all) hw) _ Try.underlying32 rfl (by rw [fcs_len HSIX.out]; exact infR) ?_
            simp only [Act.put, List.setIfInBounds_toArray, List.set_cons_succ, List.set_cons_zero]
            exact wpQuiet_nil rfl
          case hv2 => exact ⟨trivial, trivial⟩
          case ht2 =>
            refine tLex_act 19 #[v7, frv F ut ub ur] (fun u => ?he3) rfl rfl (.bool true) rfl ?hc3 ?_
            case he3 => simp [execOp, go_sem]; rfl
            case hc3 =>
              intro D u hu hI hd
              obtain ⟨t1, rfl, h1⟩ := hI 0 _ rfl
              refine (same_yes F t1 vb vr ut ub ur u h1 (HRR9.out.kept hu)).mono ?_
              rintro e w' ⟨rfl, hk⟩
              exact ⟨_, rfl, rfl, hu.then hk, actI_snoc gtG_kept hI hk 1 rfl trivial, hk.size, fun k _ h2 => hk.block k h2 (fun hf => hf)⟩
            intro v8 hv8
            obtain rfl : v8 = .bool true := hv8
            simp only [Act.put, List.setIfInBounds_toArray, List.set_cons_succ, List.set_cons_zero]
            refine tLex_quiets 18 rfl (by kernel_rfl) ?_
            simp only [List.take_succ_cons, List.take_zero, List.drop_succ_cons, List.drop_zero]
            apply Exists.intro
            refine ⟨?hq4, ?hv4, ?ht4⟩
            case hq4 =>
              intro V hV
              have tx := fun d os => ((HC9.out.kept hV (fun _ _ hf => hf)).kept (kept_grown' V d os) (fun _ _ hf => hf)).text (P := Try.prog) Try.underlying26 Try.underlying5 Try.underlying9
              have ty := fun d os => ((HX13.out.kept hV (fun _ _ hf => hf)).kept (kept_grown' V d os) (fun _ _ hf => hf)).text (P := Try.prog) Try.underlying26 Try.underlying5 Try.underlying9
              repeat (go_big_quiet_step (fail))
              exact wpQuiet_nil rfl
            case hv4 => exact ⟨trivial, trivial, trivial, trivial, trivial, trivial, trivial, trivial, trivial, trivial, trivial, trivial, trivial, trivial, trivial, trivial, trivial, trivial, trivial⟩
            case ht4 =>
              refine tLex_act 15 #[] (fun u => ?he5) rfl rfl (.bool true) rfl ?hc5 ?_
              case he5 => simp [execOp, go_sem]
              case hc5 =>
                intro D u hu hI hd
                refine (tells_yes u).mono ?_
                rintro e w' ⟨rfl, hk⟩
                exact ⟨_, rfl, rfl, hu.then hk, actI_snoc gtG_kept hI hk 2 rfl trivial, hk.size, fun k _ h2 => hk.block k h2 (fun hf => hf)⟩
              intro v10 hv10
              obtain rfl : v10 = .bool true := hv10
              simp only [Act.put, List.setIfInBounds_toArray, List.set_cons_succ, List.set_cons_zero]
              refine tLex_quiets 2 rfl (by kernel_rfl) ?_
              simp only [List.take_succ_cons, List.take_zero, List.drop_succ_cons, List.drop_zero]
              apply Exists.intro
              refine ⟨?hq6, ?hv6, ?ht6⟩
              case hq6 =>
                intro V hV
                repeat (go_big_quiet_step (fail))
                exact wpQuiet_nil rfl
              case hv6 => exact ⟨trivial, trivial, trivial⟩
              case ht6 =>
                intro w11 hs
                have HK11 := Lib.hid (HK9.out.then hs.kept)
                clear hs
                go_wp2
                go_ret
                exact ⟨rfl, HK11.out.below (Nat.le_refl _) (fun _ hf => hf.elim)⟩
      · have hX := (HGN.out er0).2
        have her : (E == 0) = false := by simp [er0]
        have hx13 : Byt w9 none 0 0 X := by rw [show X = [] from hX]; exact Byt.none _
        clear hX HGR HGN
        go_upto_region 13 with (fail)
        have HX13 := Lib.hid hx13
        clear hx13
        refine wp_region_acts Nil [1, 3, 22] (fun i vl => (#[], 0)) (fun i => undef) (actI (gtG F vb vr)) (gtP F vb vr) 25 (by kernel_rfl) (by kernel_rfl) (actI_keeps gtG_kept) actI_nil ?_
        simp only [List.take_succ_cons, List.take_zero, List.drop_succ_cons, List.drop_zero]
        refine tLex_quiets 1 rfl (by kernel_rfl) ?_
        simp only [List.take_succ_cons, List.take_zero, List.drop_succ_cons, List.drop_zero]
        apply Exists.intro
        refine ⟨?hq, ?hv, ?ht⟩
        case hq =>
          intro V hV
          refine wpQuiet_ld rfl _ _ rfl g4 0 rfl (fcs F vt vb vr) (fun w' hw => row_grown ((HF9.out.kept hV (fun hf => hf)).all) hw) _ Try.underlying28 rfl (by rw [fcs_len HSIX.out]; exact infF) ?_
          simp only [Act.put, List.setIfInBounds_toArray, List.set_cons_succ, List.set_cons_zero]
          exact wpQuiet_nil rfl
        case hv => exact ⟨trivial, trivial⟩
        case ht =>
          refine tLex_act 10 #[frv F vt vb vr] (fun u => ?he) rfl rfl (frv F nilv vb vr) ⟨_, rfl⟩ ?hc ?_
          case he => simp [execOp, go_sem]; rfl
          case hc =>
            intro D u hu hI hd
            refine (frOf_yes F vt vb vr u (HFI9.out.kept hu)).mono ?_
            rintro e w' ⟨v, rfl, hnt, hk⟩
            exact ⟨_, rfl, ⟨v, rfl⟩, hu.then hk, actI_snoc gtG_kept hI hk 0 rfl ⟨v, rfl, of_rd (HFI9.out.kept hu) hnt hk⟩, hk.size, fun k _ h2 => hk.block k h2 (fun hf => hf)⟩
          intro v7 hv7
          clear hv7
          simp only [Act.put, List.setIfInBounds_toArray, List.set_cons_succ, List.set_cons_zero]
          refine tLex_quiets 1 rfl (by kernel_rfl) ?_
          simp only [List.take_succ_cons, List.take_zero, List.drop_succ_cons, List.drop_zero]
          apply Exists.intro
          refine ⟨?hq2, ?hv2, ?ht2⟩
          case hq2 =>
            intro V hV
            refine wpQuiet_ld rfl _ _ rfl g9 0 rfl (fcs F ut ub ur) (fun w' hw => row_grown ((HG9.out.kept hV (fun hf => hf)).all) hw) _ Try.underlying32 rfl (by rw [fcs_len HSIX.out]; exact infR) ?_
            simp only [Act.put, List.setIfInBounds_toArray, List.set_cons_succ, List.set_cons_zero]
            exact wpQuiet_nil rfl
          case hv2 => exact ⟨trivial, trivial⟩
          case ht2 =>
            refine tLex_act 19 #[v7, frv F ut ub ur] (fun u => ?he3) rfl rfl (.bool true) rfl ?hc3 ?_
            case he3 => simp [execOp, go_sem]; rfl
            case hc3 =>
              intro D u hu hI hd
              obtain ⟨t1, rfl, h1⟩ := hI 0 _ rfl
              refine (same_yes F t1 vb vr ut ub ur u h1 (HRR9.out.kept hu)).mono ?_
              rintro e w' ⟨rfl, hk⟩
              exact ⟨_, rfl, rfl, hu.then hk, actI_snoc gtG_kept hI hk 1 rfl trivial, hk.size, fun k _ h2 => hk.block k h2 (fun hf => hf)⟩
            intro v8 hv8
            obtain rfl : v8 = .bool true := hv8
            simp only [Act.put, List.setIfInBounds_toArray, List.set_cons_succ, List.set_cons_zero]
            refine tLex_quiets 18 rfl (by kernel_rfl) ?_
            simp only [List.take_succ_cons, List.take_zero, List.drop_succ_cons, List.drop_zero]
            apply Exists.intro
            refine ⟨?hq4, ?hv4, ?ht4⟩
            case hq4 =>
              intro V hV
              have tx := fun d os => ((HC9.out.kept hV (fun _ _ hf => hf)).kept (kept_grown' V d os) (fun _ _ hf => hf)).text (P := Try.prog) Try.underlying26 Try.underlying5 Try.underlying9
              have ty := fun d os => ((HX13.out.kept hV (fun _ _ hf => hf)).kept (kept_grown' V d os) (fun _ _ hf => hf)).text (P := Try.prog) Try.underlying26 Try.underlying5 Try.underlying9
              repeat (go_big_quiet_step (fail))
              exact wpQuiet_nil rfl
            case hv4 => exact ⟨trivial, trivial, trivial, trivial, trivial, trivial, trivial, trivial, trivial, trivial, trivial, trivial, trivial, trivial, trivial, trivial, trivial, trivial, trivial⟩
            case ht4 =>
              refine tLex_act 15 #[] (fun u => ?he5) rfl rfl (.bool true) rfl ?hc5 ?_
              case he5 => simp [execOp, go_sem]
              case hc5 =>
                intro D u hu hI hd
                refine (tells_yes u).mono ?_
                rintro e w' ⟨rfl, hk⟩
                exact ⟨_, rfl, rfl, hu.then hk, actI_snoc gtG_kept hI hk 2 rfl trivial, hk.size, fun k _ h2 => hk.block k h2 (fun hf => hf)⟩
              intro v10 hv10
              obtain rfl : v10 = .bool true := hv10
              simp only [Act.put, List.setIfInBounds_toArray, List.set_cons_succ, List.set_cons_zero]
              refine tLex_quiets 2 rfl (by kernel_rfl) ?_
              simp only [List.take_succ_cons, List.take_zero, List.drop_succ_cons, List.drop_zero]
              apply Exists.intro
              refine ⟨?hq6, ?hv6, ?ht6⟩
              case hq6 =>
                intro V hV
                repeat (go_big_quiet_step (fail))
                exact wpQuiet_nil rfl
              case hv6 => exact ⟨trivial, trivial, trivial⟩
              case ht6 =>
                intro w11 hs
                have HK11 := Lib.hid (HK9.out.then hs.kept)
                clear hs
                go_wp2
                go_ret
                exact ⟨rfl, HK11.out.below (Nat.le_refl _) (fun _ hf => hf.elim)⟩
end Go.Proofs.Ytjdaaelkaeokeaa
