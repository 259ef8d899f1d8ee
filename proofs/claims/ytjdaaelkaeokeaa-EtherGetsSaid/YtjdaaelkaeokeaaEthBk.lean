/- tolllaw04.EtherBack: the walk. -/
import Derived.Test.YtjdaaelkaeokeaaEthF
import Derived.Test.YtjdaaelkaeokeaaEthFr
import Derived.Test.YtjdaaelkaeokeaaEthS
import Derived.Test.YtjdaaelkaeokeaaEthE
import Derived.Test.YtjdaaelkaeokeaaEthL
import Derived.Test.YtjdaaelkaeokeaaEthI
import Derived.Test.YtjdaaelkaeokeaaEthU
namespace Go.Proofs.Ytjdaaelkaeokeaa
open Go.RowKit Go.Sort
set_option linter.unusedVariables false

theorem fewM_ok {f : Fr} (h : f.ok) : (fewM f).ok := ⟨h.d, h.s, fun t ht => h.t t (List.mem_of_mem_take ht), h.k, h.y, h.l, h.o⟩
theorem fewM_small (f : Fr) : (fewM f).t.length ≤ 4 ∧ (fewM f).b.length ≤ 1600 ∧ (fewM f).r.length ≤ 1600 := by
  refine ⟨?_, ?_, ?_⟩ <;> (simp only [fewM, List.length_take]; omega)
theorem NewF.frIn {w w' : World} {f : Fr} {vt vb vr : Value} (h : NewF w w' f vt vb vr) (hok : f.ok) (h1 : f.t.length ≤ 1000) (h2 : f.b.length ≤ 1000000) (h3 : f.r.length ≤ 1000000) : FrIn w' f vt vb vr := by
  obtain ⟨A, n, c, e, ht, _⟩ := h.t
  obtain ⟨A1, n1, c1, e1, hb, _⟩ := h.b
  obtain ⟨A2, n2, c2, e2, hr, _⟩ := h.r
  exact ⟨hok, ⟨A, n, c, e, ht⟩, ⟨A1, n1, c1, e1, hb⟩, ⟨A2, n2, c2, e2, hr⟩, h1, h2, h3⟩
theorem FrIn.rd {w : World} {f : Fr} {vt vb vr : Value} (h : FrIn w f vt vb vr) : FrRd w f vt vb vr := ⟨h.ok.six, h.t, h.b, h.r, h.tn⟩
theorem FrIn.far {w w' : World} {f : Fr} {vt vb vr : Value} {g B : Nat} {w0 : World} (h : NewF w0 w f vt vb vr) (hi : FrIn w f vt vb vr) (k : Kept (One g) w w') (hg : g < w0.heap.size) : FrIn w' f vt vb vr := (h.far k hg).frIn hi.ok hi.tn hi.bn hi.rn
theorem Fr.zero_ok : Fr.zero.ok := ⟨rfl, rfl, fun _ h => (by cases h), ⟨by decide, by decide⟩, ⟨by decide, by decide⟩, rfl, rfl⟩
theorem put_lens (f : Fr) (h : (putM f).2 = 0) : f.t.length * 4 + f.b.length + f.r.length ≤ (putM f).1.length := by
  unfold putM at h ⊢
  split
  · rename_i h0; rw [if_pos h0] at h; simp at h
  · rename_i h0
    rw [if_neg h0] at h
    split
    · rename_i h1; rw [if_pos h1] at h; simp at h
    · have := bytTs_len f.t
      simp only [aheadM, List.length_append]
      omega
def bkG (G : Fr) (ub ur pb pr : Value) (i : Nat) (v : Value) (u : World) : Prop := match i with
  | 0 => ∃ t1, v = frv G t1 ub ur ∧ FrRd u G t1 ub ur
  | 1 => ∃ t2, v = frv G t2 pb pr ∧ FrRd u G t2 pb pr
  | _ => True
theorem bkG_kept {G : Fr} {ub ur pb pr : Value} (i : Nat) (v : Value) (u u' : World) (h : bkG G ub ur pb pr i v u) (k : Kept Nil u u') : bkG G ub ur pb pr i v u' := by
  match i, h with
  | 0, ⟨t1, e, h⟩ => exact ⟨t1, e, h.kept k⟩
  | 1, ⟨t1, e, h⟩ => exact ⟨t1, e, h.kept k⟩
  | _ + 2, _ => trivial
def bkP (G : Fr) (ub ur pb pr : Value) (i : Nat) (v : Value) : Prop := if i = 4 then ∃ t1, v = frv G t1 ub ur else if i = 6 then ∃ t2, v = frv G t2 pb pr else v = .bool true
/-- What Of tells can be read. -/
theorem of_rd {f : Fr} {vt vb vr v : Value} {u w' : World} (h : FrIn u f vt vb vr) (hn : NewT u w' v f.t) (k : Kept Nil u w') : FrRd w' f v vb vr := by
  obtain ⟨A, n, c, e, ht, _⟩ := hn
  have h' := h.kept k
  exact ⟨h.ok.six, ⟨A, n, c, e, ht⟩, h'.b, h'.r, h.tn⟩
theorem putM_len (f : Fr) (hok : f.ok) (h : Hid (f.t.length ≤ 4 ∧ f.b.length ≤ 1600 ∧ f.r.length ≤ 1600)) : (putM f).1.length ≤ 100000000 := by
  have h := h.out
  unfold putM
  split
  · simp
  · split
    · simp
    · have := bytTs_len f.t
      have h2 := hok.d
      have h3 := hok.s
      have h4 := head_len f hok.l hok.o
      simp only [aheadM, List.length_append]
      omega
set_option maxRecDepth 100000 in
set_option maxHeartbeats 8000000 in
theorem eback_yes (x : FrA) (A : Option Addr) (n c : Nat) (bl : List UInt8) (w : World) (hx : x.In w) (hb : Byt w A n c bl) :
    Calls Try.prog 5 #[frv x.f x.vt x.vb x.vr, .slice A n c] w fun e w' => e = .returned (.bool true) ∧ Below w.heap.size w w' := by
  obtain ⟨f, vt, vb, vr⟩ := x
  obtain ⟨hok, ht, hbb, hrr⟩ := hx
  simp only at hok ht hbb hrr ⊢
  obtain ⟨At, nt, ct, rfl, ht⟩ := ht
  obtain ⟨Ab, nb, cb, rfl, hbb⟩ := hbb
  obtain ⟨Ar, nr, cr, rfl, hrr⟩ := hrr
  have hF := FB.new w 28 f (.slice At nt ct) (.slice Ab nb cb) (.slice Ar nr cr)
  have hk0 := (Kept.refl Nil w).alloc (.cells (fcs f (.slice At nt ct) (.slice Ab nb cb) (.slice Ar nr cr)).toArray 28)
  have HF := Lib.hid hF
  have HK0 := Lib.hid hk0
  have HSIX := Lib.hid hok.six
  have HSZ := Lib.hid (show w.heap.size < (w.alloc (.cells (fcs f (.slice At nt ct) (.slice Ab nb cb) (.slice Ar nr cr)).toArray 28)).heap.size by simp)
  have HFEW := Lib.hid (few_yes f (.slice At nt ct) (.slice Ab nb cb) (.slice Ar nr cr) (w.alloc (.cells (fcs f (.slice At nt ct) (.slice Ab nb cb) (.slice Ar nr cr)).toArray 28)) hok ⟨_, _, _, rfl, ht.kept hk0 (fun _ _ hf => hf)⟩ ⟨_, _, _, rfl, hbb.kept hk0 (fun _ _ hf => hf)⟩ ⟨_, _, _, rfl, hrr.kept hk0 (fun _ _ hf => hf)⟩)
  have HGOK := Lib.hid (fewM_ok hok)
  have HB := Lib.hid hb
  clear hF hk0 hok ht hbb hrr hb
  go_enter Try.func5, Try.ntmps5
  go_upto_region 1 with (fail)
  refine wp_nameE (fun W => W = w.alloc (.cells (fcs f (.slice At nt ct) (.slice Ab nb cb) (.slice Ar nr cr)).toArray 28)) rfl ?_
  rintro W rfl
  go_wp2_with (refine wpList_ld rfl _ (.tmp 2) rfl _ 0 rfl _ HF.out.all _ Try.underlying28 rfl (by rw [fcs_len HSIX.out]; exact infF) ?_)
  refine HFEW.out.mono ?_
  rintro e w1 ⟨ut, ub, ur, rfl, hnf, hk⟩
  have hsm := fewM_small f
  generalize hG : fewM f = G at *
  clear hG
  have HGSIX := Lib.hid HGOK.out.six
  have HNF := Lib.hid hnf
  have HIN := Lib.hid (hnf.frIn HGOK.out (by omega) (by omega) (by omega))
  have HF1 := Lib.hid (HF.out.kept hk (fun hf => hf))
  have HK1 := Lib.hid (HK0.out.then hk)
  have hsm' := Lib.hid hsm
  clear hsm hnf hk HF HFEW HK0
  go_wp2_with (first
    | (refine wpList_st rfl _ (.tmp 2) _ rfl _ 0 rfl (fcs G ut ub ur) _ rfl rfl (by rw [fcs_len HGSIX.out]; exact infF) 28 _ HF1.out (by rw [fcs_len HSIX.out, fcs_len HGSIX.out]; omega) HNF.out.ones ?_; intro w2 hb2 hk2 hz2; have HF2 := Lib.hid (FB.of_all (f' := G) HSIX.out HGSIX.out hb2); have HIN2 := Lib.hid (FrIn.far (B := 0) HNF.out HIN.out hk2 HSZ.out); have HK2 := Lib.hid (HK1.out.fresh hk2 (fun i hi => by cases hi; exact Nat.le_refl _)); clear hb2 hk2 hz2 HF1 HNF HIN HK1 HSZ)
    | (refine wpList_ld rfl _ (.tmp 2) rfl _ 0 rfl _ HF2.out.all _ Try.underlying28 rfl (by rw [fcs_len HGSIX.out]; exact infF) ?_))
  refine (put_yes G ut ub ur w2 HIN2.out).mono ?_
  rintro e w3 ⟨v, rfl, hm⟩
  have herr := put_err G
  have hgp := get_put G HGOK.out
  generalize hP : putM G = P at *
  obtain ⟨y, E⟩ := P
  simp only at herr hgp hm ⊢
  obtain ⟨A1, c1, rfl⟩ := own_form hm.1
  obtain ⟨A1', c1', e1, hy, hy2⟩ := Byt.of_own hm.1
  cases e1
  have HY := Lib.hid hy
  have HIN3 := Lib.hid (HIN2.out.kept hm.2)
  have HF3 := Lib.hid (HF2.out.kept hm.2 (fun hf => hf))
  have HK3 := Lib.hid (HK2.out.then hm.2)
  have HGP := Lib.hid hgp
  have HERR := Lib.hid herr
  have HYL := Lib.hid (show y.length ≤ 100000000 by have := putM_len G HGOK.out hsm'; rw [hP] at this; exact this)
  clear hm hy hy2 hgp herr HF2 HIN2 HK2 hP
  go_upto_region 3 with (fail)
  obtain ⟨B, hB1, hB0⟩ : ∃ B : Bool, (B = true → E = 0 ∧ y.length ≤ 65535) ∧ (B = false → ¬ (E = 0 ∧ y.length ≤ 65535)) := by
    by_cases h : E = 0 ∧ y.length ≤ 65535
    · exact ⟨true, ⟨fun _ => h, fun h => (by cases h)⟩⟩
    · exact ⟨false, ⟨fun h => (by cases h), fun _ => h⟩⟩
  have HB1 := Lib.hid hB1
  have HB0 := Lib.hid hB0
  clear hB1 hB0
  go_cut [26] from 20 to 25 (fun s wx => s = .bool B ∧ wx = w3)
  case first =>
    cases B with
    | true =>
      obtain ⟨e0, hle⟩ := HB1.out rfl
      clear HERR HGP
      subst e0
      have hle' : (y.length : Int) ≤ 65535 := by omega
      go_wp2_with (fail)
      go_meet
      exact ⟨rfl, rfl⟩
    | false =>
      have h0 := HB0.out rfl
      by_cases e0 : E = 0
      · subst e0
        have hle' : ¬ (y.length : Int) ≤ 65535 := by omega
        clear h0 HERR HGP
        go_wp2_with (fail)
        go_meet
        exact ⟨rfl, rfl⟩
      · have e1 : E = 1 ∨ E = 3 := by rcases HERR.out with h | ⟨_, h⟩; exact absurd h e0; exact h
        clear h0 HERR HGP HB0 HB1 e0
        rcases e1 with rfl | rfl
        · go_wp2_with (fail)
          go_meet
          exact ⟨rfl, rfl⟩
        · go_wp2_with (fail)
          go_meet
          exact ⟨rfl, rfl⟩
  case rest =>
    obtain ⟨rfl, rfl⟩ := hcut
    go_upto_if 26 with (fail)
    go_cut [7, 8] from 20 to 41 (fun _ _ wx => Kept Nil wc wx)
    case first =>
      cases B with
      | false =>
        go_wp2_with (fail)
        go_meet
        exact Kept.refl _ _
      | true =>
        obtain ⟨e0, hle⟩ := HB1.out rfl
        have hgp := HGP.out e0 hle
        have HGET := Lib.hid hgp
        have HIN := Lib.hid HIN3.out
        clear hgp hle HERR HGP HB0 HB1 e0
        go_wp2_with (fail)
        refine (eget_yes A1 _ c1 y _ HY.out (by have := HYL.out; omega)).mono ?_
        rintro e w4 ⟨pt, pb, pr, rfl, hnf, hk⟩
        rw [HGET.out] at hnf ⊢
        simp only at hnf ⊢
        have HNF4 := Lib.hid hnf
        have HK4 := Lib.hid hk
        have HFN := Lib.hid (FB.new w4 28 Fr.zero nilv nilv nilv)
        clear hnf hk HGET HY HYL
        go_upto_region 5 with (refine wpList_st rfl _ (.tmp 7) _ rfl _ 0 rfl (fcs G pt pb pr) _ rfl rfl (by rw [fcs_len HGSIX.out]; exact infF) 28 _ HFN.out (by rw [fcs_len Fr.zero_six, fcs_len HGSIX.out]; omega) HNF4.out.ones ?_; intro w5 hb5 hk5 hz5)
        have hk45 := ((Kept.refl Nil w4).alloc (.cells (fcs Fr.zero nilv nilv nilv).toArray 28)).fresh hk5 (fun i hi => by cases hi; exact Nat.le_refl _)
        have HP5 := Lib.hid (FB.of_all (f' := G) Fr.zero_six HGSIX.out hb5)
        have HU5 := Lib.hid (HF3.out.kept (HK4.out.then hk45) (fun hf => hf))
        have HIU := Lib.hid (HIN.out.kept (HK4.out.then hk45))
        have HIP := Lib.hid (((HNF4.out.frIn HGOK.out HIN.out.tn HIN.out.bn HIN.out.rn)).kept hk45)
        have HK5 := Lib.hid (HK4.out.then hk45)
        clear hb5 hk5 hz5 hk45 HFN HNF4 HK4 HIN HF3 HIN3
        refine wp_region_acts Nil [4, 6, 7] (fun i vl => (#[], 0)) (fun i => undef) (actI (bkG G ub ur pb pr)) (bkP G ub ur pb pr) 10 (by kernel_rfl) (by kernel_rfl) (actI_keeps bkG_kept) actI_nil ?_
        simp only [List.take_succ_cons, List.take_zero, List.drop_succ_cons, List.drop_zero]
        refine tLex_quiets 4 rfl (by kernel_rfl) ?_
        simp only [List.take_succ_cons, List.take_zero, List.drop_succ_cons, List.drop_zero]
        apply Exists.intro
        refine ⟨?hq, ?hv, ?ht⟩
        case hq =>
          intro V hV
          go_big_quiet_step (fail)
          go_big_quiet_step (fail)
          go_big_quiet_step (fail)
          refine wpQuiet_ld rfl _ _ rfl w.heap.size 0 rfl (fcs G ut ub ur) (fun w' hw => row_grown ((HU5.out.kept hV (fun hf => hf)).all) hw) _ Try.underlying28 rfl (by rw [fcs_len HGSIX.out]; exact infF) ?_
          simp only [Act.put, List.setIfInBounds_toArray, List.set_cons_succ, List.set_cons_zero]
          exact wpQuiet_nil rfl
        case hv => exact ⟨trivial, trivial, trivial, trivial, trivial⟩
        case ht =>
          refine tLex_act 10 #[frv G ut ub ur] (fun u => ?he) rfl rfl (frv G nilv ub ur) ⟨_, rfl⟩ ?hc ?_
          case he => simp [execOp, go_sem]; rfl
          case hc =>
            intro D u hu hI hd
            refine (frOf_yes G ut ub ur u (HIU.out.kept hu)).mono ?_
            rintro e w' ⟨v, rfl, hnt, hk⟩
            exact ⟨_, rfl, ⟨v, rfl⟩, hu.then hk, actI_snoc bkG_kept hI hk 0 rfl ⟨v, rfl, of_rd (HIU.out.kept hu) hnt hk⟩, hk.size, fun k _ h2 => hk.block k h2 (fun hf => hf)⟩
          intro v1 hv1
          clear hv1
          simp only [Act.put, List.setIfInBounds_toArray, List.set_cons_succ, List.set_cons_zero]
          refine tLex_quiets 1 rfl (by kernel_rfl) ?_
          simp only [List.take_succ_cons, List.take_zero, List.drop_succ_cons, List.drop_zero]
          apply Exists.intro
          refine ⟨?hq2, ?hv2, ?ht2⟩
          case hq2 =>
            intro V hV
            refine wpQuiet_ld rfl _ _ rfl w4.heap.size 0 rfl (fcs G pt pb pr) (fun w' hw => row_grown ((HP5.out.kept hV (fun hf => hf)).all) hw) _ Try.underlying28 rfl (by rw [fcs_len HGSIX.out]; exact infF) ?_
            simp only [Act.put, List.setIfInBounds_toArray, List.set_cons_succ, List.set_cons_zero]
            exact wpQuiet_nil rfl
          case hv2 => exact ⟨trivial, trivial⟩
          case ht2 =>
            refine tLex_act 10 #[frv G pt pb pr] (fun u => ?he2) rfl rfl (frv G nilv pb pr) ⟨_, rfl⟩ ?hc2 ?_
            case he2 => simp [execOp, go_sem]; rfl
            case hc2 =>
              intro D u hu hI hd
              refine (frOf_yes G pt pb pr u (HIP.out.kept hu)).mono ?_
              rintro e w' ⟨v, rfl, hnt, hk⟩
              exact ⟨_, rfl, ⟨v, rfl⟩, hu.then hk, actI_snoc bkG_kept hI hk 1 rfl ⟨v, rfl, of_rd (HIP.out.kept hu) hnt hk⟩, hk.size, fun k _ h2 => hk.block k h2 (fun hf => hf)⟩
            intro v2 hv2
            clear hv2
            simp only [Act.put, List.setIfInBounds_toArray, List.set_cons_succ, List.set_cons_zero]
            refine tLex_act 19 #[v1, v2] (fun u => ?he3) rfl rfl (.bool true) rfl ?hc3 ?_
            case he3 => simp [execOp, go_sem]
            case hc3 =>
              intro D u hu hI hd
              obtain ⟨t1, rfl, h1⟩ := hI 0 _ rfl
              obtain ⟨t2, rfl, h2⟩ := hI 1 _ rfl
              refine (same_yes G t1 ub ur t2 pb pr u h1 h2).mono ?_
              rintro e w' ⟨rfl, hk⟩
              exact ⟨_, rfl, rfl, hu.then hk, actI_snoc bkG_kept hI hk 2 rfl trivial, hk.size, fun k _ h2 => hk.block k h2 (fun hf => hf)⟩
            intro v3 hv3
            obtain rfl : v3 = .bool true := hv3
            simp only [Act.put, List.setIfInBounds_toArray, List.set_cons_succ, List.set_cons_zero]
            refine tLex_quiets 2 rfl (by kernel_rfl) ?_
            simp only [List.take_succ_cons, List.take_zero, List.drop_succ_cons, List.drop_zero]
            apply Exists.intro
            refine ⟨?hq4, ?hv4, ?ht4⟩
            case hq4 =>
              intro V hV
              repeat (go_big_quiet_step (fail))
              exact wpQuiet_nil rfl
            case hv4 => exact ⟨trivial, trivial, trivial⟩
            case ht4 =>
              intro w6 hs
              have hk6 := HK5.out.then hs.kept
              clear hs
              go_wp2_with (fail)
              go_meet
              exact hk6
    case rest =>
      have HK4 := Lib.hid (HK3.out.then hcut)
      clear hcut HB0 HB1 HIN3 HF3
      go_upto_region 7 with (fail)
      go_cut [56] from 42 to 55 (fun s wx => s = .bool false ∧ wx = wc)
      case first =>
        rcases HERR.out with rfl | ⟨rfl, rfl | rfl⟩
        · clear HERR HGP
          go_wp2_with (fail)
          go_meet
          exact ⟨rfl, rfl⟩
        · clear HERR HGP
          simp only [List.length_nil]
          go_wp2_with (fail)
          go_meet
          exact ⟨rfl, rfl⟩
        · clear HERR HGP
          simp only [List.length_nil]
          go_wp2_with (fail)
          go_meet
          exact ⟨rfl, rfl⟩
      case rest =>
        obtain ⟨rfl, rfl⟩ := hcut
        clear HERR HGP HY
        have HB5 := Lib.hid (HB.out.kept HK4.out (fun _ _ hf => hf))
        have HNL := Lib.hid HB5.out.1
        obtain ⟨m, hm, hm1, hm2⟩ : ∃ m : Nat, (if (2000 : Int) < (n : Int) then (2000 : Int) else (n : Int)) = (m : Int) ∧ m ≤ n ∧ m ≤ 2000 := ⟨min n 2000, by split <;> omega, by omega, by omega⟩
        have hsl := run_cut_hi (P := Try.prog) Try.underlying26 inf5.1 A n c m (m : Int) rfl (by have := HB5.out.2.1; omega)
        have HBM := Lib.hid (HB5.out.pre hm1)
        have HM2 := Lib.hid hm2
        generalize bl.take m = b at *
        clear HB5 HNL HB hm1 hm2
        go_wp2_with (fail)
        refine (eget_yes A m c b _ HBM.out (by have := HM2.out; omega)).mono ?_
        rintro e w4 ⟨qt, qb, qr, rfl, hnf, hk⟩
        have hgn := get_none b
        have hpg := put_get b
        have hsix := get_six b
        have hbl : b.length ≤ 2000 := by rw [HBM.out.1]; exact HM2.out
        generalize hR : getM b = R at *
        obtain ⟨F, xb, er⟩ := R
        clear hR
        simp only at hnf hgn hpg hsix ⊢
        have HNF4 := Lib.hid hnf
        have HBM4 := Lib.hid (HBM.out.kept hk (fun _ _ hf => hf))
        have HK5 := Lib.hid (HK4.out.then hk)
        have HGN := Lib.hid hgn
        have HPG := Lib.hid hpg
        have HFSIX := Lib.hid hsix
        have HBL := Lib.hid hbl
        have HFN := Lib.hid (FB.new w4 28 Fr.zero nilv nilv nilv)
        clear hnf hgn hpg hsix hbl hk HK3 HK4 HBM HM2 hm hsl HGOK HGSIX HSIX
        go_upto_region 11 with (refine wpList_st rfl _ (.tmp 9) _ rfl _ 0 rfl (fcs F qt qb qr) _ rfl rfl (by rw [fcs_len HFSIX.out]; exact infF) 28 _ HFN.out (by rw [fcs_len Fr.zero_six, fcs_len HFSIX.out]; omega) HNF4.out.ones ?_; intro w5 hb5 hk5 hz5)
        have hk45 := ((Kept.refl Nil w4).alloc (.cells (fcs Fr.zero nilv nilv nilv).toArray 28)).fresh hk5 (fun i hi => by cases hi; exact Nat.le_refl _)
        have HQ5 := Lib.hid (FB.of_all (f' := F) Fr.zero_six HFSIX.out hb5)
        have HNF5 := Lib.hid (HNF4.out.kept hk45)
        have HBM5 := Lib.hid (HBM4.out.kept hk45 (fun _ _ hf => hf))
        have HK6 := Lib.hid (HK5.out.then hk45)
        clear hb5 hk5 hz5 hk45 HFN HNF4 HK5 HBM4
        by_cases er0 : er = 0
        · obtain ⟨hfok, hfp⟩ := HPG.out er0
          have hl := put_lens F (by rw [hfp])
          rw [hfp] at hl
          simp only at hl
          have HFI := Lib.hid (HNF5.out.frIn hfok (by have := HBL.out; omega) (by have := HBL.out; omega) (by have := HBL.out; omega))
          have HFP := Lib.hid hfp
          clear hl hfp hfok HGN HPG
          subst er0
          go_wp2_with (refine wpList_ld rfl _ (.tmp 9) rfl _ 0 rfl _ HQ5.out.all _ Try.underlying28 rfl (by rw [fcs_len HFSIX.out]; exact infF) ?_)
          refine (put_yes F qt qb qr w5 HFI.out).mono ?_
          rintro e w6 ⟨v, rfl, hm⟩
          rw [HFP.out] at hm ⊢
          simp only at hm ⊢
          obtain ⟨A2, c2, rfl⟩ := own_form hm.1
          obtain ⟨A2', c2', e2, hy, _⟩ := Byt.of_own hm.1
          cases e2
          have t1 := hy.text (P := Try.prog) Try.underlying26 Try.underlying5 Try.underlying9
          have t2 := (HBM5.out.kept hm.2 (fun _ _ hf => hf)).text (P := Try.prog) Try.underlying26 Try.underlying5 Try.underlying9
          have HK7 := Lib.hid (HK6.out.then hm.2)
          clear hm hy HBM5 HQ5 HNF5 HK6 HFI
          go_wp2_with (fail)
          refine (tells_yes _).mono ?_
          rintro e w7 ⟨rfl, hk7⟩
          have HK8 := Lib.hid (HK7.out.then hk7)
          clear hk7 HK7 t1 t2
          go_wp2
          go_ret
          exact ⟨rfl, HK8.out.below (Nat.le_refl _) (fun _ hf => hf.elim)⟩
        · have hF := (HGN.out er0).1
          subst hF
          have HFI := Lib.hid (HNF5.out.frIn Fr.zero_ok (by decide) (by decide) (by decide))
          have her : (er == 0) = false := by simp [er0]
          clear HGN HPG
          go_wp2_with (refine wpList_ld rfl _ (.tmp 9) rfl _ 0 rfl _ HQ5.out.all _ Try.underlying28 rfl (by rw [fcs_len HFSIX.out]; exact infF) ?_)
          refine (frOf_yes Fr.zero qt qb qr w5 HFI.out).mono ?_
          rintro e w6 ⟨v1, rfl, hnt, hk⟩
          have HR1 := Lib.hid (of_rd HFI.out hnt hk)
          have HK7 := Lib.hid (HK6.out.then hk)
          have hz : FrIn w6 Fr.zero nilv nilv nilv := (NewF.zero w6 w6).frIn Fr.zero_ok (by decide) (by decide) (by decide)
          have HZ := Lib.hid hz
          clear hnt hk hz HFI HK6 HQ5 HBM5 HNF5
          go_wp2_with (fail)
          refine (frOf_yes Fr.zero nilv nilv nilv w6 HZ.out).mono ?_
          rintro e w7 ⟨v2, rfl, hnt, hk⟩
          have HR2 := Lib.hid (of_rd HZ.out hnt hk)
          have HR3 := Lib.hid (HR1.out.kept hk)
          have HK8 := Lib.hid (HK7.out.then hk)
          clear hnt hk HZ HR1 HK7
          go_wp2_with (fail)
          refine (same_yes Fr.zero v1 qb qr v2 nilv nilv w7 HR3.out HR2.out).mono ?_
          rintro e w8 ⟨rfl, hk⟩
          have HK9 := Lib.hid (HK8.out.then hk)
          clear hk HK8 HR2 HR3
          go_wp2_with (fail)
          refine (tells_yes _).mono ?_
          rintro e w9 ⟨rfl, hk⟩
          have HK10 := Lib.hid (HK9.out.then hk)
          clear hk HK9
          go_wp2
          go_ret
          exact ⟨rfl, HK10.out.below (Nat.le_refl _) (fun _ hf => hf.elim)⟩
end Go.Proofs.Ytjdaaelkaeokeaa
