/- tolllaw04.EtherTags: the walk. -/
import Derived.Test.YtjdaaelkaeokeaaEthBk
import Derived.Test.YtjdaaelkaeokeaaEthW
import Derived.Test.YtjdaaelkaeokeaaTagG
import Derived.Test.YtjdaaelkaeokeaaEthV
import Derived.Test.YtjdaaelkaeokeaaEthTh
namespace Go.Proofs.Ytjdaaelkaeokeaa
open Go.RowKit Go.Sort
set_option linter.unusedVariables false

theorem byt_get {w : World} {b o n c : Nat} {l : List UInt8} (h : Byt w (some ⟨b, o, none⟩) n c l) (i : Nat) (u : UInt8) (hu : l[i]? = some u) : w.cell? ⟨b, o + i, none⟩ = some (.int .u8 (u.toNat : Int)) := by
  obtain ⟨hi, rfl⟩ := List.getElem?_eq_some_iff.1 hu
  obtain ⟨b', o', e, hc⟩ := h.at hi
  cases e
  exact hc
theorem nextM_pq (p q : UInt8) (r : List UInt8) : nextM (p :: q :: r) = p.toNat * 256 + q.toNat := by
  unfold nextM
  rw [if_pos (by simp)]
  simp [numM]
/-- What is behind the source of a frame that was laid. -/
def restM (G : Fr) : List UInt8 := headM G ++ G.b ++ G.r
theorem tg_put {G : Fr} {y : List UInt8} (h : putM G = (y, 0)) : y = G.d ++ G.s ++ bytTs G.t ++ restM G ∧ mayL G.t = true ∧ carryM G = true := by
  unfold putM at h
  split at h
  · cases h
  · rename_i h0
    split at h
    · cases h
    · injection h with h _
      refine ⟨by rw [← h]; simp only [aheadM, restM, List.append_assoc], ?_, ?_⟩ <;> (cases h1 : mayL G.t <;> cases h2 : carryM G <;> simp_all)
theorem bytesM_may {t : List Tg} (h : mayL t = true) : bytesM t = bytTs t := by
  rcases (mayL_iff _).1 h with rfl | ⟨x, rfl, h1⟩ | ⟨x, z, rfl, h1, h2, _⟩
  · rfl
  · simp [bytesM, h1]
  · simp [bytesM, h1, h2]
theorem restM_len (G : Fr) (h3 : G.l.length = 3) (h4 : G.o.length = 3) : 2 ≤ (restM G).length := by
  unfold restM headM
  split
  · simp [twoM]
  · split <;> simp [twoM]
def tgG (YL : Nat) (y : List UInt8) (i : Nat) (v : Value) (u : World) : Prop := match i with
  | 0 => ∃ A c, v = .slice A YL c ∧ Byt u A YL c y
  | 2 => ∃ A c, v = .slice A YL c ∧ Byt u A YL c y
  | _ => True
theorem tgG_kept {YL : Nat} {y : List UInt8} (i : Nat) (v : Value) (u u' : World) (h : tgG YL y i v u) (k : Kept Nil u u') : tgG YL y i v u' := by
  match i, h with
  | 0, ⟨A, c, e, h⟩ => exact ⟨A, c, e, h.kept k (fun _ _ hf => hf)⟩
  | 1, _ => trivial
  | 2, ⟨A, c, e, h⟩ => exact ⟨A, c, e, h.kept k (fun _ _ hf => hf)⟩
  | _ + 3, _ => trivial
def tgP (YL : Nat) (y : List UInt8) (i : Nat) (v : Value) : Prop := if i = 23 ∨ i = 39 then ∃ A c, v = .slice A YL c else v = .string ⟨y.toArray⟩
theorem exec_cv {P : Program} {o : Oper} {a : Act} {u : World} (src dst : TypeId) (x : Operand) (ho : o.op = .convert src dst x) {v r : Value} (hx : a.eval x = v) (hr : (convert src dst v).run P u = .ok r u) : (execOp a.eval o).run P u = .ok (.value r) u := by
  unfold execOp
  simp only [ho, hx, Sem.run_bind, hr, Result.andThen_ok, Sem.run_pure]
set_option maxRecDepth 100000 in
set_option maxHeartbeats 8000000 in
theorem etags_yes (x : FrA) (A : Option Addr) (n c : Nat) (ol : List Tg) (w : World) (hx : x.In w) (hb : Tags w A n c ol) :
    Calls Try.prog 6 #[frv x.f x.vt x.vb x.vr, .slice A n c] w fun e w' => e = .returned (.bool true) ∧ Below w.heap.size w w' := by
  obtain ⟨f, vt, vb, vr⟩ := x
  obtain ⟨hok, ht, hbb, hrr⟩ := hx
  simp only at hok ht hbb hrr ⊢
  obtain ⟨At, nt, ct, rfl, ht⟩ := ht
  obtain ⟨Ab, nb, cb, rfl, hbb⟩ := hbb
  obtain ⟨Ar, nr, cr, rfl, hrr⟩ := hrr
  have hF := FB.new w 28 f (.slice At nt ct) (.slice Ab nb cb) (.slice Ar nr cr)
  have hk0 := (Kept.refl Nil w).alloc (.cells (fcs f (.slice At nt ct) (.slice Ab nb cb) (.slice Ar nr cr)).toArray 28)
  have HF := Lib.hid hF
  have HK0 := Lib.hid hk0
  have HSIX := Lib.hid hok.six
  have HSZ := Lib.hid (show w.heap.size < (w.alloc (.cells (fcs f (.slice At nt ct) (.slice Ab nb cb) (.slice Ar nr cr)).toArray 28)).heap.size by simp)
  have HFEW := Lib.hid (few_yes f (.slice At nt ct) (.slice Ab nb cb) (.slice Ar nr cr) (w.alloc (.cells (fcs f (.slice At nt ct) (.slice Ab nb cb) (.slice Ar nr cr)).toArray 28)) hok ⟨_, _, _, rfl, ht.kept hk0 (fun _ _ hf => hf)⟩ ⟨_, _, _, rfl, hbb.kept hk0 (fun _ _ hf => hf)⟩ ⟨_, _, _, rfl, hrr.kept hk0 (fun _ _ hf => hf)⟩)
  have HGOK := Lib.hid (fewM_ok hok)
  have HB := Lib.hid hb
  clear hF hk0 hok ht hbb hrr hb
  go_enter Try.func6, Try.ntmps6
  go_upto_region 1 with (fail)
  refine wp_nameE (fun W => W = w.alloc (.cells (fcs f (.slice At nt ct) (.slice Ab nb cb) (.slice Ar nr cr)).toArray 28)) rfl ?_
  rintro W rfl
  go_wp2_with (refine wpList_ld rfl _ (.tmp 2) rfl _ 0 rfl _ HF.out.all _ Try.underlying28 rfl (by rw [fcs_len HSIX.out]; exact infF) ?_)
  refine HFEW.out.mono ?_
  rintro e w1 ⟨ut, ub, ur, rfl, hnf, hk⟩
  have hsm := fewM_small f
  generalize hG : fewM f = G at *
  clear hG
  have HGSIX := Lib.hid HGOK.out.six
  have HNF := Lib.hid hnf
  have HIN := Lib.hid (hnf.frIn HGOK.out (by omega) (by omega) (by omega))
  have HF1 := Lib.hid (HF.out.kept hk (fun hf => hf))
  have HK1 := Lib.hid (HK0.out.then hk)
  have hsm' := Lib.hid hsm
  clear hsm hnf hk HF HFEW HK0
  go_wp2_with (first
    | (refine wpList_st rfl _ (.tmp 2) _ rfl _ 0 rfl (fcs G ut ub ur) _ rfl rfl (by rw [fcs_len HGSIX.out]; exact infF) 28 _ HF1.out (by rw [fcs_len HSIX.out, fcs_len HGSIX.out]; omega) HNF.out.ones ?_; intro w2 hb2 hk2 hz2; have HF2 := Lib.hid (FB.of_all (f' := G) HSIX.out HGSIX.out hb2); have HIN2 := Lib.hid (FrIn.far (B := 0) HNF.out HIN.out hk2 HSZ.out); have HK2 := Lib.hid (HK1.out.fresh hk2 (fun i hi => by cases hi; exact Nat.le_refl _)); clear hb2 hk2 hz2 HF1 HNF HIN HK1 HSZ)
    | (refine wpList_ld rfl _ (.tmp 2) rfl _ 0 rfl _ HF2.out.all _ Try.underlying28 rfl (by rw [fcs_len HGSIX.out]; exact infF) ?_))
  refine (put_yes G ut ub ur w2 HIN2.out).mono ?_
  rintro e w3 ⟨v, rfl, hm⟩
  have herr := put_err G
  have hgp := get_put G HGOK.out
  generalize hP : putM G = P at *
  obtain ⟨y, E⟩ := P
  simp only at herr hgp hm ⊢
  obtain ⟨A1, c1, rfl⟩ := own_form hm.1
  obtain ⟨A1', c1', e1, hy, hy2⟩ := Byt.of_own hm.1
  cases e1
  have HY := Lib.hid hy
  have HIN3 := Lib.hid (HIN2.out.kept hm.2)
  have HF3 := Lib.hid (HF2.out.kept hm.2 (fun hf => hf))
  have HK3 := Lib.hid (HK2.out.then hm.2)
  have HGP := Lib.hid hgp
  have HERR := Lib.hid herr
  have HYL := Lib.hid (show y.length ≤ 100000000 by have := putM_len G HGOK.out hsm'; rw [hP] at this; exact this)
  have HPP := Lib.hid hP
  clear hm hy hy2 hgp herr HF2 HIN2 HK2 hP
  go_upto_region 3 with (fail)
  by_cases hE : E = 0 ∧ y.length ≤ 65535
  · obtain ⟨e0, hle⟩ := hE
    have HGET := Lib.hid (HGP.out e0 hle)
    subst e0
    have hle' : ¬ (65535 : Int) < (y.length : Int) := by omega
    obtain ⟨hyE, hmay, hcar⟩ := tg_put HPP.out
    have HYE := Lib.hid hyE
    have HMAY := Lib.hid hmay
    have HCAR := Lib.hid hcar
    have hnx0 : y.length = 12 + G.t.length * 4 + (restM G).length := by
      have h1 := HGOK.out.d
      have h2 := HGOK.out.s
      have h3 := bytTs_len G.t
      rw [hyE]
      simp only [List.length_append]
      omega
    have hr2 := restM_len G HGOK.out.l HGOK.out.o
    have hr3 : (restM G).length ≤ 3300 := by
      have := head_len G HGOK.out.l HGOK.out.o
      have := hsm'.out
      unfold restM
      simp only [List.length_append]
      omega
    generalize hYL : y.length = YL at *
    obtain ⟨Au, nu, cu, rfl, hut⟩ := HIN3.out.t
    obtain ⟨Ab', nb', cb', rfl, hub⟩ := HIN3.out.b
    obtain ⟨Ar', nr', cr', rfl, hur⟩ := HIN3.out.r
    have hnu := hut.len
    have HNU := Lib.hid hnu
    have HUT := Lib.hid hut
    have HYLN := Lib.hid hYL
    have hT4 : G.t.length ≤ 4 := hsm'.out.1
    obtain ⟨N4, hN4⟩ : ∃ N4, nu * 4 = N4 := ⟨_, rfl⟩
    obtain ⟨RL, hRL⟩ : ∃ RL, (restM G).length = RL := ⟨_, rfl⟩
    obtain ⟨nx, hnx⟩ : ∃ nx, N4 + RL = nx := ⟨_, rfl⟩
    have hw4 : wrap64 (4 * (nu : Int)) = (N4 : Int) := by unfold wrap64; omega
    have hw5 : wrap64 ((YL : Int) - 12) = (nx : Int) := by unfold wrap64; omega
    have hw6 : wrap64 ((N4 : Int) + 2) = ((N4 + 2 : Nat) : Int) := by unfold wrap64; omega
    have hge : ¬ (nx : Int) < ((N4 + 2 : Nat) : Int) := by omega
    obtain ⟨N6, hN6⟩ : ∃ N6, N4 + 2 = N6 := ⟨_, rfl⟩
    rw [hN6] at hw6 hge
    have H4 := Lib.hid (And.intro hw4 (And.intro hw5 (And.intro hw6 hge)))
    have HNN := Lib.hid (And.intro hN4 (And.intro hRL (And.intro hnx (And.intro hnx0 (And.intro hr2 (And.intro hr3 (And.intro hT4 hle)))))))
    clear HERR HGP HPP hw4 hw5 hw6 hge hN4 hRL hnx hnx0 hr2 hr3 hT4 hyE hmay hcar hut hub hur hnu hYL hN6
    go_wp2_with (fail)
    refine (behind_yes A1 YL c1 y _ HY.out (by omega)).mono ?_
    rintro e w4 ⟨vx, rfl, hnb, hk⟩
    rw [HGET.out] at hnb ⊢
    simp only at hnb ⊢
    obtain ⟨Ax, nx', cx, rfl, hx, _⟩ := hnb
    have hnn := HNN.out
    have hnu' := HNU.out
    obtain rfl : nx' = nx := by
      have := hx.1
      rw [List.length_append, bytTs_len, show headM G ++ G.b ++ G.r = restM G from rfl] at this
      omega
    have HX := Lib.hid hx
    have HU4 := Lib.hid (HF3.out.kept hk (fun hf => hf))
    have HIN4 := Lib.hid (HIN3.out.kept hk)
    have HUT4 := Lib.hid (HUT.out.kept hk (fun _ _ hf => hf))
    have HY4 := Lib.hid (HY.out.kept hk (fun _ _ hf => hf))
    have HK4 := Lib.hid (HK3.out.then hk)
    clear hx hk hnn hnu' HF3 HIN3 HUT HY HK3 hle'
    obtain ⟨hw4, hw5, hw6, hge⟩ := H4.out
    have c12 := HU4.out.ct HGSIX.out
    go_upto_region 7 with (fail)
    simp only [hw4]
    clear hw4 hw5 hw6 hge H4
    obtain ⟨hn1, hn2, hn3, hn4, hn5, hn6, hn7, hn8⟩ := HNN.out
    have hb1 : ((nx' : Int) != (YL : Int) - 12) = false := by simp; have := HNU.out; omega
    have hnb : N4 ≤ 10000 := by have := HNU.out; omega
    have hb2 : ((nx' : Int) < (N4 : Int) + 2) = False := eq_false (by omega)
    have hslx := run_cut_lo (P := Try.prog) Try.underlying26 inf5.1 inf5.2 Ax nx' cx N4 (N4 : Int) rfl (by omega)
    have hz := HX.out.cut (lo := N4) (hi := nx') (by omega) (Nat.le_refl _)
    rw [List.take_of_length_le (by rw [HX.out.1]; exact Nat.le_refl _), List.drop_left' (by rw [bytTs_len, HNU.out]; exact hn1), show nx' - N4 = RL by omega] at hz
    rw [show nx' - N4 = RL by omega] at hslx
    obtain ⟨Az, hAz⟩ : ∃ Az, cutA Ax cx N4 = Az := ⟨_, rfl⟩
    obtain ⟨cz, hcz⟩ : ∃ cz, cx - N4 = cz := ⟨_, rfl⟩
    rw [hAz, hcz] at hz hslx
    have HZ4 := Lib.hid (show Byt w4 Az RL cz (restM G) from hz)
    clear hz hAz hcz hn1 hn2 hn3 hn4 hn5 hn6 hn7 hn8
    have HSLX := Lib.hid hslx
    have HXL := Lib.hid (show nx' ≤ 100000 by have := HNN.out; have := HNU.out; omega)
    refine wp_region_acts Nil [23, 24, 39, 40] (fun i vl => (#[], 0)) (fun i => if i = 6 then .int .i64 (YL : Int) else .int .i64 (nx' : Int)) (actI (tgG YL y)) (tgP YL y) 45 (by kernel_rfl) (by kernel_rfl) (actI_keeps tgG_kept) actI_nil ?_
    simp only [List.take_succ_cons, List.take_zero, List.drop_succ_cons, List.drop_zero]
    refine tLex_quiets 23 rfl (by kernel_rfl) ?_
    simp only [List.take_succ_cons, List.take_zero, List.drop_succ_cons, List.drop_zero]
    apply Exists.intro
    refine ⟨?hq, ?hv, ?ht⟩
    case hq =>
      intro V hV
      go_big_quiet_step (fail)
      go_big_quiet_step (fail)
      go_big_quiet_step (fail)
      go_big_quiet_step (fail)
      go_big_quiet_step (fail)
      go_big_quiet_step (fail)
      go_big_quiet_step (fail)
      go_big_quiet_step (fail)
      go_big_quiet_step (fail)
      go_big_quiet_step (fail)
      go_big_quiet_step (fail)
      go_big_quiet_step (fail)
      go_big_quiet_step (fail)
      go_big_quiet_step (fail)
      go_big_quiet_step (fail)
      go_big_quiet_step (fail)
      go_big_quiet_step (fail)
      go_big_quiet_step (fail)
      go_big_quiet_step (fail)
      refine wpQuiet_ld rfl _ _ rfl w.heap.size 0 rfl (bys G.d) (fun w' hw => row_grown ((HU4.out.kept hV (fun hf => hf)).rd) hw) _ Try.underlying23 rfl (by rw [bys_len, HGOK.out.d]; exact infm) ?_
      simp only [Act.put, List.setIfInBounds_toArray, List.set_cons_succ, List.set_cons_zero]
      go_big_quiet_step (fail)
      refine wpQuiet_ld rfl _ _ rfl w.heap.size 6 rfl (bys G.s) (fun w' hw => row_grown ((HU4.out.kept hV (fun hf => hf)).rs HGSIX.out) hw) _ Try.underlying23 rfl (by rw [bys_len, HGOK.out.s]; exact infm) ?_
      simp only [Act.put, List.setIfInBounds_toArray, List.set_cons_succ, List.set_cons_zero]
      go_big_quiet_step (fail)
      exact wpQuiet_nil rfl
    case hv => exact ⟨trivial, trivial, trivial, trivial, rfl, trivial, rfl, trivial, trivial, trivial, trivial, trivial, rfl, trivial, trivial, trivial, trivial, trivial, trivial, trivial, trivial, trivial, trivial, trivial⟩
    case ht =>
      have hwm1 : withM G.d G.s [] (bytTs G.t ++ restM G) = y := by rw [HYE.out]; show G.d ++ G.s ++ [] ++ (bytTs G.t ++ restM G) = _; simp only [List.append_assoc, List.append_nil, List.nil_append]
      have hwm2 : withM G.d G.s G.t (restM G) = y := by rw [HYE.out]; unfold withM; rw [bytesM_may HMAY.out]
      have HW1 := Lib.hid hwm1
      have HW2 := Lib.hid hwm2
      clear hwm1 hwm2
      refine tLex_act 20 #[.agg (bys G.d).toArray, .agg (bys G.s).toArray, .slice none 0 0, .slice Ax nx' cx] (fun u => ?he) rfl rfl (.slice none YL 0) ⟨_, _, rfl⟩ ?hc ?_
      case he => simp [execOp, go_sem]
      case hc =>
        intro D u hu hI hd
        refine (with_yes G.d G.s HGOK.out.d HGOK.out.s none 0 0 [] Ax nx' cx _ u (Tags.nil _) (HX.out.kept hu (fun _ _ hf => hf)) (by decide) (by have := HXL.out; omega)).mono ?_
        rintro e w' ⟨v, rfl, hm⟩
        have hm1 := hm.1
        rw [show bytTs G.t ++ (headM G ++ G.b ++ G.r) = bytTs G.t ++ restM G from rfl, HW1.out, HYLN.out] at hm1
        obtain ⟨A5, c5, hv5, hy5, _⟩ := Byt.of_own hm1
        exact ⟨_, rfl, ⟨A5, c5, hv5⟩, hu.then hm.2, actI_snoc tgG_kept hI hm.2 0 rfl ⟨A5, c5, hv5, hy5⟩, hm.2.size, fun k _ h2 => hm.2.block k h2 (fun hf => hf)⟩
      rintro v1 ⟨A5, c5, rfl⟩
      simp only [Act.put, List.setIfInBounds_toArray, List.set_cons_succ, List.set_cons_zero]
      refine tLex_raw rfl rfl ⟨_, rfl⟩ ?_ ?_
      · intro D u hu hI hd
        obtain ⟨A5', c5', e5, hy5⟩ := hI 0 _ rfl
        cases e5
        rw [exec_cv _ _ _ rfl rfl (hy5.text (P := Try.prog) Try.underlying26 Try.underlying5 Try.underlying9)]
        exact ⟨rfl, hu, actI_snoc tgG_kept hI (Kept.refl _ _) 1 rfl trivial, Nat.le_refl _, fun k _ _ => rfl⟩
      intro v2 hv2
      obtain rfl : v2 = .string ⟨y.toArray⟩ := hv2
      simp only [Act.put, List.setIfInBounds_toArray, List.set_cons_succ, List.set_cons_zero]
      refine tLex_quiets 14 rfl (by kernel_rfl) ?_
      simp only [List.take_succ_cons, List.take_zero, List.drop_succ_cons, List.drop_zero]
      apply Exists.intro
      refine ⟨?hq2, ?hv2, ?ht2⟩
      case hq2 =>
        intro V hV
        have ty1 := fun d os => ((HY4.out.kept hV (fun _ _ hf => hf)).kept (kept_grown' V d os) (fun _ _ hf => hf)).text (P := Try.prog) Try.underlying26 Try.underlying5 Try.underlying9
        have e12 := fun d os => ((HU4.out.kept hV (fun hf => hf)).kept (kept_grown' V d os) (fun hf => hf)).ct HGSIX.out
        go_big_quiet_step (fail)
        go_big_quiet_step (fail)
        go_big_quiet_step (fail)
        go_big_quiet_step (fail)
        go_big_quiet_step (fail)
        go_big_quiet_step (fail)
        refine wpQuiet_ld rfl _ _ rfl w.heap.size 0 rfl (bys G.d) (fun w' hw => row_grown ((HU4.out.kept hV (fun hf => hf)).rd) hw) _ Try.underlying23 rfl (by rw [bys_len, HGOK.out.d]; exact infm) ?_
        simp only [Act.put, List.setIfInBounds_toArray, List.set_cons_succ, List.set_cons_zero]
        go_big_quiet_step (fail)
        refine wpQuiet_ld rfl _ _ rfl w.heap.size 6 rfl (bys G.s) (fun w' hw => row_grown ((HU4.out.kept hV (fun hf => hf)).rs HGSIX.out) hw) _ Try.underlying23 rfl (by rw [bys_len, HGOK.out.s]; exact infm) ?_
        simp only [Act.put, List.setIfInBounds_toArray, List.set_cons_succ, List.set_cons_zero]
        repeat (go_big_quiet_step (fail))
        exact wpQuiet_nil rfl
      case hv2 => exact ⟨trivial, trivial, trivial, trivial, trivial, trivial, trivial, trivial, trivial, trivial, trivial, trivial, trivial, trivial, trivial⟩
      case ht2 =>
        refine tLex_act 20 #[.agg (bys G.d).toArray, .agg (bys G.s).toArray, .slice Au nu cu, .slice Az RL cz] (fun u => ?he3) rfl rfl (.slice none YL 0) ⟨_, _, rfl⟩ ?hc3 ?_
        case he3 => simp [execOp, go_sem]
        case hc3 =>
          intro D u hu hI hd
          refine (with_yes G.d G.s HGOK.out.d HGOK.out.s Au nu cu G.t Az RL cz _ u (HUT4.out.kept hu (fun _ _ hf => hf)) (HZ4.out.kept hu (fun _ _ hf => hf)) (by have := HNN.out; have := HNU.out; omega) (by have := HNN.out; omega)).mono ?_
          rintro e w' ⟨v, rfl, hm⟩
          have hm1 := hm.1
          rw [HW2.out, HYLN.out] at hm1
          obtain ⟨A6, c6, hv6, hy6, _⟩ := Byt.of_own hm1
          exact ⟨_, rfl, ⟨A6, c6, hv6⟩, hu.then hm.2, actI_snoc tgG_kept hI hm.2 2 rfl ⟨A6, c6, hv6, hy6⟩, hm.2.size, fun k _ h2 => hm.2.block k h2 (fun hf => hf)⟩
        rintro v3 ⟨A6, c6, rfl⟩
        simp only [Act.put, List.setIfInBounds_toArray, List.set_cons_succ, List.set_cons_zero]
        refine tLex_raw rfl rfl ⟨_, rfl⟩ ?_ ?_
        · intro D u hu hI hd
          obtain ⟨A6', c6', e6, hy6⟩ := hI 2 _ rfl
          cases e6
          rw [exec_cv _ _ _ rfl rfl (hy6.text (P := Try.prog) Try.underlying26 Try.underlying5 Try.underlying9)]
          exact ⟨rfl, hu, actI_snoc tgG_kept hI (Kept.refl _ _) 3 rfl trivial, Nat.le_refl _, fun k _ _ => rfl⟩
        intro v4 hv4
        obtain rfl : v4 = .string ⟨y.toArray⟩ := hv4
        simp only [Act.put, List.setIfInBounds_toArray, List.set_cons_succ, List.set_cons_zero]
        refine tLex_quiets 4 rfl (by kernel_rfl) ?_
        simp only [List.take_succ_cons, List.take_zero, List.drop_succ_cons, List.drop_zero]
        apply Exists.intro
        refine ⟨?hq5, ?hv5, ?ht5⟩
        case hq5 =>
          intro V hV
          have ty1 := fun d os => ((HY4.out.kept hV (fun _ _ hf => hf)).kept (kept_grown' V d os) (fun _ _ hf => hf)).text (P := Try.prog) Try.underlying26 Try.underlying5 Try.underlying9
          repeat (go_big_quiet_step (fail))
          exact wpQuiet_nil rfl
        case hv5 => exact ⟨trivial, trivial, trivial, trivial, trivial⟩
        case ht5 =>
          intro w5 hs
          have hk5 := hs.kept
          have HX5 := Lib.hid (HX.out.kept hk5 (fun _ _ hf => hf))
          have HZ5 := Lib.hid (HZ4.out.kept hk5 (fun _ _ hf => hf))
          have HU5 := Lib.hid (HU4.out.kept hk5 (fun hf => hf))
          have HIN5 := Lib.hid (HIN4.out.kept hk5)
          have HK5 := Lib.hid (HK4.out.then hk5)
          have hot := HB.out.kept HK5.out (fun _ _ hf => hf)
          obtain ⟨mo, hmo, hmo1, hmo2⟩ : ∃ m : Nat, (if (2 : Int) < (n : Int) then (2 : Int) else (n : Int)) = (m : Int) ∧ m ≤ n ∧ m ≤ 2 := ⟨min n 2, by split <;> omega, by omega, by omega⟩
          have hslo := run_cut_hi (P := Try.prog) Try.underlying24 inft4.1 A n c mo (mo : Int) rfl (by have := hot.1.2.1; omega)
          have HOT := Lib.hid (show Tags w5 A mo c (ol.take mo) from ⟨by have := hot.1.pre hmo1; rwa [← List.map_take] at this, fun x hx => hot.2 x (List.mem_of_mem_take hx)⟩)
          have HMO := Lib.hid hmo2
          generalize ol.take mo = oz at *
          clear hs hk5 hot hmo1 hmo2 HB HX HZ4 HU4 HIN4 HUT4 HY4 HK4 hb1 hb2 hslx c12 HW1 HW2
          go_upto_region 10 with (fail)
          have hnn := HNN.out
          have hnu := HNU.out
          obtain ⟨p, q, rr, hpq⟩ : ∃ p q rr, restM G = p :: q :: rr := by
            match hR : restM G, (show 2 ≤ (restM G).length by omega) with
            | p :: q :: rr, _ => exact ⟨p, q, rr, rfl⟩
          obtain ⟨bx, ox, rfl, _⟩ := HX5.out.2.2.2 (by omega)
          have hp? : (bytTs G.t ++ (headM G ++ G.b ++ G.r))[N4]? = some p := by
            rw [show headM G ++ G.b ++ G.r = restM G from rfl, hpq, List.getElem?_append_right (by rw [bytTs_len]; omega), bytTs_len, show N4 - G.t.length * 4 = 0 by omega]
            rfl
          have hq? : (bytTs G.t ++ (headM G ++ G.b ++ G.r))[N4 + 1]? = some q := by
            rw [show headM G ++ G.b ++ G.r = restM G from rfl, hpq, List.getElem?_append_right (by rw [bytTs_len]; omega), bytTs_len, show N4 + 1 - G.t.length * 4 = 1 by omega]
            rfl
          have cp := fun d os => byt_get (HX5.out.kept (kept_grown' w5 d os) (fun _ _ hf => hf)) N4 p hp?
          have cq := fun d os => byt_get (HX5.out.kept (kept_grown' w5 d os) (fun _ _ hf => hf)) (N4 + 1) q hq?
          have hb3 : N4 < nx' := by omega
          have hb4 : N4 + 1 < nx' := by omega
          have HPQ := Lib.hid hpq
          have HPX := Lib.hid (And.intro hp? hq?)
          clear hnn hnu hpq hp? hq?
          obtain ⟨K, hK⟩ : ∃ K : Nat, p.toNat * 256 + q.toNat = K := ⟨_, rfl⟩
          have wp1 : wrap64 (p.toNat : Int) = (p.toNat : Int) := by unfold wrap64; have := p.toNat_lt; omega
          have wp2 : wrap64 ((p.toNat : Int) * 256) = (p.toNat : Int) * 256 := by unfold wrap64; have := p.toNat_lt; omega
          have wp3 : wrap64 (q.toNat : Int) = (q.toNat : Int) := by unfold wrap64; have := q.toNat_lt; omega
          have hor : bits .or .i64 ((p.toNat : Int) * 256) (q.toNat : Int) = (K : Int) := by rw [or_pq, hK]
          have HKK := Lib.hid hK
          clear hK
          refine wp_region_quiet_below (by kernel_rfl) (by kernel_rfl) ?_
          repeat (go_big_quiet_step (fail))
          refine wpQuiet_nil ?_
          rintro w6 ⟨nq, hw⟩
          have hk6 : Kept Nil w5 w6 := by rw [hw]; exact kept_grown _ _
          have HZ6 := Lib.hid (HZ5.out.kept hk6 (fun _ _ hf => hf))
          have HU6 := Lib.hid (HU5.out.kept hk6 (fun hf => hf))
          have HIN6 := Lib.hid (HIN5.out.kept hk6)
          have HOT6 := Lib.hid (HOT.out.kept hk6 (fun _ _ hf => hf))
          have HK6 := Lib.hid (HK5.out.then hk6)
          clear hw hk6 cp cq wp1 wp2 wp3 hor HX5 HZ5 HU5 HIN5 HOT HK5 hb3 hb4 HPX hslo hmo
          go_wp2_with (fail)
          refine (may_yes A mo c oz w6 HOT6.out).mono ?_
          rintro e w7 ⟨rfl, hk7⟩
          have HZ7 := Lib.hid (HZ6.out.kept hk7 (fun _ _ hf => hf))
          have HU7 := Lib.hid (HU6.out.kept hk7 (fun hf => hf))
          have HIN7 := Lib.hid (HIN6.out.kept hk7)
          have HOT7 := Lib.hid (HOT6.out.kept hk7 (fun _ _ hf => hf))
          have HK7 := Lib.hid (HK6.out.then hk7)
          clear hk7 HZ6 HU6 HIN6 HOT6 HK6
          by_cases hgo : mayL oz = true ∧ K ≠ 33024 ∧ K ≠ 34984
          · obtain ⟨hmz, hk1, hk2⟩ := hgo
            have hkb1 : ((K : Int) == 33024) = false := by simp; omega
            have hkb2 : ((K : Int) == 34984) = false := by simp; omega
            have HMZ := Lib.hid hmz
            have HKN := Lib.hid (And.intro hk1 hk2)
            rw [hmz]
            clear hmz hk1 hk2
            go_upto_region 13 with (fail)
            clear hkb1 hkb2
            obtain ⟨F2, hF2⟩ : ∃ F2 : Fr, F2 = { G with d := G.s, s := G.d, t := oz } := ⟨_, rfl⟩
            have hgz : ∃ zx, getM (withM G.s G.d oz (restM G)) = (F2, zx, 0) := by
              rw [hF2]
              unfold withM
              rw [bytesM_may HMZ.out]
              refine ⟨_, get_with G HGOK.out G.s G.d oz HGOK.out.s HGOK.out.d HMZ.out HCAR.out ?_ ?_⟩
              · rw [show headM G ++ G.b ++ G.r = restM G from rfl, HPQ.out, nextM_pq, HKK.out]
                have h1 := HKN.out
                unfold standM
                split
                · simp [h1.1, h1.2]
                · split
                  · simp [h1.1]
                  · rfl
              · have h1 := HNN.out
                have h2 := HMO.out
                have h3 := HOT7.out.len
                have h4 := HGOK.out.s
                have h5 := HGOK.out.d
                rw [show headM G ++ G.b ++ G.r = restM G from rfl]
                simp only [List.length_append, bytTs_len]
                omega
            have hzl : (withM G.s G.d oz (restM G)).length ≤ 100000 := by
              unfold withM
              rw [bytesM_may HMZ.out]
              have h1 := HNN.out
              have h2 := HMO.out
              have h3 := HOT7.out.len
              have h4 := HGOK.out.s
              have h5 := HGOK.out.d
              simp only [List.length_append, bytTs_len]
              omega
            have HF2E := Lib.hid hF2
            have F2ok : F2.ok := by rw [hF2]; exact ⟨HGOK.out.s, HGOK.out.d, HOT7.out.2, HGOK.out.k, HGOK.out.y, HGOK.out.l, HGOK.out.o⟩
            have hf2l : F2.t.length ≤ 1000 ∧ F2.b.length ≤ 1000000 ∧ F2.r.length ≤ 1000000 := by
              rw [hF2]
              have h2 := HMO.out
              have h3 := HOT7.out.len
              exact ⟨by show oz.length ≤ 1000; omega, HIN7.out.bn, HIN7.out.rn⟩
            clear hF2
            obtain ⟨zx, hgz⟩ := hgz
            have HWZ := Lib.hid (rfl : withM G.s G.d oz (restM G) = withM G.s G.d oz (restM G))
            obtain ⟨zz, hzz⟩ : ∃ zz, withM G.s G.d oz (restM G) = zz := ⟨_, rfl⟩
            rw [hzz] at hgz hzl
            obtain ⟨ZL, hZL⟩ : ∃ ZL, zz.length = ZL := ⟨_, rfl⟩
            rw [hZL] at hzl
            have HZZ := Lib.hid hzz
            have HZLL := Lib.hid (And.intro hZL hzl)
            have HGZ := Lib.hid hgz
            have HF2OK := Lib.hid F2ok
            have HF2L := Lib.hid hf2l
            have hslx := HSLX.out
            clear hgz hzl hzz hZL F2ok hf2l HWZ
            refine wp_nameA fun A13 hA13 => ?_
            have HS : A13.tmps.size = 147 := by rw [hA13]; rfl
            have a1 : A13.tmps.getD 1 undef = .slice A mo c := by rw [hA13]; rfl
            have a2 : A13.tmps.getD 2 undef = pAt w.heap.size 0 := by rw [hA13]; rfl
            have a7 : A13.tmps.getD 7 undef = .slice (some ⟨bx, ox, none⟩) nx' cx := by rw [hA13]; rfl
            have a9 : A13.tmps.getD 9 undef = .int .i64 (N4 : Int) := by rw [hA13]; rfl
            have a11 : A13.tmps.getD 11 undef = undef := by rw [hA13]; rfl
            have a122 : A13.tmps.getD 122 undef = undef := by rw [hA13]; rfl
            have a123 : A13.tmps.getD 123 undef = undef := by rw [hA13]; rfl
            have HA13 := Lib.hid hA13
            clear hA13
            refine wp_region_postsB 147 (tgI w7 F2 ZL zz) (tgW F2 ZL (.agg (bys G.s).toArray) (.agg (bys G.d).toArray) (.slice A mo c) (.slice (some ⟨bx, ox, none⟩) nx' cx) (.slice Az RL cz) (.int .i64 (N4 : Int)) w.heap.size) trueU (by kernel_rfl) (by kernel_rfl) (fun a u h => h.size.trans HS) ⟨fun a a' w h hr => ⟨(h 114 (of_decide_eq_true (by kernel_rfl))).symm.trans hr.out⟩,
                fun a a' w h hr => ⟨(h 115 (of_decide_eq_true (by kernel_rfl))).symm.trans hr.out⟩,
                fun a a' w h hr => ⟨(h 116 (of_decide_eq_true (by kernel_rfl))).symm.trans hr.out⟩,
                fun a a' w h hr => ⟨(h 117 (of_decide_eq_true (by kernel_rfl))).symm.trans hr.out⟩,
                fun a a' w h hr => ⟨(h 118 (of_decide_eq_true (by kernel_rfl))).symm.trans hr.out⟩,
                fun a a' w h hr => ⟨(h 119 (of_decide_eq_true (by kernel_rfl))).symm.trans hr.out⟩,
                fun a a' w h hr => ⟨(h 120 (of_decide_eq_true (by kernel_rfl))).symm.trans hr.out⟩,
                fun a a' w h hr => ⟨(h 121 (of_decide_eq_true (by kernel_rfl))).symm.trans hr.out⟩,
                fun a a' w h ⟨⟨A, c, hr⟩⟩ => ⟨⟨A, c, (h 122 (of_decide_eq_true (by kernel_rfl))).symm.trans hr⟩⟩,
                fun a a' w h ⟨⟨x, y, z, hr⟩⟩ => ⟨⟨x, y, z, (h 123 (of_decide_eq_true (by kernel_rfl))).symm.trans hr⟩⟩,
                fun a a' w h ⟨⟨h1, x, y, z, hr⟩⟩ => ⟨⟨(h 113 (of_decide_eq_true (by kernel_rfl))).symm.trans (h1.trans (h 123 (of_decide_eq_true (by kernel_rfl)))), x, y, z, (h 123 (of_decide_eq_true (by kernel_rfl))).symm.trans hr⟩⟩,
                fun a a' w h hr => ⟨by
                have e1 : a.eval (.tmp 113) = a'.eval (.tmp 113) := h 113 (of_decide_eq_true (by kernel_rfl))
                have e2 : a.eval (.tmp 124) = a'.eval (.tmp 124) := h 124 (of_decide_eq_true (by kernel_rfl))
                show a'.eval (.tmp 113) = .tuple #[a'.eval (.tmp 124), .int .i64 0]
                rw [← e1, ← e2]
                exact hr.out⟩,
                fun a a' w h hr => ⟨(h 125 (of_decide_eq_true (by kernel_rfl))).symm.trans hr.out⟩,
                fun a a' w h ⟨⟨x, hr⟩⟩ => ⟨⟨x, (h 11 (of_decide_eq_true (by kernel_rfl))).symm.trans hr⟩⟩,
                fun a a' w h ⟨⟨x, y, z, t, h1, h2, h3⟩⟩ => ⟨⟨x, y, z, t, (h 11 (of_decide_eq_true (by kernel_rfl))).symm.trans h1, (h 124 (of_decide_eq_true (by kernel_rfl))).symm.trans h2, h3⟩⟩,
                fun a a' w h hr => ⟨(h 12 (of_decide_eq_true (by kernel_rfl))).symm.trans hr.out⟩, trivial⟩
              (fun u hu => ⟨⟨rfl, rfl, fun _ _ => rfl, hu, fun g f' e => (by rw [show A13.eval (.tmp 11) = undef from a11] at e; cases e), fun A n c e => (by rw [show A13.eval (.tmp 122) = undef from a122] at e; cases e), fun x y z e => (by rw [show A13.eval (.tmp 123) = undef from a123] at e; cases e)⟩, fun _ => trivial⟩) ?_ ?_
            · refine ⟨?_, ?_, ?_, ?_, ?_, ?_, ?_, ?_, ?_, ?_, ?_, ?_, ?_, ?_, ?_, ?_, trivial⟩
              · intro a u hI hp hU
                have e2 : a.eval (.tmp 2) = pAt w.heap.size 0 := (hI.fr 2 (by decide)).trans a2
                have hsz : 114 < a.tmps.size := by rw [hI.size, HS]; decide
                refine stepA_pure (pAt w.heap.size 6) ?_ ?_ ?_
                · exact exec_fa _ _ _ rfl e2 (fa_s _ _)
                · exact hI.put 114 _ (by decide) (by decide) (by decide) (by decide)
                · exact ⟨eval_same a 114 _ hsz⟩
              · intro a u hI hp hU
                have h0 : a.eval (.tmp 114) = pAt w.heap.size 6 := (hp ⟨0, .data⟩ (by simp) rfl).out
                have hsz : 115 < a.tmps.size := by rw [hI.size, HS]; decide
                refine stepA_pure (.agg (bys G.s).toArray) ?_ ?_ ?_
                · exact exec_ldR _ _ rfl h0 (bys G.s) ((HU7.out.kept hI.kept (fun hf => hf)).rs HGSIX.out) _ Try.underlying23 rfl (by rw [bys_len, HGOK.out.s]; exact infm)
                · exact hI.put 115 _ (by decide) (by decide) (by decide) (by decide)
                · exact ⟨eval_same a 115 _ hsz⟩
              · intro a u hI hp hU
                have e2 : a.eval (.tmp 2) = pAt w.heap.size 0 := (hI.fr 2 (by decide)).trans a2
                have hsz : 116 < a.tmps.size := by rw [hI.size, HS]; decide
                refine stepA_pure (pAt w.heap.size 0) ?_ ?_ ?_
                · exact exec_fa _ _ _ rfl e2 (fa_d _ _)
                · exact hI.put 116 _ (by decide) (by decide) (by decide) (by decide)
                · exact ⟨eval_same a 116 _ hsz⟩
              · intro a u hI hp hU
                have h2 : a.eval (.tmp 116) = pAt w.heap.size 0 := (hp ⟨2, .data⟩ (by simp) rfl).out
                have hsz : 117 < a.tmps.size := by rw [hI.size, HS]; decide
                refine stepA_pure (.agg (bys G.d).toArray) ?_ ?_ ?_
                · exact exec_ldR _ _ rfl h2 (bys G.d) ((HU7.out.kept hI.kept (fun hf => hf)).rd) _ Try.underlying23 rfl (by rw [bys_len, HGOK.out.d]; exact infm)
                · exact hI.put 117 _ (by decide) (by decide) (by decide) (by decide)
                · exact ⟨eval_same a 117 _ hsz⟩
              · intro a u hI hp hU
                have e1 : a.eval (.tmp 1) = .slice A mo c := (hI.fr 1 (by decide)).trans a1
                have hsz : 118 < a.tmps.size := by rw [hI.size, HS]; decide
                refine stepA_pure (.slice A mo c) ?_ ?_ ?_
                · exact exec_mv _ rfl e1
                · exact hI.put 118 _ (by decide) (by decide) (by decide) (by decide)
                · exact ⟨eval_same a 118 _ hsz⟩
              · intro a u hI hp hU
                have e7 : a.eval (.tmp 7) = .slice (some ⟨bx, ox, none⟩) nx' cx := (hI.fr 7 (by decide)).trans a7
                have hsz : 119 < a.tmps.size := by rw [hI.size, HS]; decide
                refine stepA_pure (.slice (some ⟨bx, ox, none⟩) nx' cx) ?_ ?_ ?_
                · exact exec_mv _ rfl e7
                · exact hI.put 119 _ (by decide) (by decide) (by decide) (by decide)
                · exact ⟨eval_same a 119 _ hsz⟩
              · intro a u hI hp hU
                have e9 : a.eval (.tmp 9) = .int .i64 (N4 : Int) := (hI.fr 9 (by decide)).trans a9
                have hsz : 120 < a.tmps.size := by rw [hI.size, HS]; decide
                refine stepA_pure (.int .i64 (N4 : Int)) ?_ ?_ ?_
                · exact exec_mv _ rfl e9
                · exact hI.put 120 _ (by decide) (by decide) (by decide) (by decide)
                · exact ⟨eval_same a 120 _ hsz⟩
              · intro a u hI hp hU
                have h5 : a.eval (.tmp 119) = .slice (some ⟨bx, ox, none⟩) nx' cx := (hp ⟨5, .data⟩ (by simp) rfl).out
                have h6 : a.eval (.tmp 120) = .int .i64 (N4 : Int) := (hp ⟨6, .data⟩ (by simp) rfl).out
                have hsz : 121 < a.tmps.size := by rw [hI.size, HS]; decide
                refine stepA_pure (.slice Az RL cz) ?_ ?_ ?_
                · exact exec_lo _ _ _ rfl Try.underlying26 h5 h6 (HSLX.out u)
                · exact hI.put 121 _ (by decide) (by decide) (by decide) (by decide)
                · exact ⟨eval_same a 121 _ hsz⟩
              · intro a u hI hp hU
                have e1 : a.eval (.tmp 115) = .agg (bys G.s).toArray := ((hp ⟨1, .data⟩ (by simp) rfl).out)
                have e2 : a.eval (.tmp 117) = .agg (bys G.d).toArray := ((hp ⟨3, .data⟩ (by simp) rfl).out)
                have e3 : a.eval (.tmp 118) = .slice A mo c := ((hp ⟨4, .data⟩ (by simp) rfl).out)
                have e4 : a.eval (.tmp 121) = .slice Az RL cz := ((hp ⟨7, .data⟩ (by simp) rfl).out)
                have e5 : a.eval (.const (.slice none 0 0)) = .slice none 0 0 := rfl
                have e6 : a.eval (.func 20) = .func (.func 20) #[] #[] := rfl
                refine stepA_call 20 #[.agg (bys G.s).toArray, .agg (bys G.d).toArray, .slice A mo c, .slice Az RL cz] ?_ ?_
                · simp [execOp, go_sem]
                  exact ⟨ev_simp e1, ev_simp e2, ev_simp e3, ev_simp e4⟩
                refine (with_yes G.s G.d HGOK.out.s HGOK.out.d A mo c oz Az RL cz _ u (HOT7.out.kept hI.kept (fun _ _ hf => hf)) (HZ7.out.kept hI.kept (fun _ _ hf => hf)) (by have := HMO.out; omega) (by have := HNN.out; omega)).mono ?_
                rintro e w' ⟨v, rfl, hm⟩
                have hm1 := hm.1
                rw [HZZ.out, HZLL.out.1] at hm1
                obtain ⟨A7, c7, rfl, hy7, hl7⟩ := Byt.of_own hm1
                have hsz : 122 < a.tmps.size := by rw [hI.size, HS]; decide
                refine ⟨_, rfl, hI.with122 hm.2 hsz A7 c7 hy7 hl7, ⟨⟨A7, c7, eval_same a 122 _ hsz⟩⟩, fun j _ h => h.next hm.2, fun _ _ _ => trivial⟩
              · intro a u hI hp hU
                obtain ⟨A7, c7, e1⟩ : ∃ A c, a.eval (.tmp 122) = .slice A ZL c := ((hp ⟨8, .data⟩ (by simp) rfl).out)
                have e6 : a.eval (.func 16) = .func (.func 16) #[] #[] := rfl
                refine stepA_call 16 #[.slice A7 ZL c7] ?_ ?_
                · simp [execOp, go_sem]
                  exact ev_simp e1
                obtain ⟨_, hy7, _⟩ := hI.by8 _ _ _ e1
                refine (eget_yes A7 ZL c7 zz u hy7 (by have := HZLL.out.2; omega)).mono ?_
                rintro e w' ⟨pt, pb, pr, rfl, hnf, hk⟩
                rw [HGZ.out] at hnf ⊢
                simp only at hnf ⊢
                have hsz : 123 < a.tmps.size := by rw [hI.size, HS]; decide
                refine ⟨_, rfl, hI.get123 hk hsz pt pb pr hnf (hnf.frIn HF2OK.out HF2L.out.1 HF2L.out.2.1 HF2L.out.2.2), ⟨⟨pt, pb, pr, eval_same a 123 _ hsz⟩⟩, fun j _ h => h.next hk, fun _ _ _ => trivial⟩
              · intro a u hI hp hU
                obtain ⟨pt, pb, pr, e1⟩ : ∃ pt pb pr, a.eval (.tmp 123) = .tuple #[frv F2 pt pb pr, .int .i64 0] := ((hp ⟨9, .data⟩ (by simp) rfl).out)
                have hsz : 113 < a.tmps.size := by rw [hI.size, HS]; decide
                have e2 : (a.put (some 113) (a.eval (.tmp 123))).eval (.tmp 123) = a.eval (.tmp 123) := eval_put _ _ _ _ (by decide)
                refine stepA_pure (a.eval (.tmp 123)) ?_ ?_ ?_
                · exact exec_mv _ rfl rfl
                · exact hI.put 113 _ (by decide) (by decide) (by decide) (by decide)
                · exact ⟨⟨(eval_same a 113 _ hsz).trans e2.symm, pt, pb, pr, e2.trans e1⟩⟩
              · intro a u hI hp hU
                obtain ⟨e0, pt, pb, pr, e1⟩ : a.eval (.tmp 113) = a.eval (.tmp 123) ∧ ∃ pt pb pr, a.eval (.tmp 123) = .tuple #[frv F2 pt pb pr, .int .i64 0] := ((hp ⟨10, .data⟩ (by simp) rfl).out)
                have hsz : 124 < a.tmps.size := by rw [hI.size, HS]; decide
                refine stepA_pure (frv F2 pt pb pr) ?_ ?_ ?_
                · exact exec_ex _ _ rfl (e0.trans e1) (ex_0 _ _ _)
                · exact hI.put 124 _ (by decide) (by decide) (by decide) (by decide)
                refine ⟨?_⟩
                show (a.put (some 124) (frv F2 pt pb pr)).eval (.tmp 113) = .tuple #[(a.put (some 124) (frv F2 pt pb pr)).eval (.tmp 124), .int .i64 0]
                rw [eval_same a 124 _ hsz, eval_put _ _ _ _ (by decide), e0, e1]
              · intro a u hI hp hU
                obtain ⟨e0, pt, pb, pr, e1⟩ : a.eval (.tmp 113) = a.eval (.tmp 123) ∧ ∃ pt pb pr, a.eval (.tmp 123) = .tuple #[frv F2 pt pb pr, .int .i64 0] := ((hp ⟨10, .data⟩ (by simp) rfl).out)
                have hsz : 125 < a.tmps.size := by rw [hI.size, HS]; decide
                refine stepA_pure (.int .i64 0) ?_ ?_ ?_
                · exact exec_ex _ _ rfl (e0.trans e1) (ex_1 _ _ _)
                · exact hI.put 125 _ (by decide) (by decide) (by decide) (by decide)
                · exact ⟨eval_same a 125 _ hsz⟩
              · intro a u hI hp hU
                have hsz : 11 < a.tmps.size := by rw [hI.size, HS]; decide
                have hk := (Kept.refl Nil u).alloc (.cells (fcs Fr.zero nilv nilv nilv).toArray 28)
                unfold Oper.wp
                rw [show (execOp a.eval _).run Try.prog u = .ok (.value (pAt u.heap.size 0)) (u.alloc (.cells (fcs Fr.zero nilv nilv nilv).toArray 28)) by kernel_rfl]
                exact ⟨_, rfl, hI.alloc11 hsz, ⟨⟨_, eval_same a 11 _ hsz⟩⟩, fun j _ h => h.next hk, fun _ _ _ => trivial⟩
              · intro a u hI hp hU
                obtain ⟨g, e11⟩ : ∃ g, a.eval (.tmp 11) = pAt g 0 := ((hp ⟨13, .data⟩ (by simp) rfl).out)
                have e124 : a.eval (.tmp 113) = .tuple #[a.eval (.tmp 124), .int .i64 0] := ((hp ⟨11, .data⟩ (by simp) rfl).out)
                obtain ⟨e0, pt, pb, pr, e1⟩ : a.eval (.tmp 113) = a.eval (.tmp 123) ∧ ∃ pt pb pr, a.eval (.tmp 123) = .tuple #[frv F2 pt pb pr, .int .i64 0] := ((hp ⟨10, .phase⟩ (by simp) rfl).out)
                have ex : a.eval (.tmp 124) = frv F2 pt pb pr := by
                  rw [e0, e1] at e124
                  injection e124 with e124
                  injection e124 with e124
                  injection e124 with e124 _
                  exact e124.symm
                obtain ⟨hg1, hg2, F', x, y, z, hF', hfb⟩ := hI.al g 0 e11
                obtain ⟨hfi, hfar⟩ := hI.fr9 pt pb pr e1
                refine stepA_st _ _ _ rfl rfl e11 (fcs F2 pt pb pr) ex rfl (by rw [fcs_len HF2OK.out.six]; exact infF) hfb (by rw [fcs_len hF', fcs_len HF2OK.out.six]; omega) (FrIn.ones hfi) fun u' hbl hk hz => ?_
                have hfb' := FB.of_all hF' HF2OK.out.six hbl
                exact ⟨hI.store14 hk hz e11 HF2OK.out.six pt pb pr hfb', ⟨⟨g, pt, pb, pr, e11, ex, hfb'⟩⟩, fun j hj h => h.st hj, fun _ _ _ => trivial⟩
              · intro a u hI hp hU
                have h12 : a.eval (.tmp 125) = .int .i64 0 := (hp ⟨12, .data⟩ (by simp) rfl).out
                have hsz : 12 < a.tmps.size := by rw [hI.size, HS]; decide
                refine stepA_pure (.int .i64 0) ?_ ?_ ?_
                · exact exec_as _ rfl h12
                · exact hI.put 12 _ (by decide) (by decide) (by decide) (by decide)
                · exact ⟨eval_same a 12 _ hsz⟩
            · intro a u hI hR
              obtain ⟨g11, x, y, z, e11, e124, hfb⟩ := (hR 14 _ rfl).out
              have e114 : a.eval (.tmp 114) = pAt w.heap.size 6 := (hR 0 _ rfl).out
              have e115 : a.eval (.tmp 115) = .agg (bys G.s).toArray := (hR 1 _ rfl).out
              have e116 : a.eval (.tmp 116) = pAt w.heap.size 0 := (hR 2 _ rfl).out
              have e117 : a.eval (.tmp 117) = .agg (bys G.d).toArray := (hR 3 _ rfl).out
              have e118 : a.eval (.tmp 118) = .slice A mo c := (hR 4 _ rfl).out
              have e119 : a.eval (.tmp 119) = .slice (some ⟨bx, ox, none⟩) nx' cx := (hR 5 _ rfl).out
              have e120 : a.eval (.tmp 120) = .int .i64 (N4 : Int) := (hR 6 _ rfl).out
              have e121 : a.eval (.tmp 121) = .slice Az RL cz := (hR 7 _ rfl).out
              obtain ⟨A8, c8, e122⟩ : ∃ A c, a.eval (.tmp 122) = .slice A ZL c := (hR 8 _ rfl).out
              obtain ⟨pt, pb, pr, e123⟩ : ∃ pt pb pr, a.eval (.tmp 123) = .tuple #[frv F2 pt pb pr, .int .i64 0] := (hR 9 _ rfl).out
              have e113 : a.eval (.tmp 113) = .tuple #[frv F2 pt pb pr, .int .i64 0] := ((hR 10 _ rfl).out).1.trans e123
              have e11b : a.eval (.tmp 113) = .tuple #[a.eval (.tmp 124), .int .i64 0] := (hR 11 _ rfl).out
              have e125 : a.eval (.tmp 125) = .int .i64 0 := (hR 12 _ rfl).out
              have e12 : a.eval (.tmp 12) = .int .i64 0 := (hR 15 _ rfl).out
              have hxx : frv F2 pt pb pr = frv F2 x y z := by
                rw [e113, e124] at e11b
                injection e11b with e11b
                injection e11b with e11b
                injection e11b with e11b _
              obtain ⟨rfl, rfl, rfl⟩ := frv_inj hxx
              have HFI8 := Lib.hid (hI.fr9 _ _ _ e123).1
              have ha := act_eq a A13 [(114, pAt w.heap.size 6), (115, .agg (bys G.s).toArray), (116, pAt w.heap.size 0), (117, .agg (bys G.d).toArray), (118, .slice A mo c), (119, .slice (some ⟨bx, ox, none⟩) nx' cx), (120, .int .i64 (N4 : Int)), (121, .slice Az RL cz), (122, .slice A8 ZL c8), (123, .tuple #[frv F2 pt pb pr, .int .i64 0]), (113, .tuple #[frv F2 pt pb pr, .int .i64 0]), (124, frv F2 pt pb pr), (125, .int .i64 0), (11, pAt g11 0), (12, .int .i64 0)] hI.size hI.defs (show ([114, 115, 116, 117, 118, 119, 120, 121, 122, 123, 113, 124, 125, 11, 12] : List Nat).Nodup by decide) (fun p hp => by
                  rw [HS]
                  have h1 : p.1 ∈ [114, 115, 116, 117, 118, 119, 120, 121, 122, 123, 113, 124, 125, 11, 12] := List.mem_map_of_mem (f := Prod.fst) hp
                  simp at h1
                  omega) (fun p hp => by
                  simp only [List.mem_cons, List.not_mem_nil, or_false] at hp
                  rcases hp with rfl | rfl | rfl | rfl | rfl | rfl | rfl | rfl | rfl | rfl | rfl | rfl | rfl | rfl | rfl
                  · exact e114
                  · exact e115
                  · exact e116
                  · exact e117
                  · exact e118
                  · exact e119
                  · exact e120
                  · exact e121
                  · exact e122
                  · exact e123
                  · exact e113
                  · exact e124
                  · exact e125
                  · exact e11
                  · exact e12) (fun d hd => hI.fr d hd)
              have HB8 := Lib.hid hfb
              have HK := Lib.hid hI.kept
              have HU8 := Lib.hid (HU7.out.kept HK.out (fun hf => hf))
              have HIN8 := Lib.hid (HIN7.out.kept HK.out)
              have HOT8 := Lib.hid (HOT7.out.kept HK.out (fun _ _ hf => hf))
              have HK8 := Lib.hid (HK7.out.then HK.out)
              have HULT := Lib.hid HU7.out.lt
              clear hI hR hfb e11 e114 e115 e116 e117 e118 e119 e120 e121 e122 e123 e113 e11b e124 e125 e12 hxx
              subst ha
              have hA := HA13.out
              clear HA13 a1 a2 a7 a9 a11 a122 a123 HS
              subst hA
              unfold pAt
              simp only [List.foldl_cons, List.foldl_nil, Act.put, List.setIfInBounds_toArray, List.set_cons_succ, List.set_cons_zero]
              clear HZ7 HU7 HIN7 HOT7 HK7 hslx HSLX HGZ HZLL HZZ HK
              have HFN := Lib.hid (FB.new u 28 Fr.zero nilv nilv nilv)
              go_upto_region 15 with (first
                | (refine wpList_ld rfl _ (.tmp 2) rfl _ 0 rfl _ HU8.out.all _ Try.underlying28 rfl (by rw [fcs_len HGSIX.out]; exact infF) ?_)
                | (refine wpList_st rfl _ (.tmp 13) _ rfl _ 0 rfl (fcs G (.slice Au nu cu) (.slice Ab' nb' cb') (.slice Ar' nr' cr')) _ rfl rfl (by rw [fcs_len HGSIX.out]; exact infF) 28 _ HFN.out (by rw [fcs_len Fr.zero_six, fcs_len HGSIX.out]; omega) (fcs_one rfl rfl rfl) ?_; intro w9 hb9 hk9 hz9))
              have hk89 := ((Kept.refl Nil u).alloc (.cells (fcs Fr.zero nilv nilv nilv).toArray 28)).fresh hk9 (fun i hi => by cases hi; exact Nat.le_refl _)
              have HW9 := Lib.hid (FB.of_all (f' := G) Fr.zero_six HGSIX.out hb9)
              have HB9 := Lib.hid (HB8.out.kept hk89 (fun hf => hf))
              have HU9 := Lib.hid (HU8.out.kept hk89 (fun hf => hf))
              have HFI9 := Lib.hid (HFI8.out.kept hk89)
              have HIN9 := Lib.hid (HIN8.out.kept hk89)
              have HOT9 := Lib.hid (HOT8.out.kept hk89 (fun _ _ hf => hf))
              have HK9 := Lib.hid (HK8.out.then hk89)
              have HNE := Lib.hid (show w.heap.size ≠ u.heap.size by have := HU8.out.lt; omega)
              have HNE2 := Lib.hid (show g11 ≠ u.heap.size by have := HB8.out.lt; omega)
              have HSZ9 := Lib.hid (show w.heap.size ≤ u.heap.size from HK8.out.size)
              have HK89 := Lib.hid hk89
              clear hb9 hk9 hz9 hk89 HFN HB8 HU8 HFI9 HIN9 HOT9 HK8
              obtain ⟨g13, hg13⟩ : ∃ g, u.heap.size = g := ⟨_, rfl⟩
              have HG13 := Lib.hid (Nat.le_of_eq hg13)
              rw [hg13] at HW9 HNE HNE2 HSZ9 ⊢
              clear hg13
              have hqt := HF2E.out
              simp only [Act.put]
              refine wp_region_acts (One g13) [6, 8, 10] (fun i vl => (#[], 0)) (fun i => undef) (stI g13 28 (fun i => if i = 0 then fcs G (.slice Au nu cu) (.slice Ab' nb' cb') (.slice Ar' nr' cr') else if i = 1 then fcs { G with d := G.s } (.slice Au nu cu) (.slice Ab' nb' cb') (.slice Ar' nr' cr') else if i = 2 then fcs { G with d := G.s, s := G.d } (.slice Au nu cu) (.slice Ab' nb' cb') (.slice Ar' nr' cr') else fcs { G with d := G.s, s := G.d } (.slice A mo c) (.slice Ab' nb' cb') (.slice Ar' nr' cr'))) (fun i v => v = undef) 11 (by kernel_rfl) (by kernel_rfl) (stI_keeps _ _ _) ⟨HW9.out, fun _ h => h.elim⟩ ?_
              simp only [List.take_succ_cons, List.take_zero, List.drop_succ_cons, List.drop_zero]
              refine tLex_quiets 6 rfl (by kernel_rfl) ?_
              simp only [List.take_succ_cons, List.take_zero, List.drop_succ_cons, List.drop_zero]
              apply Exists.intro
              refine ⟨?hqa, ?hva, ?hta⟩
              case hqa =>
                intro V hV
                go_big_quiet_step (fail)
                refine wpQuiet_ld rfl _ _ rfl w.heap.size 6 rfl (bys G.s) (fun w' hw => row_grown ((HU9.out.kept hV (fun hf => HNE.out hf)).rs HGSIX.out) hw) _ Try.underlying23 rfl (by rw [bys_len, HGOK.out.s]; exact infm) ?_
                simp only [Act.put, List.setIfInBounds_toArray, List.set_cons_succ, List.set_cons_zero]
                go_big_quiet_step (fail)
                refine wpQuiet_ld rfl _ _ rfl w.heap.size 0 rfl (bys G.d) (fun w' hw => row_grown ((HU9.out.kept hV (fun hf => HNE.out hf)).rd) hw) _ Try.underlying23 rfl (by rw [bys_len, HGOK.out.d]; exact infm) ?_
                simp only [Act.put, List.setIfInBounds_toArray, List.set_cons_succ, List.set_cons_zero]
                clear hV
                repeat (go_big_quiet_step (fail))
                exact wpQuiet_nil rfl
              case hva => exact ⟨trivial, trivial, trivial, trivial, trivial, trivial, trivial⟩
              case hta =>
                refine tLex_st rfl 0 _ _ _ rfl rfl rfl rfl 0 rfl rfl (bys G.s) _ rfl rfl (by rw [bys_len, HGOK.out.s]; exact infm) (by simp only [if_pos, bys_len, HGOK.out.s, fcs_len HGSIX.out]; decide) (bys_one G.s) (fcs_set_d G.s HGOK.out.s HGSIX.out) (fun v hv => hv) ?_
                simp only [Act.put]
                refine tLex_quiets 1 rfl (by kernel_rfl) ?_
                simp only [List.take_succ_cons, List.take_zero, List.drop_succ_cons, List.drop_zero]
                apply Exists.intro
                refine ⟨?hqb, ?hvb, ?htb⟩
                case hqb =>
                  intro V hV
                  clear hV
                  repeat (go_big_quiet_step (fail))
                  exact wpQuiet_nil rfl
                case hvb => exact ⟨trivial, trivial⟩
                case htb =>
                  refine tLex_st rfl 6 _ _ _ rfl rfl rfl rfl 1 rfl rfl (bys G.d) _ rfl rfl (by rw [bys_len, HGOK.out.d]; exact infm) (by show 6 + (bys G.d).length ≤ (fcs { G with d := G.s } (.slice Au nu cu) (.slice Ab' nb' cb') (.slice Ar' nr' cr')).length; rw [bys_len, HGOK.out.d, fcs_len (f := { G with d := G.s }) ⟨HGOK.out.s, HGSIX.out.s, HGSIX.out.l, HGSIX.out.o⟩]; decide) (bys_one G.d) (fcs_set_s (f := { G with d := G.s }) G.d HGOK.out.d ⟨HGOK.out.s, HGSIX.out.s, HGSIX.out.l, HGSIX.out.o⟩) (fun v hv => hv) ?_
                  simp only [Act.put]
                  refine tLex_quiets 1 rfl (by kernel_rfl) ?_
                  simp only [List.take_succ_cons, List.take_zero, List.drop_succ_cons, List.drop_zero]
                  apply Exists.intro
                  refine ⟨?hqc, ?hvc, ?htc⟩
                  case hqc =>
                    intro V hV
                    clear hV
                    repeat (go_big_quiet_step (fail))
                    exact wpQuiet_nil rfl
                  case hvc => exact ⟨trivial, trivial⟩
                  case htc =>
                    refine tLex_st rfl 12 _ _ _ rfl rfl rfl rfl 2 rfl rfl [.slice A mo c] _ rfl rfl infSt (by show 12 + 1 ≤ (fcs { G with d := G.s, s := G.d } (.slice Au nu cu) (.slice Ab' nb' cb') (.slice Ar' nr' cr')).length; rw [fcs_len (f := { G with d := G.s, s := G.d }) ⟨HGOK.out.s, HGOK.out.d, HGSIX.out.l, HGSIX.out.o⟩]; decide) (by intro u hu; simp at hu; subst hu; rfl) (fcs_set_t (f := { G with d := G.s, s := G.d }) (.slice A mo c) ⟨HGOK.out.s, HGOK.out.d, HGSIX.out.l, HGSIX.out.o⟩) (fun v hv => hv) ?_
                    simp only [Act.put]
                    intro w10 hs
                    have hw10 : FB w10 g13 28 F2 (.slice A mo c) (.slice Ab' nb' cb') (.slice Ar' nr' cr') := by rw [hqt]; exact hs.know.1
                    have hk10 := hs.kept
                    have HW10 := Lib.hid hw10
                    have HB10 := Lib.hid (HB9.out.kept hk10 (fun hf => HNE2.out hf))
                    have HK10 := Lib.hid (HK9.out.fresh hk10 (fun i hi => by cases hi; exact HSZ9.out))
                    have hku : Kept (One g13) u w10 := ((Kept.refl (One g13) u).trans (F' := Nil) HK89.out (fun _ _ hf => hf.elim)).trans (F' := One g13) hk10 (fun i _ h => h)
                    have HFX := Lib.hid (HFI8.out.over hku HG13.out)
                    have hing := HIN8.out.over hku HG13.out
                    have hotg : Tags w10 A mo c oz := HOT8.out.kept hku (fun i hi hf => by have := HOT8.out.lt i hi; have := HG13.out; cases hf; omega)
                    have HFW := Lib.hid (show FrIn w10 F2 (.slice A mo c) (.slice Ab' nb' cb') (.slice Ar' nr' cr') from ⟨HF2OK.out, ⟨_, _, _, rfl, by rw [hqt]; exact hotg⟩, by rw [hqt]; exact hing.b, by rw [hqt]; exact hing.r, HF2L.out.1, HF2L.out.2.1, HF2L.out.2.2⟩)
                    have F2SIX := Lib.hid HF2OK.out.six
                    clear hs hw10 hk10 hku hing hotg HK9 HW9 HB9 HU9 HFI8 HIN8 HOT8 HNE HNE2 HK89 HSZ9 hqt
                    go_upto_region 16 with (fail)
                    refine wp_region_acts Nil [4, 6, 7, 10] (fun i vl => (#[], 0)) (fun i => undef) (actI (bkG F2 pb pr (.slice Ab' nb' cb') (.slice Ar' nr' cr'))) (bkP F2 pb pr (.slice Ab' nb' cb') (.slice Ar' nr' cr')) 13 (by kernel_rfl) (by kernel_rfl) (actI_keeps bkG_kept) actI_nil ?_
                    simp only [List.take_succ_cons, List.take_zero, List.drop_succ_cons, List.drop_zero]
                    refine tLex_quiets 4 rfl (by kernel_rfl) ?_
                    simp only [List.take_succ_cons, List.take_zero, List.drop_succ_cons, List.drop_zero]
                    apply Exists.intro
                    refine ⟨?hqd, ?hvd, ?htd⟩
                    case hqd =>
                      intro V hV
                      go_big_quiet_step (fail)
                      go_big_quiet_step (fail)
                      go_big_quiet_step (fail)
                      refine wpQuiet_ld rfl _ _ rfl g11 0 rfl (fcs F2 pt pb pr) (fun w' hw => row_grown ((HB10.out.kept hV (fun hf => hf)).all) hw) _ Try.underlying28 rfl (by rw [fcs_len F2SIX.out]; exact infF) ?_
                      simp only [Act.put, List.setIfInBounds_toArray, List.set_cons_succ, List.set_cons_zero]
                      exact wpQuiet_nil rfl
                    case hvd => exact ⟨trivial, trivial, trivial, trivial, trivial⟩
                    case htd =>
                      refine tLex_act 10 #[frv F2 pt pb pr] (fun u => ?hee) rfl rfl (frv F2 nilv pb pr) ⟨_, rfl⟩ ?hce ?_
                      case hee => simp [execOp, go_sem]; rfl
                      case hce =>
                        intro D u hu hI hd
                        refine (frOf_yes F2 pt pb pr u (HFX.out.kept hu)).mono ?_
                        rintro e w' ⟨v, rfl, hnt, hk⟩
                        exact ⟨_, rfl, ⟨v, rfl⟩, hu.then hk, actI_snoc bkG_kept hI hk 0 rfl ⟨v, rfl, of_rd (HFX.out.kept hu) hnt hk⟩, hk.size, fun k _ h2 => hk.block k h2 (fun hf => hf)⟩
                      intro v7 hv7
                      clear hv7
                      simp only [Act.put, List.setIfInBounds_toArray, List.set_cons_succ, List.set_cons_zero]
                      refine tLex_quiets 1 rfl (by kernel_rfl) ?_
                      simp only [List.take_succ_cons, List.take_zero, List.drop_succ_cons, List.drop_zero]
                      apply Exists.intro
                      refine ⟨?hqf, ?hvf, ?htf⟩
                      case hqf =>
                        intro V hV
                        refine wpQuiet_ld rfl _ _ rfl g13 0 rfl (fcs F2 (.slice A mo c) (.slice Ab' nb' cb') (.slice Ar' nr' cr')) (fun w' hw => row_grown ((HW10.out.kept hV (fun hf => hf)).all) hw) _ Try.underlying28 rfl (by rw [fcs_len F2SIX.out]; exact infF) ?_
                        simp only [Act.put, List.setIfInBounds_toArray, List.set_cons_succ, List.set_cons_zero]
                        exact wpQuiet_nil rfl
                      case hvf => exact ⟨trivial, trivial⟩
                      case htf =>
                        refine tLex_act 10 #[frv F2 (.slice A mo c) (.slice Ab' nb' cb') (.slice Ar' nr' cr')] (fun u => ?heg) rfl rfl (frv F2 nilv (.slice Ab' nb' cb') (.slice Ar' nr' cr')) ⟨_, rfl⟩ ?hcg ?_
                        case heg => simp [execOp, go_sem]; rfl
                        case hcg =>
                          intro D u hu hI hd
                          refine (frOf_yes F2 (.slice A mo c) (.slice Ab' nb' cb') (.slice Ar' nr' cr') u (HFW.out.kept hu)).mono ?_
                          rintro e w' ⟨v, rfl, hnt, hk⟩
                          exact ⟨_, rfl, ⟨v, rfl⟩, hu.then hk, actI_snoc bkG_kept hI hk 1 rfl ⟨v, rfl, of_rd (HFW.out.kept hu) hnt hk⟩, hk.size, fun k _ h2 => hk.block k h2 (fun hf => hf)⟩
                        intro v8 hv8
                        clear hv8
                        simp only [Act.put, List.setIfInBounds_toArray, List.set_cons_succ, List.set_cons_zero]
                        refine tLex_act 19 #[v7, v8] (fun u => ?heh) rfl rfl (.bool true) rfl ?hch ?_
                        case heh => simp [execOp, go_sem]
                        case hch =>
                          intro D u hu hI hd
                          obtain ⟨t1, rfl, h1⟩ := hI 0 _ rfl
                          obtain ⟨t2, rfl, h2⟩ := hI 1 _ rfl
                          refine (same_yes F2 t1 pb pr t2 (.slice Ab' nb' cb') (.slice Ar' nr' cr') u h1 h2).mono ?_
                          rintro e w' ⟨rfl, hk⟩
                          exact ⟨_, rfl, rfl, hu.then hk, actI_snoc bkG_kept hI hk 2 rfl trivial, hk.size, fun k _ h2 => hk.block k h2 (fun hf => hf)⟩
                        intro v9 hv9
                        obtain rfl : v9 = .bool true := hv9
                        simp only [Act.put, List.setIfInBounds_toArray, List.set_cons_succ, List.set_cons_zero]
                        refine tLex_quiets 2 rfl (by kernel_rfl) ?_
                        simp only [List.take_succ_cons, List.take_zero, List.drop_succ_cons, List.drop_zero]
                        apply Exists.intro
                        refine ⟨?hqi, ?hvi, ?hti⟩
                        case hqi =>
                          intro V hV
                          repeat (go_big_quiet_step (fail))
                          exact wpQuiet_nil rfl
                        case hvi => exact ⟨trivial, trivial, trivial⟩
                        case hti =>
                          refine tLex_act 15 #[] (fun u => ?hej) rfl rfl (.bool true) rfl ?hcj ?_
                          case hej => simp [execOp, go_sem]
                          case hcj =>
                            intro D u hu hI hd
                            refine (tells_yes u).mono ?_
                            rintro e w' ⟨rfl, hk⟩
                            exact ⟨_, rfl, rfl, hu.then hk, actI_snoc bkG_kept hI hk 3 rfl trivial, hk.size, fun k _ h2 => hk.block k h2 (fun hf => hf)⟩
                          intro v10 hv10
                          obtain rfl : v10 = .bool true := hv10
                          simp only [Act.put, List.setIfInBounds_toArray, List.set_cons_succ, List.set_cons_zero]
                          refine tLex_quiets 2 rfl (by kernel_rfl) ?_
                          simp only [List.take_succ_cons, List.take_zero, List.drop_succ_cons, List.drop_zero]
                          apply Exists.intro
                          refine ⟨?hqk, ?hvk, ?htk⟩
                          case hqk =>
                            intro V hV
                            repeat (go_big_quiet_step (fail))
                            exact wpQuiet_nil rfl
                          case hvk => exact ⟨trivial, trivial, trivial⟩
                          case htk =>
                            intro w11 hs
                            have HK11 := Lib.hid (HK10.out.then hs.kept)
                            clear hs
                            go_wp2
                            go_ret
                            exact ⟨rfl, HK11.out.below (Nat.le_refl _) (fun _ hf => hf.elim)⟩
          · cases hmz : mayL oz with
            | false =>
              clear hgo
              go_wp2_with (fail)
              refine (tells_yes _).mono ?_
              rintro e w8 ⟨rfl, hk8⟩
              have HK8 := Lib.hid (HK7.out.then hk8)
              clear hk8
              go_wp2
              go_ret
              exact ⟨rfl, HK8.out.below (Nat.le_refl _) (fun _ hf => hf.elim)⟩
            | true =>
              have hkk : K = 33024 ∨ K = 34984 := by
                by_cases h1 : K = 33024
                · exact .inl h1
                · by_cases h2 : K = 34984
                  · exact .inr h2
                  · exact absurd ⟨hmz, h1, h2⟩ hgo
              clear hgo
              rcases hkk with rfl | rfl
              all_goals
                go_wp2_with (fail)
                refine (tells_yes _).mono ?_
                rintro e w8 ⟨rfl, hk8⟩
                have HK8 := Lib.hid (HK7.out.then hk8)
                clear hk8
                go_wp2
                go_ret
                exact ⟨rfl, HK8.out.below (Nat.le_refl _) (fun _ hf => hf.elim)⟩
  · by_cases e0 : E = 0
    · subst e0
      have hle' : (65535 : Int) < (y.length : Int) := by omega
      clear hE HERR HGP
      go_wp2_with (fail)
      refine (tells_yes _).mono ?_
      rintro e w4 ⟨rfl, hk4⟩
      have HK4 := Lib.hid (HK3.out.then hk4)
      clear hk4
      go_wp2
      go_ret
      exact ⟨rfl, HK4.out.below (Nat.le_refl _) (fun _ hf => hf.elim)⟩
    · have e1 : E = 1 ∨ E = 3 := by rcases HERR.out with h | ⟨_, h⟩; exact absurd h e0; exact h
      clear hE HERR HGP e0
      rcases e1 with rfl | rfl
      all_goals
        go_wp2_with (fail)
        refine (tells_yes _).mono ?_
        rintro e w4 ⟨rfl, hk4⟩
        have HK4 := Lib.hid (HK3.out.then hk4)
        clear hk4
        go_wp2
        go_ret
        exact ⟨rfl, HK4.out.below (Nat.le_refl _) (fun _ hf => hf.elim)⟩
end Go.Proofs.Ytjdaaelkaeokeaa
