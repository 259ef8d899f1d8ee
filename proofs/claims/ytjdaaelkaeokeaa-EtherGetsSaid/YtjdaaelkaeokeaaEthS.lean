/- tolllaw04: Same, of two frames that are the same. -/
import Derived.Test.YtjdaaelkaeokeaaEthN
namespace Go.Proofs.Ytjdaaelkaeokeaa
open Go.RowKit Go.Sort
set_option linter.unusedVariables false

/-- Two slices of tags and bytes read as a frame says. -/
structure FrRd (w : World) (f : Fr) (vt vb vr : Value) : Prop where
  six : f.six
  t : ∃ A n c, vt = .slice A n c ∧ Tags w A n c f.t
  b : ∃ A n c, vb = .slice A n c ∧ Byt w A n c f.b
  r : ∃ A n c, vr = .slice A n c ∧ Byt w A n c f.r
  tn : f.t.length ≤ 1000
theorem FrRd.kept {w w' : World} {f : Fr} {vt vb vr : Value} (h : FrRd w f vt vb vr) (k : Kept Nil w w') : FrRd w' f vt vb vr := by
  obtain ⟨h0, ⟨A, n, c, e, ht⟩, ⟨A1, n1, c1, e1, hb⟩, ⟨A2, n2, c2, e2, hr⟩, h1⟩ := h
  exact ⟨h0, ⟨A, n, c, e, ht.kept k (fun _ _ hf => hf)⟩, ⟨A1, n1, c1, e1, hb.kept k (fun _ _ hf => hf)⟩, ⟨A2, n2, c2, e2, hr.kept k (fun _ _ hf => hf)⟩, h1⟩
theorem eq_arr6 (l m : List UInt8) (hl : l.length = 6) (hm : m.length = 6) (w : World) : (Op.equalIn 10000 22 (.agg (bys l).toArray) (.agg (bys m).toArray)).run Try.prog w = .ok (l == m) w :=
  run_equalIn_bytes w 9998 22 5 6 Try.underlying22 Try.underlying5 siz5 l m hl hm
set_option maxRecDepth 100000 in
set_option maxHeartbeats 4000000 in
theorem same_yes (f : Fr) (vt vb vr ut ub ur : Value) (w : World) (h : FrRd w f vt vb vr) (h' : FrRd w f ut ub ur) :
    Calls Try.prog 19 #[frv f vt vb vr, frv f ut ub ur] w fun e w' => e = .returned (.bool true) ∧ Kept Nil w w' := by
  have hF := (FB.new w 32 f vt vb vr).alloc (.cells (fcs f ut ub ur).toArray 32)
  have hG : FB ((w.alloc (.cells (fcs f vt vb vr).toArray 32)).alloc (.cells (fcs f ut ub ur).toArray 32)) (w.heap.size + 1) 32 f ut ub ur := by
    have := FB.new (w.alloc (.cells (fcs f vt vb vr).toArray 32)) 32 f ut ub ur
    rwa [World.size_alloc] at this
  have hk : Kept Nil w ((w.alloc (.cells (fcs f vt vb vr).toArray 32)).alloc (.cells (fcs f ut ub ur).toArray 32)) := ((Kept.refl Nil w).alloc _).alloc _
  have HF := Lib.hid hF
  have HG := Lib.hid hG
  have HK := Lib.hid hk
  have HI := Lib.hid (h.kept hk)
  have HJ := Lib.hid (h'.kept hk)
  have HSIX := Lib.hid h.six
  clear hF hG hk h h'
  go_enter Try.func19, Try.ntmps19
  go_upto_region 1 with (fail)
  refine wp_nameE (fun W => FB W w.heap.size 32 f vt vb vr ∧ FB W (w.heap.size + 1) 32 f ut ub ur ∧ Kept Nil w W ∧ FrRd W f vt vb vr ∧ FrRd W f ut ub ur) ⟨HF.out, HG.out, HK.out, HI.out, HJ.out⟩ ?_
  clear HF HG HK HI HJ
  rintro W ⟨hF, hG, hk, hi, hj⟩
  obtain ⟨d, s, t, k, y, l, o, b, r⟩ := f
  obtain ⟨At, nt, ct, rfl, htt⟩ := hi.t
  obtain ⟨Ab, nb, cb, rfl, hbb⟩ := hi.b
  obtain ⟨Ar, nr, cr, rfl, hrr⟩ := hi.r
  obtain ⟨At', nt', ct', rfl, htt'⟩ := hj.t
  obtain ⟨Ab', nb', cb', rfl, hbb'⟩ := hj.b
  obtain ⟨Ar', nr', cr', rfl, hrr'⟩ := hj.r
  obtain rfl : nt = nt' := htt.len.symm.trans htt'.len
  have c12 := hF.ct HSIX.out
  have d12 := hG.ct HSIX.out
  have HF := Lib.hid hF
  have HG := Lib.hid hG
  have HK := Lib.hid hk
  have HT := Lib.hid (show Tags W At nt ct t from htt)
  have HT' := Lib.hid (show Tags W At' nt ct' t from htt')
  have HB := Lib.hid (show Byt W Ab nb cb b from hbb)
  have HB' := Lib.hid (show Byt W Ab' nb' cb' b from hbb')
  have HR := Lib.hid (show Byt W Ar nr cr r from hrr)
  have HR' := Lib.hid (show Byt W Ar' nr' cr' r from hrr')
  have HTN := Lib.hid (show nt ≤ 1000 by rw [← htt.len]; exact hi.tn)
  clear hF hG hk hi hj htt hbb hrr htt' hbb' hrr'
  go_wp2
  go_loopw [5] (fun i wr => ∃ q : Nat, q ≤ nt ∧ i = .int .i64 (q : Int) ∧ Hid (Kept Nil W wr)) (fun i _ => nt - (intOf i).toNat)
  case atStart => exact ⟨0, Nat.zero_le _, rfl, Kept.refl _ _⟩
  case round =>
    obtain ⟨q, hq, rfl, HKR⟩ := hrel
    have e12 := HKR.out.cell c12 (fun hf => hf)
    have f12 := HKR.out.cell d12 (fun hf => hf)
    by_cases hlt : q < nt
    · have hql : q < t.length := by rw [HT.out.len]; exact hlt
      obtain ⟨bt, ot, rfl, hz9⟩ := HT.out.at hql
      obtain ⟨bt', ot', rfl, hz8⟩ := HT'.out.at hql
      clear hz9 hz8
      have hc1 : ∀ u, Kept Nil W u → _ := fun u hu => (HT.out.kept hu (fun _ _ hf => hf)).cells hql
      have hc2 : ∀ u, Kept Nil W u → _ := fun u hu => (HT'.out.kept hu (fun _ _ hf => hf)).cells hql
      have eqs := fun u => eq_rtag (t[q]'hql) (t[q]'hql) u
      generalize t[q]'hql = x at *
      unfold tgv at eqs
      have HC1 := Lib.hid hc1
      have HC2 := Lib.hid hc2
      have HTN2 := HTN.out
      have HGG := Lib.hid (show Kept Nil w wr from HK.out.then HKR.out)
      clear hc1 hc2
      rw [decide_eq_true rfl] at eqs
      go_wp2
      refine wp_region_quiet_below (by kernel_rfl) (by kernel_rfl) ?_
      have g12 := fun d os => ((HF.out.kept HKR.out (fun hf => hf)).kept (kept_grown' wr d os) (fun hf => hf)).ct HSIX.out
      have h12 := fun d os => ((HG.out.kept HKR.out (fun hf => hf)).kept (kept_grown' wr d os) (fun hf => hf)).ct HSIX.out
      have hq1 := fun d os => HC1.out _ (HKR.out.then (kept_grown' wr d os))
      have hq2 := fun d os => HC2.out _ (HKR.out.then (kept_grown' wr d os))
      have q0 := fun d os => (hq1 d os).1
      have q1 := fun d os => (hq1 d os).2.1
      have q2 := fun d os => (hq1 d os).2.2.1
      have q3 := fun d os => (hq1 d os).2.2.2
      have p0 := fun d os => (hq2 d os).1
      have p1 := fun d os => (hq2 d os).2.1
      have p2 := fun d os => (hq2 d os).2.2.1
      have p3 := fun d os => (hq2 d os).2.2.2
      clear hq1 hq2 c12 d12 e12 f12
      repeat (go_big_quiet_step (fail))
      refine wpQuiet_nil ?_
      rintro w2 ⟨nq, hw⟩
      have hkn : Kept Nil wr w2 := by rw [hw]; exact kept_grown _ _
      have HK2 := Lib.hid (HKR.out.then hkn)
      clear hw hkn g12 h12 q0 q1 q2 q3 p0 p1 p2 p3 eqs
      go_wp2
      go_roundw
      case rel => exact ⟨q + 1, by omega, by go_num, HK2.out⟩
      case measure => simp [intOf]; omega
    · obtain rfl : q = nt := by omega
      have hq6 : ∀ (m : List UInt8), m.length = 6 → ∀ u, (Op.equalIn 10000 22 (.agg (bys m).toArray) (.agg (bys m).toArray)).run Try.prog u = .ok true u := fun m hm u => by rw [eq_arr6 m m hm hm u, beq_self_eq_true]
      have hq3 : ∀ (m : List UInt8), m.length = 3 → ∀ u, (Op.equalIn 10000 25 (.agg (bys m).toArray) (.agg (bys m).toArray)).run Try.prog u = .ok true u := fun m hm u => by rw [eq_arr3 m m hm hm u, beq_self_eq_true]
      have eqd := hq6 d HSIX.out.d
      have eqs := hq6 s HSIX.out.s
      have eql := hq3 l HSIX.out.l
      have eqo := hq3 o HSIX.out.o
      clear hq6 hq3 c12 d12 e12 f12
      have HF1 := Lib.hid (HF.out.kept HKR.out (fun hf => hf))
      have HG1 := Lib.hid (HG.out.kept HKR.out (fun hf => hf))
      have c13 := HF1.out.ck HSIX.out
      have c14 := HF1.out.cy HSIX.out
      have c21 := HF1.out.cb HSIX.out
      have c22 := HF1.out.cr HSIX.out
      have d13 := HG1.out.ck HSIX.out
      have d14 := HG1.out.cy HSIX.out
      have d21 := HG1.out.cb HSIX.out
      have d22 := HG1.out.cr HSIX.out
      have c12 := HF1.out.ct HSIX.out
      simp only at c13 c14 d13 d14
      have t1 := (HB.out.kept HKR.out (fun _ _ hf => hf)).text (P := Try.prog) Try.underlying26 Try.underlying5 Try.underlying9
      have t2 := (HB'.out.kept HKR.out (fun _ _ hf => hf)).text (P := Try.prog) Try.underlying26 Try.underlying5 Try.underlying9
      have t3 := (HR.out.kept HKR.out (fun _ _ hf => hf)).text (P := Try.prog) Try.underlying26 Try.underlying5 Try.underlying9
      have t4 := (HR'.out.kept HKR.out (fun _ _ hf => hf)).text (P := Try.prog) Try.underlying26 Try.underlying5 Try.underlying9
      have HK2 := Lib.hid (HK.out.then HKR.out)
      go_wp2_with (first
        | (refine wpList_ld rfl _ _ rfl w.heap.size 0 rfl _ HF1.out.rd _ Try.underlying22 rfl (by rw [bys_len, HSIX.out.d]; exact inf6) ?_)
        | (refine wpList_ld rfl _ _ rfl w.heap.size 6 rfl _ (HF1.out.rs HSIX.out) _ Try.underlying22 rfl (by rw [bys_len, HSIX.out.s]; exact inf6) ?_)
        | (refine wpList_ld rfl _ _ rfl w.heap.size 15 rfl _ (HF1.out.rl HSIX.out) _ Try.underlying25 rfl (by rw [bys_len, HSIX.out.l]; exact inf3) ?_)
        | (refine wpList_ld rfl _ _ rfl w.heap.size 18 rfl _ (HF1.out.ro HSIX.out) _ Try.underlying25 rfl (by rw [bys_len, HSIX.out.o]; exact inf3) ?_)
        | (refine wpList_ld rfl _ _ rfl (w.heap.size + 1) 0 rfl _ HG1.out.rd _ Try.underlying22 rfl (by rw [bys_len, HSIX.out.d]; exact inf6) ?_)
        | (refine wpList_ld rfl _ _ rfl (w.heap.size + 1) 6 rfl _ (HG1.out.rs HSIX.out) _ Try.underlying22 rfl (by rw [bys_len, HSIX.out.s]; exact inf6) ?_)
        | (refine wpList_ld rfl _ _ rfl (w.heap.size + 1) 15 rfl _ (HG1.out.rl HSIX.out) _ Try.underlying25 rfl (by rw [bys_len, HSIX.out.l]; exact inf3) ?_)
        | (refine wpList_ld rfl _ _ rfl (w.heap.size + 1) 18 rfl _ (HG1.out.ro HSIX.out) _ Try.underlying25 rfl (by rw [bys_len, HSIX.out.o]; exact inf3) ?_))
      go_ret
      exact ⟨rfl, HK2.out⟩
end Go.Proofs.Ytjdaaelkaeokeaa
