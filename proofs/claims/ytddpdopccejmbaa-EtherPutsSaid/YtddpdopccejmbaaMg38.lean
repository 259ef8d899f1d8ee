/- Texts that belong together, one behind the other: RfD, EthPt. Conditions: those of each. -/
import Derived.Test.YtddpdopccejmbaaRfD0
import Derived.Test.YtddpdopccejmbaaRfD1
import Derived.Test.YtddpdopccejmbaaRfD2
import Derived.Test.YtddpdopccejmbaaRfD3
import Derived.Test.YtddpdopccejmbaaEthBk
import Derived.Test.YtddpdopccejmbaaMg28
/- tollref04.Put: contract. -/
namespace Go.Proofs.Ytddpdopccejmbaa
open Go.RowKit Go.Sort
set_option linter.unusedVariables false

theorem rput_yes (f : Fr) (vt vb vr : Value) (w : World) (h : FrIn w f vt vb vr) :
    Calls Try.prog 12 #[frv f vt vb vr] w fun e w' => ∃ v, e = .returned (.tuple #[v, .int .i64 (putM f).2]) ∧ Made w w' v (putM f).1 := by
  by_cases hno : mayL f.t = false ∨ (f.k < 1 ∨ 3 < f.k ∨ f.y < 0 ∨ 65535 < f.y)
  · exact rput_0 f vt vb vr w h hno
  · have hmay : mayL f.t = true := by
      cases hm : mayL f.t with
      | true => rfl
      | false => exact absurd (.inl hm) hno
    have hr : ¬ (f.k < 1 ∨ 3 < f.k ∨ f.y < 0 ∨ 65535 < f.y) := fun h => hno (.inr h)
    rcases (show f.k = 1 ∨ f.k = 2 ∨ f.k = 3 by omega) with k1 | k1 | k1
    · exact rput_1 f vt vb vr w h hmay k1 (by omega) (by omega)
    · exact rput_2 f vt vb vr w h hmay k1 (by omega) (by omega)
    · exact rput_3 f vt vb vr w h hmay k1 (by omega) (by omega)
end Go.Proofs.Ytddpdopccejmbaa
/- tolllaw04.EtherPuts: the walk. -/
namespace Go.Proofs.Ytddpdopccejmbaa
open Go.RowKit Go.Sort
set_option linter.unusedVariables false

theorem FrRd.inn {w : World} {f : Fr} {vt vb vr : Value} (h : FrRd w f vt vb vr) (hok : f.ok) (h1 : f.b.length ≤ 1000000) (h2 : f.r.length ≤ 1000000) : FrIn w f vt vb vr := ⟨hok, h.t, h.b, h.r, h.tn, h1, h2⟩
theorem FrRd.ones {w : World} {f : Fr} {vt vb vr : Value} (h : FrRd w f vt vb vr) : ∀ u ∈ fcs f vt vb vr, u.oneCell' = true := by
  obtain ⟨A, n, c, rfl, _⟩ := h.t
  obtain ⟨A1, n1, c1, rfl, _⟩ := h.b
  obtain ⟨A2, n2, c2, rfl, _⟩ := h.r
  exact fcs_one rfl rfl rfl
set_option maxRecDepth 100000 in
set_option maxHeartbeats 8000000 in
theorem eputs_yes (x : FrA) (w : World) (hx : x.In w) :
    Calls Try.prog 3 #[frv x.f x.vt x.vb x.vr] w fun e w' => e = .returned (.bool true) ∧ Below w.heap.size w w' := by
  obtain ⟨f, vt, vb, vr⟩ := x
  obtain ⟨hok, ht, hbb, hrr⟩ := hx
  simp only at hok ht hbb hrr ⊢
  obtain ⟨At, nt, ct, rfl, ht⟩ := ht
  obtain ⟨Ab, nb, cb, rfl, hbb⟩ := hbb
  obtain ⟨Ar, nr, cr, rfl, hrr⟩ := hrr
  have hF := FB.new w 28 f (.slice At nt ct) (.slice Ab nb cb) (.slice Ar nr cr)
  have hk0 := (Kept.refl Nil w).alloc (.cells (fcs f (.slice At nt ct) (.slice Ab nb cb) (.slice Ar nr cr)).toArray 28)
  have HF := Lib.hid hF
  have HK0 := Lib.hid hk0
  have HSIX := Lib.hid hok.six
  have HSZ := Lib.hid (show w.heap.size < (w.alloc (.cells (fcs f (.slice At nt ct) (.slice Ab nb cb) (.slice Ar nr cr)).toArray 28)).heap.size by simp)
  have HFEW := Lib.hid (few_yes f (.slice At nt ct) (.slice Ab nb cb) (.slice Ar nr cr) (w.alloc (.cells (fcs f (.slice At nt ct) (.slice Ab nb cb) (.slice Ar nr cr)).toArray 28)) hok ⟨_, _, _, rfl, ht.kept hk0 (fun _ _ hf => hf)⟩ ⟨_, _, _, rfl, hbb.kept hk0 (fun _ _ hf => hf)⟩ ⟨_, _, _, rfl, hrr.kept hk0 (fun _ _ hf => hf)⟩)
  have HGOK := Lib.hid (fewM_ok hok)
  clear hF hk0 hok ht hbb hrr
  go_enter Try.func3, Try.ntmps3
  go_upto_region 1 with (fail)
  refine wp_nameE (fun W => W = w.alloc (.cells (fcs f (.slice At nt ct) (.slice Ab nb cb) (.slice Ar nr cr)).toArray 28)) rfl ?_
  rintro W rfl
  go_wp2_with (refine wpList_ld rfl _ (.tmp 1) rfl _ 0 rfl _ HF.out.all _ Try.underlying28 rfl (by rw [fcs_len HSIX.out]; exact infF) ?_)
  refine HFEW.out.mono ?_
  rintro e w1 ⟨ut, ub, ur, rfl, hnf, hk⟩
  have hsm := fewM_small f
  generalize hG : fewM f = G at *
  clear hG
  have HGSIX := Lib.hid HGOK.out.six
  have HNF := Lib.hid hnf
  have HIN := Lib.hid (hnf.frIn HGOK.out (by omega) (by omega) (by omega))
  have HF1 := Lib.hid (HF.out.kept hk (fun hf => hf))
  have HK1 := Lib.hid (HK0.out.then hk)
  have HSM := Lib.hid hsm
  clear hsm hnf hk HF HFEW HK0
  go_upto_region 2 with (first
    | (refine wpList_st rfl _ (.tmp 1) _ rfl _ 0 rfl (fcs G ut ub ur) _ rfl rfl (by rw [fcs_len HGSIX.out]; exact infF) 28 _ HF1.out (by rw [fcs_len HSIX.out, fcs_len HGSIX.out]; omega) HNF.out.ones ?_; intro w2 hb2 hk2 hz2)
    | fail)
  have HF2 := Lib.hid (FB.of_all (f' := G) HSIX.out HGSIX.out hb2)
  have HIN2 := Lib.hid (FrIn.far (B := 0) HNF.out HIN.out hk2 HSZ.out)
  have HK2 := Lib.hid (HK1.out.fresh hk2 (fun i hi => by cases hi; exact Nat.le_refl _))
  clear hb2 hk2 hz2 HF1 HNF HIN HK1 HSZ
  try simp only [Act.put]
  go_wp2_with (first
    | (refine wpList_ld rfl _ (.tmp 1) rfl w.heap.size 0 rfl _ HF2.out.all _ Try.underlying28 rfl (by rw [fcs_len HGSIX.out]; exact infF) ?_)
    | fail)
  refine (frOf_yes G ut ub ur w2 HIN2.out).mono ?_
  rintro e w3 ⟨t1, rfl, hnt, hk⟩
  have HRD := Lib.hid (of_rd HIN2.out hnt hk)
  have HIN3 := Lib.hid (HIN2.out.kept hk)
  have HF3 := Lib.hid (HF2.out.kept hk (fun hf => hf))
  have HK3 := Lib.hid (HK2.out.then hk)
  have HN3 := Lib.hid (FB.new w3 32 Fr.zero nilv nilv nilv)
  clear hnt hk HF2 HIN2 HK2
  go_upto_region 3 with (first
    | (refine wpList_st rfl _ (.tmp 3) _ rfl _ 0 rfl (fcs G t1 ub ur) _ rfl rfl (by rw [fcs_len HGSIX.out]; exact infR) 32 _ HN3.out (by rw [fcs_len Fr.zero_six, fcs_len HGSIX.out]; omega) HRD.out.ones ?_; intro w4 hb4 hk4 hz4)
    | fail)
  have hk34 := ((Kept.refl Nil w3).alloc (.cells (fcs Fr.zero nilv nilv nilv).toArray 32)).fresh hk4 (fun i hi => by cases hi; exact Nat.le_refl _)
  have HG4 := Lib.hid (FB.of_all (f' := G) Fr.zero_six HGSIX.out hb4)
  have HRI4 := Lib.hid ((HRD.out.kept hk34).inn HGOK.out (by have := HSM.out; omega) (by have := HSM.out; omega))
  have HIN4 := Lib.hid (HIN3.out.kept hk34)
  have HF4 := Lib.hid (HF3.out.kept hk34 (fun hf => hf))
  have HK4 := Lib.hid (HK3.out.then hk34)
  obtain ⟨g3, hg3⟩ : ∃ g, w3.heap.size = g := ⟨_, rfl⟩
  rw [hg3] at HG4 ⊢
  clear hb4 hk4 hz4 hk34 hg3 HRD HIN3 HF3 HK3 HN3
  try simp only [Act.put]
  go_wp2_with (first
    | (refine wpList_ld rfl _ (.tmp 1) rfl w.heap.size 0 rfl _ HF4.out.all _ Try.underlying28 rfl (by rw [fcs_len HGSIX.out]; exact infF) ?_)
    | fail)
  refine (put_yes G ut ub ur w4 HIN4.out).mono ?_
  rintro e w5 ⟨v5, rfl, hm⟩
  have hrp := fun u (hu : FrIn u G t1 ub ur) => rput_yes G t1 ub ur u hu
  generalize putM G = P at *
  obtain ⟨y, E⟩ := P
  simp only at hrp hm ⊢
  obtain ⟨A5, c5, rfl, hy5, _⟩ := byt_own hm
  have HY5 := Lib.hid hy5
  have HRP := Lib.hid hrp
  have HG5 := Lib.hid (HG4.out.kept hm.2 (fun hf => hf))
  have HRI5 := Lib.hid (HRI4.out.kept hm.2)
  have HIN5 := Lib.hid (HIN4.out.kept hm.2)
  have HF5 := Lib.hid (HF4.out.kept hm.2 (fun hf => hf))
  have HK5 := Lib.hid (HK4.out.then hm.2)
  clear hrp hm hy5 HG4 HRI4 HIN4 HF4 HK4
  go_wp2_with (first
    | (refine wpList_ld rfl _ (.tmp 3) rfl g3 0 rfl _ HG5.out.all _ Try.underlying32 rfl (by rw [fcs_len HGSIX.out]; exact infR) ?_)
    | fail)
  refine (HRP.out w5 HRI5.out).mono ?_
  rintro e w6 ⟨v6, rfl, hm⟩
  obtain ⟨A6, c6, rfl, hy6, _⟩ := byt_own hm
  have HY6 := Lib.hid hy6
  have HX6 := Lib.hid (HY5.out.kept hm.2 (fun _ _ hf => hf))
  have HG6 := Lib.hid (HG5.out.kept hm.2 (fun hf => hf))
  have HRI6 := Lib.hid (HRI5.out.kept hm.2)
  have HIN6 := Lib.hid (HIN5.out.kept hm.2)
  have HF6 := Lib.hid (HF5.out.kept hm.2 (fun hf => hf))
  have HK6 := Lib.hid (HK5.out.then hm.2)
  clear hm hy6 HY5 HG5 HRI5 HIN5 HF5 HK5 HRP
  go_wp2_with (first
    | (refine wpList_ld rfl _ (.tmp 1) rfl w.heap.size 0 rfl _ HF6.out.all _ Try.underlying28 rfl (by rw [fcs_len HGSIX.out]; exact infF) ?_)
    | fail)
  refine (proto_yes G ut ub ur w6 HIN6.out).mono ?_
  rintro e w7 ⟨v7, rfl, hm⟩
  have hrp := fun u (hu : FrRd u G t1 ub ur) => rproto_yes G t1 ub ur u hu
  generalize protoM G = PP at *
  obtain ⟨pt, pb, ps⟩ := PP
  simp only at hrp hm ⊢
  obtain ⟨A7, c7, rfl, hy7, _⟩ := byt_own hm
  have HZ7 := Lib.hid hy7
  have HRP := Lib.hid hrp
  have HY7 := Lib.hid (HY6.out.kept hm.2 (fun _ _ hf => hf))
  have HX7 := Lib.hid (HX6.out.kept hm.2 (fun _ _ hf => hf))
  have HG7 := Lib.hid (HG6.out.kept hm.2 (fun hf => hf))
  have HRI7 := Lib.hid ((HRI6.out.kept hm.2).rd)
  have HK7 := Lib.hid (HK6.out.then hm.2)
  clear hrp hm hy7 HY6 HX6 HG6 HRI6 HIN6 HF6 HK6
  go_wp2_with (first
    | (refine wpList_ld rfl _ (.tmp 3) rfl g3 0 rfl _ HG7.out.all _ Try.underlying32 rfl (by rw [fcs_len HGSIX.out]; exact infR) ?_)
    | fail)
  refine (HRP.out w7 HRI7.out).mono ?_
  rintro e w8 ⟨v8, rfl, ⟨A8, n8, c8, rfl, hy8⟩, hk⟩
  have tx := (HX7.out.kept hk (fun _ _ hf => hf)).text (P := Try.prog) Try.underlying26 Try.underlying5 Try.underlying9
  have ty := (HY7.out.kept hk (fun _ _ hf => hf)).text (P := Try.prog) Try.underlying26 Try.underlying5 Try.underlying9
  have tz := (HZ7.out.kept hk (fun _ _ hf => hf)).text (P := Try.prog) Try.underlying26 Try.underlying5 Try.underlying9
  have t8 := hy8.text (P := Try.prog) Try.underlying26 Try.underlying5 Try.underlying9
  have HK8 := Lib.hid (HK7.out.then hk)
  clear hy8 hk HX7 HY7 HZ7 HG7 HRI7 HK7 HRP
  go_wp2_with (fail)
  refine (tells_yes _).mono ?_
  rintro e w9 ⟨rfl, hk⟩
  have HK9 := Lib.hid (HK8.out.then hk)
  clear hk tx ty tz t8
  go_wp2
  go_ret
  exact ⟨rfl, HK9.out.below (Nat.le_refl _) (fun _ hf => hf.elim)⟩
end Go.Proofs.Ytddpdopccejmbaa
