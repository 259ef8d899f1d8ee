/- tolllaw04: few. -/
import Derived.Test.YtddpdopccejmbaaMg20
namespace Go.Proofs.Ytddpdopccejmbaa
open Go.RowKit Go.Sort
set_option linter.unusedVariables false

theorem fa_b (g : Nat) (u : World) : (Instr.fieldAt 28 (pAt g 0) 7).run Try.prog u = .ok (pAt g 21) u := by kernel_rfl
theorem fa_r (g : Nat) (u : World) : (Instr.fieldAt 28 (pAt g 0) 8).run Try.prog u = .ok (pAt g 22) u := by kernel_rfl
theorem len_b (A : Option Addr) (n c : Nat) (ty : TypeId) (u : World) : (Builtin.len_ #[26] ty #[.slice A n c]).run Try.prog u = .ok (.int .i64 (n : Int)) u := by
  simp [Builtin.len_, Builtin.lenOf, run_underlying Try.underlying26, goInt]
theorem min_i (n b m : Nat) (ty : TypeId) (u : World) (h : (if (b : Int) < (n : Int) then (b : Int) else (n : Int)) = (m : Int)) : (Builtin.min_ #[3, 3] ty #[.int .i64 (n : Int), .int .i64 (b : Int)]).run Try.prog u = .ok (.int .i64 (m : Int)) u := by
  rw [← h]
  simp [Builtin.min_, Builtin.min2]
section
variable {u : World} {g : Nat} {f : Fr} {Ab : Option Addr} {nb cb mb : Nat} {Ar : Option Addr} {nr cr mr : Nat} {i : Nat}
theorem R_a21 (hi : i = 0 ∨ i = 2 ∨ i = 16) : fewR g f Ab nb cb mb Ar nr cr mr i (pAt g 21) u := by
  constructor <;> intro h <;> first | rfl | (exfalso; omega)
theorem R_a22 (hi : i = 8 ∨ i = 10 ∨ i = 18) : fewR g f Ab nb cb mb Ar nr cr mr i (pAt g 22) u := by
  constructor <;> intro h <;> first | rfl | (exfalso; omega)
theorem R_lb (hi : i = 1 ∨ i = 3) : fewR g f Ab nb cb mb Ar nr cr mr i (.slice Ab nb cb) u := by
  constructor <;> intro h <;> first | rfl | (exfalso; omega)
theorem R_lr (hi : i = 9 ∨ i = 11) : fewR g f Ab nb cb mb Ar nr cr mr i (.slice Ar nr cr) u := by
  constructor <;> intro h <;> first | rfl | (exfalso; omega)
theorem R_n4 (hi : i = 4) : fewR g f Ab nb cb mb Ar nr cr mr i (.int .i64 (nb : Int)) u := by
  constructor <;> intro h <;> first | rfl | (exfalso; omega)
theorem R_n12 (hi : i = 12) : fewR g f Ab nb cb mb Ar nr cr mr i (.int .i64 (nr : Int)) u := by
  constructor <;> intro h <;> first | rfl | (exfalso; omega)
theorem R_n5 (hi : i = 5) : fewR g f Ab nb cb mb Ar nr cr mr i (.int .i64 (mb : Int)) u := by
  constructor <;> intro h <;> first | rfl | (exfalso; omega)
theorem R_n13 (hi : i = 13) : fewR g f Ab nb cb mb Ar nr cr mr i (.int .i64 (mr : Int)) u := by
  constructor <;> intro h <;> first | rfl | (exfalso; omega)
theorem R_s6 (hi : i = 6) : fewR g f Ab nb cb mb Ar nr cr mr i (.slice Ab mb cb) u := by
  constructor <;> intro h <;> first | rfl | (exfalso; omega)
theorem R_s14 (hi : i = 14) : fewR g f Ab nb cb mb Ar nr cr mr i (.slice Ar mr cr) u := by
  constructor <;> intro h <;> first | rfl | (exfalso; omega)
theorem R_o7 (hi : i = 7) {v : Value} (ho : u.ownsRow (g + 2) 5 1 v mb (bys (f.b.take mb))) : fewR g f Ab nb cb mb Ar nr cr mr i v u := by
  constructor <;> intro h <;> first | (exfalso; omega) | exact ho
theorem R_o15 (hi : i = 15) {v : Value} (ho : u.ownsRow (g + 2) 5 1 v mr (bys (f.r.take mr))) : fewR g f Ab nb cb mb Ar nr cr mr i v u := by
  constructor <;> intro h <;> first | (exfalso; omega) | exact ho
theorem R_t17 (hi : i = 17) (ho : ∃ x, u.cell? ⟨g, 21, none⟩ = some x ∧ u.ownsRow (g + 2) 5 1 x mb (bys (f.b.take mb))) : fewR g f Ab nb cb mb Ar nr cr mr i undef u := by
  constructor <;> intro h <;> first | (exfalso; omega) | exact ho
theorem R_t19 (hi : i = 19) (ho : ∃ x, u.cell? ⟨g, 22, none⟩ = some x ∧ u.ownsRow (g + 2) 5 1 x mr (bys (f.r.take mr))) : fewR g f Ab nb cb mb Ar nr cr mr i undef u := by
  constructor <;> intro h <;> first | (exfalso; omega) | exact ho
end
set_option maxRecDepth 100000 in
set_option maxHeartbeats 4000000 in
theorem few_yes (f : Fr) (vt vb vr : Value) (w : World) (hok : f.ok) (ht : ∃ A n c, vt = .slice A n c ∧ Tags w A n c f.t) (hb : ∃ A n c, vb = .slice A n c ∧ Byt w A n c f.b) (hr : ∃ A n c, vr = .slice A n c ∧ Byt w A n c f.r) :
    Calls Try.prog 9 #[frv f vt vb vr] w fun e w' => ∃ ut ub ur, e = .returned (frv (fewM f) ut ub ur) ∧ NewF w w' (fewM f) ut ub ur ∧ Kept Nil w w' := by
  obtain ⟨At, nt, ct, rfl, htt⟩ := ht
  obtain ⟨Ab, nb, cb, rfl, hbb⟩ := hb
  obtain ⟨Ar, nr, cr, rfl, hrr⟩ := hr
  have hF := (FB.new w 28 f (.slice At nt ct) (.slice Ab nb cb) (.slice Ar nr cr)).alloc (.cells (fcs Fr.zero nilv nilv nilv).toArray 28)
  have hR : FB ((w.alloc (.cells (fcs f (.slice At nt ct) (.slice Ab nb cb) (.slice Ar nr cr)).toArray 28)).alloc (.cells (fcs Fr.zero nilv nilv nilv).toArray 28)) (w.heap.size + 1) 28 Fr.zero nilv nilv nilv := by
    have := FB.new (w.alloc (.cells (fcs f (.slice At nt ct) (.slice Ab nb cb) (.slice Ar nr cr)).toArray 28)) 28 Fr.zero nilv nilv nilv
    rwa [World.size_alloc] at this
  have hk : Kept Nil w ((w.alloc (.cells (fcs f (.slice At nt ct) (.slice Ab nb cb) (.slice Ar nr cr)).toArray 28)).alloc (.cells (fcs Fr.zero nilv nilv nilv).toArray 28)) := ((Kept.refl Nil w).alloc _).alloc _
  have hz : ((w.alloc (.cells (fcs f (.slice At nt ct) (.slice Ab nb cb) (.slice Ar nr cr)).toArray 28)).alloc (.cells (fcs Fr.zero nilv nilv nilv).toArray 28)).heap.size = w.heap.size + 2 := by simp
  have HF := Lib.hid hF
  have HR := Lib.hid hR
  have HK := Lib.hid hk
  have HSIX := Lib.hid hok.six
  have HZ := Lib.hid hz
  have HT := Lib.hid (htt.kept hk (fun _ _ hf => hf))
  have HB := Lib.hid (hbb.kept hk (fun _ _ hf => hf))
  have HRR := Lib.hid (hrr.kept hk (fun _ _ hf => hf))
  have HTLT := Lib.hid htt.lt
  have HTLEN := Lib.hid htt.len
  have HOK := Lib.hid hok
  have HBLT := Lib.hid hbb.lt
  have HRLT := Lib.hid hrr.lt
  obtain ⟨mt, hmt, hmt1, hmt2⟩ : ∃ m : Nat, (if (4 : Int) < (nt : Int) then (4 : Int) else (nt : Int)) = (m : Int) ∧ m ≤ nt ∧ m = min nt 4 := ⟨min nt 4, by split <;> omega, by omega, rfl⟩
  obtain ⟨mb, hmb, hmb1, hmb2⟩ : ∃ m : Nat, (if (1600 : Int) < (nb : Int) then (1600 : Int) else (nb : Int)) = (m : Int) ∧ m ≤ nb ∧ m = min nb 1600 := ⟨min nb 1600, by split <;> omega, by omega, rfl⟩
  obtain ⟨mr, hmr, hmr1, hmr2⟩ : ∃ m : Nat, (if (1600 : Int) < (nr : Int) then (1600 : Int) else (nr : Int)) = (m : Int) ∧ m ≤ nr ∧ m = min nr 1600 := ⟨min nr 1600, by split <;> omega, by omega, rfl⟩
  have hslb := run_cut_hi (P := Try.prog) Try.underlying26 inf5.1 Ab nb cb mb (mb : Int) rfl (by have := hbb.2.1; omega)
  have hslr := run_cut_hi (P := Try.prog) Try.underlying26 inf5.1 Ar nr cr mr (mr : Int) rfl (by have := hrr.2.1; omega)
  have hslt := run_cut_hi (P := Try.prog) Try.underlying24 inft4.1 At nt ct mt (mt : Int) rfl (by have := htt.1.2.1; omega)
  have HMT := Lib.hid (And.intro hmt1 hmt2)
  have HMB := Lib.hid (And.intro hmb1 hmb2)
  have HMR := Lib.hid (And.intro hmr1 hmr2)
  clear hF hR hk hz htt hbb hrr hok hmt1 hmb1 hmr1 hmt2 hmb2 hmr2
  go_enter Try.func9, Try.ntmps9
  go_upto_region 1 with (fail)
  refine wp_nameE (fun W => FB W w.heap.size 28 f (.slice At nt ct) (.slice Ab nb cb) (.slice Ar nr cr) ∧ FB W (w.heap.size + 1) 28 Fr.zero nilv nilv nilv ∧ Kept Nil w W ∧ Tags W At nt ct f.t ∧ Byt W Ab nb cb f.b ∧ Byt W Ar nr cr f.r ∧ W.heap.size = w.heap.size + 2) ⟨HF.out, HR.out, HK.out, HT.out, HB.out, HRR.out, HZ.out⟩ ?_
  clear HF HR HK HT HB HRR HZ
  rintro W ⟨hF, hR, hk, ht, hb, hr, hz⟩
  have c12 := hF.ct HSIX.out
  have HF := Lib.hid hF
  have HR := Lib.hid hR
  have HK := Lib.hid hk
  have HB := Lib.hid hb
  have HRR := Lib.hid hr
  have HZ := Lib.hid hz
  have HTT := Lib.hid (show Tags W At mt ct (f.t.take mt) from ⟨by have := ht.1.pre HMT.out.1; rwa [← List.map_take] at this, fun x hx => ht.2 x (List.mem_of_mem_take hx)⟩)
  have HMT4 := Lib.hid (show mt ≤ 4 by have := HMT.out.2; omega)
  clear hF hR hk ht hb hr hz
  obtain ⟨i0, hi, hz0, hz1, hz2⟩ := info_parts Try.inft
  go_upto_region 2 with (first
    | (at_builtin; refine wpList_appR rfl _ _ 24 rfl 4 W.heap.size 70 6 i0 (tgv ⟨0, 0, false, 0⟩) Try.underlying24 hi hz0 hz1 hz2 rfl (by decide) (.slice none 0 0) 0 [] rfl (World.ownsRow_nil _ _ _ _) At mt ct ((f.t.take mt).map tgc) rfl HTT.out.1 (tgc_one _) (by have := HMT4.out; unfold maxLen; omega) (by have := HMT4.out; omega) (Nat.le_refl _) ?_; intro v1 w1 hown1 hgrow1 _; rw [Nat.zero_add, List.nil_append] at hown1; have HO1 := Lib.hid hown1; have hk1 : Kept Nil W w1 := (Kept.refl Nil W).grown hgrow1 (fun k hk => by cases hk); have HK1 := Lib.hid hk1; have HF1 := Lib.hid (HF.out.kept hk1 (fun hf => hf)); clear hown1 hgrow1 hk1; obtain ⟨A1, cc1, rfl⟩ := own_form HO1.out)
    | (refine wpList_st rfl _ _ _ rfl w.heap.size 12 rfl [.slice A1 mt cc1] _ rfl rfl infSt 28 _ HF1.out (by rw [fcs_len HSIX.out]; simp) (by intro u hu; simp at hu; subst hu; rfl) ?_; intro w2 hb2 hk2 hz2))
  have hf12 := FB.set_m (.slice A1 mt cc1) f.k f.y HSIX.out (.inl ⟨rfl, rfl, rfl, rfl⟩) hb2
  have hkw : Kept Nil w w2 := (HK.out.then HK1.out).fresh hk2 (fun i hi => by cases hi; exact Nat.le_refl _)
  have hown2 := own_kept HO1.out hk2 (fun i hi hf => by have := (HO1.out.lt i hi).1; have := HZ.out; cases hf; omega)
  rw [HZ.out] at hown2
  have hr2 : FB w2 (w.heap.size + 1) 28 Fr.zero nilv nilv nilv := (HR.out.kept HK1.out (fun hf => hf)).kept hk2 (fun hf => by unfold One at hf; omega)
  have hb3 : Byt w2 Ab nb cb f.b := (HB.out.kept HK1.out (fun _ _ hf => hf)).kept hk2 (fun i hi hf => by have := HBLT.out i hi; cases hf; omega)
  have hr3 : Byt w2 Ar nr cr f.r := (HRR.out.kept HK1.out (fun _ _ hf => hf)).kept hk2 (fun i hi hf => by have := HRLT.out i hi; cases hf; omega)
  have hbig : w.heap.size + 2 ≤ w2.heap.size := by have := HK1.out.size; have := HZ.out; omega
  have HI0 : Hid (∀ u, Kept Nil w2 u → ∀ a : Act, a.tmps.size = 31 → a.defers = [] → a.eval (.tmp 1) = pAt w.heap.size 0 → a.eval (.tmp 2) = pAt (w.heap.size + 1) 0 → fewI w w.heap.size f (.slice A1 mt cc1) ((f.t.take mt).map tgc).flatten mt Ab nb cb Ar nr cr a u) := by
    refine Lib.hid fun u hu a h1 h2 h3 h4 => ⟨h1, h2, h3, h4, ⟨_, _, hf12.kept hu (fun hf => hf)⟩, hr2.kept hu (fun hf => hf), hkw.then hu, hb3.kept hu (fun _ _ hf => hf), hr3.kept hu (fun _ _ hf => hf), own_kept hown2 hu (fun _ _ hf => hf), Nat.le_trans hbig hu.size, Nat.le_refl _, fun i hi e => by have := HBLT.out i hi; omega, fun i hi e => by have := HRLT.out i hi; omega⟩
  have HU0 : Hid (∀ u, Kept Nil w2 u → ∀ j, fewU w.heap.size Ab nb cb Ar nr cr j u) := by
    refine Lib.hid fun u hu j => fewU_kept (u := w2) ?_ fun o _ => cell_kept hu (fun hf => hf) hf12.lt
    unfold fewU
    split
    · exact hf12.cb HSIX.out
    · split
      · exact hf12.cr HSIX.out
      · trivial
  have HSLB := Lib.hid hslb
  have HSLR := Lib.hid hslr
  have HMB1 := Lib.hid hmb
  have HMR1 := Lib.hid hmr
  clear hf12 hkw hown2 hr2 hb3 hr3 hbig hb2 hk2 hz2 HO1 HF HR HK HB HRR HZ HTT HK1 HF1 c12 hslb hslr hslt hmb hmr hmt
  obtain ⟨j0, hj, hy0, hy1, hy2⟩ := info_parts Try.infb
  refine wp_region_posts 31 (fewI w w.heap.size f (.slice A1 mt cc1) ((f.t.take mt).map tgc).flatten mt Ab nb cb Ar nr cr) (fewR w.heap.size f Ab nb cb mb Ar nr cr mr) (fewU w.heap.size Ab nb cb Ar nr cr) (by kernel_rfl) (by kernel_rfl) (fun a u h => h.size) (fun u hu => ⟨HI0.out u hu _ rfl rfl rfl rfl, HU0.out u hu⟩) ?_ ?_
  · refine ⟨?_, ?_, ?_, ?_, ?_, ?_, ?_, ?_, ?_, ?_, ?_, ?_, ?_, ?_, ?_, ?_, ?_, ?_, ?_, ?_, trivial⟩
    all_goals clear HI0 HU0
    case refine_1 =>
      intro a u hI hp hU
      exact step_pure (pAt w.heap.size 21) (exec_fa _ _ _ rfl hI.p1 (fa_b _ _)) rfl (hI.put _ _ (by decide)) (R_a21 (by decide))
    case refine_2 =>
      intro a u hI hp hU
      exact step_pure _ (exec_ld1 _ _ _ rfl ((got hp ⟨0, .data⟩ (by simp) rfl 12 rfl).a21 (by decide)) (hU.2 17 _ rfl ⟨⟨1, .phase⟩, by simp, rfl, rfl⟩) Try.underlying26) rfl (hI.put _ _ (by decide)) (R_lb (by decide))
    case refine_3 =>
      intro a u hI hp hU
      exact step_pure (pAt w.heap.size 21) (exec_fa _ _ _ rfl hI.p1 (fa_b _ _)) rfl (hI.put _ _ (by decide)) (R_a21 (by decide))
    case refine_4 =>
      intro a u hI hp hU
      exact step_pure _ (exec_ld1 _ _ _ rfl ((got hp ⟨2, .data⟩ (by simp) rfl 14 rfl).a21 (by decide)) (hU.2 17 _ rfl ⟨⟨3, .phase⟩, by simp, rfl, rfl⟩) Try.underlying26) rfl (hI.put _ _ (by decide)) (R_lb (by decide))
    case refine_5 =>
      intro a u hI hp hU
      exact step_pure _ (exec_len _ _ rfl ((got hp ⟨3, .data⟩ (by simp) rfl 15 rfl).lb (by decide)) (len_b _ _ _ _ _)) rfl (hI.put _ _ (by decide)) (R_n4 rfl)
    case refine_6 =>
      intro a u hI hp hU
      exact step_pure _ (exec_min _ _ _ _ rfl ((got hp ⟨4, .data⟩ (by simp) rfl 16 rfl).n4 rfl) rfl (min_i _ _ _ _ _ HMB1.out)) rfl (hI.put _ _ (by decide)) (R_n5 rfl)
    case refine_7 =>
      intro a u hI hp hU
      exact step_pure _ (exec_cut _ _ _ rfl Try.underlying26 ((got hp ⟨1, .data⟩ (by simp) rfl 13 rfl).lb (by decide)) ((got hp ⟨5, .data⟩ (by simp) rfl 17 rfl).n5 rfl) (HSLB.out u)) rfl (hI.put _ _ (by decide)) (R_s6 rfl)
    case refine_8 =>
      intro a u hI hp hU
      obtain ⟨v', u', hr, hown, hgr, _⟩ := run_app (P := Try.prog) (ty := 26) Try.underlying26 hj hy0 hy1 hy2 rfl (World.ownsRow_nil u (w.heap.size + 2) 5 1) (hI.bb.pre HMB.out.1) (by have := HMB.out.2; omega) hI.big
      have hk : Kept Nil u u' := (Kept.refl Nil u).grown hgr (fun k hk => by cases hk)
      unfold Oper.wp
      rw [exec_app _ _ _ rfl rfl ((got hp ⟨6, .data⟩ (by simp) rfl 18 rfl).s6 rfl) hr]
      rw [Nat.zero_add, List.nil_append] at hown
      exact ⟨v', rfl, (hI.put _ _ (by decide)).next hk, R_o7 rfl hown, fun j x _ h => fewR_kept h hk (by have := hI.big; omega), fun j _ h => fewU_kept h fun o _ => cell_kept hk (fun hf => hf) (by have := hI.big; omega)⟩
    case refine_9 =>
      intro a u hI hp hU
      exact step_pure (pAt w.heap.size 22) (exec_fa _ _ _ rfl hI.p1 (fa_r _ _)) rfl (hI.put _ _ (by decide)) (R_a22 (by decide))
    case refine_10 =>
      intro a u hI hp hU
      exact step_pure _ (exec_ld1 _ _ _ rfl ((got hp ⟨8, .data⟩ (by simp) rfl 20 rfl).a22 (by decide)) (hU.2 19 _ rfl ⟨⟨9, .phase⟩, by simp, rfl, rfl⟩) Try.underlying26) rfl (hI.put _ _ (by decide)) (R_lr (by decide))
    case refine_11 =>
      intro a u hI hp hU
      exact step_pure (pAt w.heap.size 22) (exec_fa _ _ _ rfl hI.p1 (fa_r _ _)) rfl (hI.put _ _ (by decide)) (R_a22 (by decide))
    case refine_12 =>
      intro a u hI hp hU
      exact step_pure _ (exec_ld1 _ _ _ rfl ((got hp ⟨10, .data⟩ (by simp) rfl 22 rfl).a22 (by decide)) (hU.2 19 _ rfl ⟨⟨11, .phase⟩, by simp, rfl, rfl⟩) Try.underlying26) rfl (hI.put _ _ (by decide)) (R_lr (by decide))
    case refine_13 =>
      intro a u hI hp hU
      exact step_pure _ (exec_len _ _ rfl ((got hp ⟨11, .data⟩ (by simp) rfl 23 rfl).lr (by decide)) (len_b _ _ _ _ _)) rfl (hI.put _ _ (by decide)) (R_n12 rfl)
    case refine_14 =>
      intro a u hI hp hU
      exact step_pure _ (exec_min _ _ _ _ rfl ((got hp ⟨12, .data⟩ (by simp) rfl 24 rfl).n12 rfl) rfl (min_i _ _ _ _ _ HMR1.out)) rfl (hI.put _ _ (by decide)) (R_n13 rfl)
    case refine_15 =>
      intro a u hI hp hU
      exact step_pure _ (exec_cut _ _ _ rfl Try.underlying26 ((got hp ⟨9, .data⟩ (by simp) rfl 21 rfl).lr (by decide)) ((got hp ⟨13, .data⟩ (by simp) rfl 25 rfl).n13 rfl) (HSLR.out u)) rfl (hI.put _ _ (by decide)) (R_s14 rfl)
    case refine_16 =>
      intro a u hI hp hU
      obtain ⟨v', u', hr, hown, hgr, _⟩ := run_app (P := Try.prog) (ty := 26) Try.underlying26 hj hy0 hy1 hy2 rfl (World.ownsRow_nil u (w.heap.size + 2) 5 1) (hI.br.pre HMR.out.1) (by have := HMR.out.2; omega) hI.big
      have hk : Kept Nil u u' := (Kept.refl Nil u).grown hgr (fun k hk => by cases hk)
      unfold Oper.wp
      rw [exec_app _ _ _ rfl rfl ((got hp ⟨14, .data⟩ (by simp) rfl 26 rfl).s14 rfl) hr]
      rw [Nat.zero_add, List.nil_append] at hown
      exact ⟨v', rfl, (hI.put _ _ (by decide)).next hk, R_o15 rfl hown, fun j x _ h => fewR_kept h hk (by have := hI.big; omega), fun j _ h => fewU_kept h fun o _ => cell_kept hk (fun hf => hf) (by have := hI.big; omega)⟩
    case refine_17 =>
      intro a u hI hp hU
      exact step_pure (pAt w.heap.size 21) (exec_fa _ _ _ rfl hI.p1 (fa_b _ _)) rfl (hI.put _ _ (by decide)) (R_a21 (by decide))
    case refine_18 =>
      intro a u hI hp hU
      obtain ⟨x, y, hfb⟩ := hI.fb
      have ho := (got hp ⟨7, .data⟩ (by simp) rfl 19 rfl).o7 rfl
      obtain ⟨A, c, hv⟩ := own_form ho
      refine step_st _ _ _ rfl rfl ((got hp ⟨16, .data⟩ (by simp) rfl 28 rfl).a21 (by decide)) [a.eval (.tmp 19)] rfl (by rw [hv]; rfl) infSb hfb (by rw [fcs_len HSIX.out, List.length_singleton]; decide) (by intro z hz; rw [List.mem_singleton] at hz; rw [hz, hv]; rfl) fun u' hbl hk hz => ?_
      have hfb' := FB.set_e (a.eval (.tmp 19)) y HSIX.out (.inl ⟨rfl, rfl, rfl⟩) hbl
      exact ⟨hI.stored hk ⟨_, _, hfb'⟩ hz, R_t17 rfl ⟨_, hfb'.cb HSIX.out, own_kept ho hk (fun i hi hf => by have := (ho.lt i hi).1; cases hf; omega)⟩, fun j z hj h => fewR_st h hk (fun e => absurd e hj) (fun e => (hfb'.cr HSIX.out).trans (hfb.cr HSIX.out).symm), fun j hj h => fewU_kept h fun o he => by rcases he with ⟨rfl, e⟩ | ⟨rfl, e⟩; exact absurd e hj; exact (hfb'.cr HSIX.out).trans (hfb.cr HSIX.out).symm⟩
    case refine_19 =>
      intro a u hI hp hU
      exact step_pure (pAt w.heap.size 22) (exec_fa _ _ _ rfl hI.p1 (fa_r _ _)) rfl (hI.put _ _ (by decide)) (R_a22 (by decide))
    case refine_20 =>
      intro a u hI hp hU
      obtain ⟨x, y, hfb⟩ := hI.fb
      have ho := (got hp ⟨15, .data⟩ (by simp) rfl 27 rfl).o15 rfl
      obtain ⟨A, c, hv⟩ := own_form ho
      refine step_st _ _ _ rfl rfl ((got hp ⟨18, .data⟩ (by simp) rfl 29 rfl).a22 (by decide)) [a.eval (.tmp 27)] rfl (by rw [hv]; rfl) infSb hfb (by rw [fcs_len HSIX.out, List.length_singleton]; decide) (by intro z hz; rw [List.mem_singleton] at hz; rw [hz, hv]; rfl) fun u' hbl hk hz => ?_
      have hfb' := FB.set_e x (a.eval (.tmp 27)) HSIX.out (.inr ⟨rfl, rfl, rfl⟩) hbl
      exact ⟨hI.stored hk ⟨_, _, hfb'⟩ hz, R_t19 rfl ⟨_, hfb'.cr HSIX.out, own_kept ho hk (fun i hi hf => by have := (ho.lt i hi).1; cases hf; omega)⟩, fun j z hj h => fewR_st h hk (fun e => (hfb'.cb HSIX.out).trans (hfb.cb HSIX.out).symm) (fun e => absurd e hj), fun j hj h => fewU_kept h fun o he => by rcases he with ⟨rfl, e⟩ | ⟨rfl, e⟩; exact (hfb'.cb HSIX.out).trans (hfb.cb HSIX.out).symm; exact absurd e hj⟩
  · intro a u hI hR
    clear HI0 HU0 HSLB HSLR HMB1 HMR1
    obtain ⟨x, y, hfb⟩ := hI.fb
    obtain ⟨x', hx', hox⟩ := (hR 17 _ rfl).t17 rfl
    obtain ⟨y', hy', hoy⟩ := (hR 19 _ rfl).t19 rfl
    rw [hfb.cb HSIX.out] at hx'
    rw [hfb.cr HSIX.out] at hy'
    cases hx'
    cases hy'
    clear hR
    obtain ⟨A2, c2, rfl, hb2, hi2⟩ := Byt.of_own (l := f.b.take mb) hox
    obtain ⟨A3, c3, rfl, hb3, hi3⟩ := Byt.of_own (l := f.r.take mr) hoy
    have hot := hI.own
    rw [show mt = (f.t.take mt).length by rw [List.length_take, HTLEN.out]; have := HMT.out.1; omega] at hot
    obtain ⟨A4, c4, e4, ht4, hi4⟩ := Tags.of_own hot (fun t ht => HOK.out.t t (List.mem_of_mem_take ht))
    rw [← show mt = (f.t.take mt).length by rw [List.length_take, HTLEN.out]; have := HMT.out.1; omega] at e4 ht4 hi4
    cases e4
    have HN2 : Hid (NewB w u (.slice A2 mb c2) (f.b.take 1600)) := Lib.hid ⟨A2, mb, c2, rfl, by rw [show f.b.take 1600 = f.b.take mb by rw [HMB.out.2, ← hI.bb.1, List.take_eq_take_iff]; omega]; exact hb2, fun i hi => by have := hi2 i hi; omega⟩
    have HN3 : Hid (NewB w u (.slice A3 mr c3) (f.r.take 1600)) := Lib.hid ⟨A3, mr, c3, rfl, by rw [show f.r.take 1600 = f.r.take mr by rw [HMR.out.2, ← hI.br.1, List.take_eq_take_iff]; omega]; exact hb3, fun i hi => by have := hi3 i hi; omega⟩
    have HN1 : Hid (NewT w u (.slice A1 mt cc1) (f.t.take 4)) := Lib.hid ⟨A1, mt, cc1, rfl, by rw [show f.t.take 4 = f.t.take mt by rw [HMT.out.2, ← HTLEN.out, List.take_eq_take_iff]; omega]; exact ht4, fun i hi => by have := hi4 i hi; omega⟩
    have HFB := Lib.hid hfb
    have HRB := Lib.hid hI.rb
    have HKU := Lib.hid hI.kept
    have FAR2 := Lib.hid hi2
    have FAR3 := Lib.hid hi3
    have FAR4 := Lib.hid hi4
    have p1 := hI.p1
    have p2 := hI.p2
    have hdf := hI.defs
    have hs := hI.size
    clear hI hfb hox hoy hb2 hb3 hot ht4 hi2 hi3 hi4
    obtain ⟨T, df⟩ := a
    simp only at hs hdf
    subst hdf
    obtain ⟨x0, x1, x2, x3, x4, x5, x6, x7, x8, x9, x10, x11, x12, x13, x14, x15, x16, x17, x18, x19, x20, x21, x22, x23, x24, x25, x26, x27, x28, x29, x30, rfl⟩ := arr31 T hs
    obtain rfl : x1 = pAt w.heap.size 0 := p1
    obtain rfl : x2 = pAt (w.heap.size + 1) 0 := p2
    clear hs
    unfold pAt
    go_wp2_with (first
      | (refine wpList_ld rfl _ (.tmp 1) rfl _ 0 rfl _ HFB.out.all _ Try.underlying28 rfl (by rw [fcs_len HSIX.out]; exact infF) ?_)
      | (refine wpList_st rfl _ (.tmp 2) _ rfl _ 0 rfl (fcs f (.slice A1 mt cc1) (.slice A2 mb c2) (.slice A3 mr c3)) _ rfl rfl (by rw [fcs_len HSIX.out]; exact infF) 28 _ HRB.out (by rw [fcs_len Fr.zero_six, fcs_len HSIX.out]; omega) (fcs_one rfl rfl rfl) ?_; intro w3 hb3 hk3 hz3))
    have HR3 := Lib.hid (FB.of_all (f' := f) Fr.zero_six HSIX.out hb3)
    refine bodyPost_ret (res_cell0 Try.results9 rfl HR3.out.all Try.underlying28 rfl (by rw [fcs_len HSIX.out]; exact infF)) rfl ?_
    refine ⟨.slice A1 mt cc1, .slice A2 mb c2, .slice A3 mr c3, rfl, ⟨?_, ?_, ?_⟩, HKU.out.fresh hk3 (fun i hi => by cases hi; exact Nat.le_succ _)⟩
    · obtain ⟨A, n, c, e, hb, hi⟩ := HN1.out
      cases e
      exact ⟨_, _, _, rfl, hb.kept hk3 (fun i hx hf => by have := FAR4.out i hx; cases hf; omega), hi⟩
    · obtain ⟨A, n, c, e, hb, hi⟩ := HN2.out
      cases e
      exact ⟨_, _, _, rfl, hb.kept hk3 (fun i hx hf => by have := FAR2.out i hx; cases hf; omega), hi⟩
    · obtain ⟨A, n, c, e, hb, hi⟩ := HN3.out
      cases e
      exact ⟨_, _, _, rfl, hb.kept hk3 (fun i hx hf => by have := FAR3.out i hx; cases hf; omega), hi⟩
end Go.Proofs.Ytddpdopccejmbaa
