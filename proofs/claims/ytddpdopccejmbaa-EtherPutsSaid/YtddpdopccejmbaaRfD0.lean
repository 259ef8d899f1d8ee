/- tollref04.Put: contract, of a frame whose tags, kind or type may not be. -/
import Derived.Test.YtddpdopccejmbaaMg33
namespace Go.Proofs.Ytddpdopccejmbaa
open Go.RowKit Go.Sort
set_option linter.unusedVariables false

set_option maxRecDepth 100000 in
set_option maxHeartbeats 16000000 in
theorem rput_0 (f : Fr) (vt vb vr : Value) (w : World) (h : FrIn w f vt vb vr) (hno : mayL f.t = false ∨ (f.k < 1 ∨ 3 < f.k ∨ f.y < 0 ∨ 65535 < f.y)) :
    Calls Try.prog 12 #[frv f vt vb vr] w fun e w' => ∃ v, e = .returned (.tuple #[v, .int .i64 (putM f).2]) ∧ Made w w' v (putM f).1 := by
  obtain ⟨At, nt, ct, rfl, htt⟩ := h.t
  obtain ⟨Ab, nb, cb, rfl, hbb⟩ := h.b
  obtain ⟨Ar, nr, cr, rfl, hrr⟩ := h.r
  have HLT := Lib.hid (show ∀ i, (Lies At nt i ∨ Lies Ab nb i ∨ Lies Ar nr i) → i < w.heap.size from fun i hi => by rcases hi with hi | hi | hi; exact htt.lt i hi; exact hbb.lt i hi; exact hrr.lt i hi)
  have HTN := Lib.hid htt.len
  have HLN := Lib.hid (And.intro h.tn (And.intro h.bn h.rn))
  obtain ⟨l0, l1, l2, hl⟩ := len3 h.ok.l
  have HL3 := Lib.hid hl
  have hk0 := ((Kept.refl Nil w).alloc (.cells (fcs f (.slice At nt ct) (.slice Ab nb cb) (.slice Ar nr cr)).toArray 32))
  have hF := FB.new w 32 f (.slice At nt ct) (.slice Ab nb cb) (.slice Ar nr cr)
  have HSIX := Lib.hid h.ok.six
  have HT := Lib.hid (htt.kept hk0 (fun _ _ hf => hf))
  have HBB := Lib.hid (hbb.kept hk0 (fun _ _ hf => hf))
  have HRR := Lib.hid (hrr.kept hk0 (fun _ _ hf => hf))
  have HF := Lib.hid hF
  have HK := Lib.hid hk0
  clear htt hbb hrr h hk0 hF hl
  go_enter Try.func12, Try.ntmps12
  go_upto_region 1 with (fail)
  refine wp_nameE (fun W => FB W w.heap.size 32 f (.slice At nt ct) (.slice Ab nb cb) (.slice Ar nr cr) ∧ Kept Nil w W ∧ Tags W At nt ct f.t ∧ Byt W Ab nb cb f.b ∧ Byt W Ar nr cr f.r ∧ W.heap.size = w.heap.size + 1) ⟨HF.out, HK.out, HT.out, HBB.out, HRR.out, by simp⟩ ?_
  clear HF HK HT HBB HRR
  rintro W ⟨hf, hk, ht, hb, hr, hz⟩
  have HF := Lib.hid hf
  have HK := Lib.hid hk
  have HT := Lib.hid ht
  have HBB := Lib.hid hb
  have HRR := Lib.hid hr
  have HZ := Lib.hid hz
  have HZN := Lib.hid (Blo.new W 25 (bys z3).toArray)
  clear hf hk ht hb hr hz
  go_upto_region 2 with (refine wpList_st rfl _ (.tmp 4) _ rfl _ 0 rfl (bys z3) _ rfl rfl inf3 25 (bys z3) HZN.out (by decide) (bys_one z3) ?_; intro w1 hb1 hk1 hz1)
  have hk01 := ((Kept.refl Nil W).alloc (.cells (bys z3).toArray 25)).fresh hk1 (fun i hi => by cases hi; exact Nat.le_refl _)
  have hzr : Row w1 (w.heap.size + 1) 0 (bys z3) := by
    have h1 : Blo w1 W.heap.size 25 (bys z3).toArray := hb1
    rw [HZ.out] at h1
    exact Blo.row [] (bys z3) [] (by simpa using h1)
  have HW := Lib.hid (show RP w f At nt ct Ab nb cb Ar nr cr w1 from ⟨HF.out.kept hk01 (fun hf => hf), hzr, HT.out.kept hk01 (fun _ _ hf => hf), HBB.out.kept hk01 (fun _ _ hf => hf), HRR.out.kept hk01 (fun _ _ hf => hf), HLT.out, HK.out.then hk01⟩)
  rw [HZ.out]
  clear hk01 hzr hb1 hk1 hz1 HZN HF HT HBB HRR HK
  simp only [Act.put]
  have hrl := HW.out.fb.rl HSIX.out
  rw [HL3.out] at hrl
  have d0 : w1.cell? ⟨w.heap.size, 15, none⟩ = some (.int .u8 (l0.toNat : Int)) := hrl 0 _ rfl
  have d1 : w1.cell? ⟨w.heap.size, 16, none⟩ = some (.int .u8 (l1.toNat : Int)) := hrl 1 _ rfl
  have d2 : w1.cell? ⟨w.heap.size, 17, none⟩ = some (.int .u8 (l2.toNat : Int)) := hrl 2 _ rfl
  have hsn : (f.l = snapL) ↔ (l0.toNat = 170 ∧ l1.toNat = 170 ∧ l2.toNat = 3) := by
    rw [HL3.out]
    show [l0, l1, l2] = [170, 170, 3] ↔ _
    constructor
    · intro h
      injection h with h1 h2
      injection h2 with h2 h3
      injection h3 with h3 _
      subst h1 h2 h3
      exact ⟨rfl, rfl, rfl⟩
    · rintro ⟨h1, h2, h3⟩
      rw [show l0 = 170 from UInt8.toNat_inj.1 h1, show l1 = 170 from UInt8.toNat_inj.1 h2, show l2 = 3 from UInt8.toNat_inj.1 h3]
  obtain ⟨B, hB⟩ : ∃ B : Bool, B = decide (f.l = snapL) := ⟨_, rfl⟩
  have HSN := Lib.hid hsn
  have HBB := Lib.hid hB
  clear hrl hsn hB
  go_cut [5] from 11 to 26 (fun s wx => s = .bool B ∧ wx = w1)
  case first =>
    by_cases g0 : l0.toNat = 170
    · have b0 : ((l0.toNat : Int) == 170) = true := by simp; omega
      by_cases g1 : l1.toNat = 170
      · have b1 : ((l1.toNat : Int) == 170) = true := by simp; omega
        by_cases g2 : l2.toNat = 3
        · have b2 : ((l2.toNat : Int) == 3) = true := by simp; omega
          have HQ := Lib.hid (show B = true by rw [HBB.out]; exact decide_eq_true (HSN.out.2 ⟨g0, g1, g2⟩))
          clear g0 g1 g2
          go_wp2_with (fail)
          go_meet
          exact ⟨by rw [HQ.out], rfl⟩
        · have b2 : ((l2.toNat : Int) == 3) = false := by simp; omega
          have HQ := Lib.hid (show B = false by rw [HBB.out]; exact decide_eq_false (fun h => g2 (HSN.out.1 h).2.2))
          clear g0 g1 g2
          go_wp2_with (fail)
          go_meet
          exact ⟨by rw [HQ.out], rfl⟩
      · have b1 : ((l1.toNat : Int) == 170) = false := by simp; omega
        have HQ := Lib.hid (show B = false by rw [HBB.out]; exact decide_eq_false (fun h => g1 (HSN.out.1 h).2.1))
        clear g0 g1
        go_wp2_with (fail)
        go_meet
        exact ⟨by rw [HQ.out], rfl⟩
    · have b0 : ((l0.toNat : Int) == 170) = false := by simp; omega
      have HQ := Lib.hid (show B = false by rw [HBB.out]; exact decide_eq_false (fun h => g0 (HSN.out.1 h).1))
      clear g0
      go_wp2_with (fail)
      go_meet
      exact ⟨by rw [HQ.out], rfl⟩
  case rest =>
    obtain ⟨rfl, rfl⟩ := hcut
    clear d0 d1 d2
    have c12 := HW.out.fb.ct HSIX.out
    go_wp2_with (fail)
    refine (rmay_yes At nt ct f.t _ HW.out.tt).mono ?_
    rintro e w2 ⟨rfl, hk2⟩
    have HW2 := Lib.hid (HW.out.kept hk2)
    clear c12 hk2 HW
    have HW := HW2
    clear HW2
    have HP := Lib.hid (put_none1 f (by rcases hno with h | h; exact .inl h; exact .inr (car_range f h)))
    cases hmay : mayL f.t with
    | false =>
      clear hmay hno
      go_wp2_with (fail)
      refine bodyPost_ret (v := .tuple #[.slice none 0 0, .int .i64 1]) (by simp [results, Try.results12, go_sem]) rfl ?_
      rw [HP.out]
      exact ⟨_, rfl, World.ownsRow_nil _ _ _ _, HW.out.kk⟩
    | true =>
      have hno : f.k < 1 ∨ 3 < f.k ∨ f.y < 0 ∨ 65535 < f.y := by rcases hno with h | h; rw [hmay] at h; cases h; exact h
      clear hmay
      go_upto_region 5 with (fail)
      have c13 := HW.out.fb.ck HSIX.out
      have c14 := HW.out.fb.cy HSIX.out
      by_cases h1 : f.k < 1
      · clear hno
        go_wp2_with (fail)
        refine bodyPost_ret (v := .tuple #[.slice none 0 0, .int .i64 1]) (by simp [results, Try.results12, go_sem]) rfl ?_
        rw [HP.out]
        exact ⟨_, rfl, World.ownsRow_nil _ _ _ _, HW.out.kk⟩
      · skip
        by_cases h2 : 3 < f.k
        · clear hno
          go_wp2_with (fail)
          refine bodyPost_ret (v := .tuple #[.slice none 0 0, .int .i64 1]) (by simp [results, Try.results12, go_sem]) rfl ?_
          rw [HP.out]
          exact ⟨_, rfl, World.ownsRow_nil _ _ _ _, HW.out.kk⟩
        · skip
          by_cases h3 : f.y < 0
          · clear hno
            go_wp2_with (fail)
            refine bodyPost_ret (v := .tuple #[.slice none 0 0, .int .i64 1]) (by simp [results, Try.results12, go_sem]) rfl ?_
            rw [HP.out]
            exact ⟨_, rfl, World.ownsRow_nil _ _ _ _, HW.out.kk⟩
          · skip
            by_cases h4 : 65535 < f.y
            · clear hno
              go_wp2_with (fail)
              refine bodyPost_ret (v := .tuple #[.slice none 0 0, .int .i64 1]) (by simp [results, Try.results12, go_sem]) rfl ?_
              rw [HP.out]
              exact ⟨_, rfl, World.ownsRow_nil _ _ _ _, HW.out.kk⟩
            · skip
              omega
end Go.Proofs.Ytddpdopccejmbaa
