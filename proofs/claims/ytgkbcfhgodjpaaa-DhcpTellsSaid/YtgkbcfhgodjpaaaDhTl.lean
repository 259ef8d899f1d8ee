/- tolllaw09.DhcpTells: the walk. -/
import Derived.Test.YtgkbcfhgodjpaaaDhPa
import Derived.Test.YtgkbcfhgodjpaaaDhBr
import Derived.Test.YtgkbcfhgodjpaaaDhFr
import Derived.Test.YtgkbcfhgodjpaaaDhO
import Derived.Test.YtgkbcfhgodjpaaaDhU
namespace Go.Proofs.Ytgkbcfhgodjpaaa
open Go.RowKit Go.Sort
set_option linter.unusedVariables false

theorem tot_le (m : Nat) : ∀ os : List Opn, (∀ o ∈ os, o.2.length ≤ m) → totM os ≤ os.length * m ∧ (optB os).length ≤ os.length * (m + 2)
  | [], _ => ⟨by simp [totM], by simp [optB]⟩
  | o :: os, h => by
    have ih := tot_le m os (fun x hx => h x (by simp [hx]))
    have ho := h o (by simp)
    have e1 : totM (o :: os) = o.2.length + totM os := by simp [totM]
    have e2 : (optB (o :: os)).length = o.2.length + 2 + (optB os).length := by simp [optB, oneB]; omega
    rw [e1, e2, List.length_cons, Nat.succ_mul, Nat.succ_mul]
    omega
theorem few_tot (h : Dh) : totM (fewD h).os ≤ 3600 ∧ (optB (fewD h).os).length ≤ 3624 ∧ (fewD h).bh.length ≤ 40 ∧ (fewD h).os.length ≤ 12 := by
  have hl : (fewD h).os.length ≤ 12 := by show ((h.os.take 12).map fewO).length ≤ 12; rw [List.length_map, List.length_take]; omega
  have hb : (fewD h).bh.length ≤ 40 := by show (h.bh.take 40).length ≤ 40; rw [List.length_take]; omega
  have := tot_le 300 (fewD h).os (fun o ho => by
    obtain ⟨x, hx, rfl⟩ := List.mem_map.1 ho
    show (x.2.take 300).length ≤ 300
    rw [List.length_take]; omega)
  have h1 := Nat.mul_le_mul_right 300 hl
  have h2 := Nat.mul_le_mul_right (300 + 2) hl
  omega
set_option maxRecDepth 100000 in
set_option maxHeartbeats 16000000 in
theorem dtells_yes (x : MsA) (a : Int) (w : World) (hI : x.In w) (ha : (Lit.int .u8 a).wf = true) : Calls Try.prog 3 #[dhv x.h x.o x.b, .int .u8 a] w fun e w' => e = .returned (.bool true) ∧ Below w.heap.size w w' := by
  obtain ⟨C, rfl⟩ := u8_of a ha
  obtain ⟨h, vo, vb⟩ := x
  have hwc : wrap64 (C.toNat : Int) = (C.toNat : Int) := by have := C.toNat_lt; unfold wrap64; omega
  have hI : DhIn (fun _ => True) w h vo vb := hI
  dsimp only
  have hP := DB.new w 33 h vo vb
  have hk := (Kept.refl Nil w).alloc (.cells (dcs h vo vb).toArray 33)
  go_enter Try.func3, Try.ntmps3
  go_upto_region 1 with (fail)
  refine wp_nameE (fun W => DB W w.heap.size 33 h vo vb ∧ Kept Nil w W) ⟨hP, hk⟩ ?_
  clear hP hk
  rintro w1 ⟨hP, hk⟩
  have HP := Lib.hid hP
  have HK := Lib.hid hk
  have HI := Lib.hid (hI.bounded.nil hk)
  have HOK := Lib.hid hI.ok
  obtain ⟨g1, hg1⟩ : ∃ g, w.heap.size = g := ⟨_, rfl⟩
  rw [hg1] at HP HI ⊢
  have HW := Lib.hid (show w.heap.size ≤ g1 by omega)
  have HG := Lib.hid (show g1 < w1.heap.size from HP.out.lt)
  clear hP hk hI hg1 ha
  go_wp2_with (first
    | (refine wpList_ld rfl _ _ rfl g1 0 rfl (dcs h vo vb) HP.out.all _ Try.underlying33 rfl (infDh _ HOK.out.s6 _ _) ?_; simp only [Act.put, List.setIfInBounds_toArray, List.set_cons_succ, List.set_cons_zero])
    | fail)
  refine (few_yes _ h vo vb _ HI.out).mono ?_
  rintro e w2 ⟨v2, b2, rfl, hin, hk2⟩
  have HI2 := Lib.hid hin
  have HP2 := Lib.hid (HP.out.kept hk2 (fun hf => hf))
  have HK2 := Lib.hid (HK.out.then hk2)
  have HFO := Lib.hid hin.ok
  have HT := Lib.hid (few_tot h)
  generalize fewD h = f at *
  clear hin hk2 HI HP HK
  go_upto_region 2 with (first
    | (refine wpList_st rfl _ (.tmp 2) _ rfl g1 0 rfl (dcs f v2 b2) _ rfl rfl (infDh _ HFO.out.s6 _ _) 33 _ HP2.out (by rw [dcs_len HFO.out.s6, dcs_len HOK.out.s6]; decide) HI2.out.one ?_; intro w3 hb3 hk3 hz3; clear hz3; simp only [Act.put, List.setIfInBounds_toArray, List.set_cons_succ, List.set_cons_zero])
    | fail)
  have HP := Lib.hid (DB.of_all HOK.out.s6 HFO.out.s6 hb3)
  have HI := Lib.hid ((HI2.out.kept hk3 (fun i hi hf => by have h1 := HG.out; cases hf; rcases hi with ⟨_, hi⟩ | hi <;> omega)).mono (D' := fun _ => True) (fun _ _ => trivial))
  have HK := Lib.hid (HK2.out.fresh hk3 (fun i hi => by have h2 := HW.out; cases hi; omega))
  clear hb3 hk3 HP2 HI2 HK2 HOK
  have HN := Lib.hid (show totM f.os ≤ 1099511627776 ∧ 241 + (optB f.os).length + f.bh.length ≤ 1099511627776 ∧ f.os.length ≤ 1099511627776 by have := HT.out; omega)
  have CO := Lib.hid (fun w hI => of_yes (fun _ => True) f v2 b2 w hI HN.out.2.2)
  have CB := Lib.hid (fun w hI => dbytes_yes (fun _ => True) f v2 b2 w hI HN.out.2.1)
  have CV := Lib.hid (fun w hI => value_yes (fun _ => True) f v2 b2 C w hI HN.out.1)
  have CN := Lib.hid (fun w hI => number_yes (fun _ => True) f v2 b2 C w hI HN.out.1)
  have CW := Lib.hid (fun w hI => wanted_yes (fun _ => True) f v2 b2 w hI HN.out.1)
  have CL := Lib.hid (fun w hI => lease_yes (fun _ => True) f v2 b2 w hI HN.out.1)
  have CT := Lib.hid (fun w hI => type_yes (fun _ => True) f v2 b2 w hI HN.out.1)
  go_wp2_with (first
    | (refine wpList_ld rfl _ _ rfl g1 0 rfl (dcs f v2 b2) HP.out.all _ Try.underlying33 rfl (infDh _ HFO.out.s6 _ _) ?_; simp only [Act.put, List.setIfInBounds_toArray, List.set_cons_succ, List.set_cons_zero])
    | fail)
  refine (CO.out _ HI.out).mono ?_
  rintro e w4 ⟨rh, ro, rb, rfl, hrf, hk4⟩
  have HR4 := Lib.hid hrf
  have HP4 := Lib.hid (HP.out.kept hk4 (fun hf => hf))
  have HI4 := Lib.hid (HI.out.nil hk4)
  have HK4 := Lib.hid (HK.out.then hk4)
  clear hrf hk4 HP HI HK
  go_upto_region 3 with (first
    | (refine wpList_al rfl 37 rfl [nilv, nilv, nilv] al_rf ?_; intro w5 hb5 hk5 hz5; clear hz5)
    | (refine wpList_st rfl _ (.tmp 5) _ rfl w4.heap.size 0 rfl [rh, ro, rb] _ rfl rfl (infRf _ _ _) 37 [nilv, nilv, nilv] hb5 (by show 0 + 3 ≤ 3; omega) HR4.out.one ?_; intro w6 hb6 hk6 hz6; clear hz6; simp only [Act.put, List.setIfInBounds_toArray, List.set_cons_succ, List.set_cons_zero])
    | fail)
  have hk46 : Kept Nil w4 w6 := hk5.fresh hk6 (fun i hi => by cases hi; exact Nat.le_refl _)
  have HRB := Lib.hid (show Blo w6 w4.heap.size 37 #[rh, ro, rb] from hb6)
  have HR := Lib.hid (HR4.out.nil hk46)
  have HP := Lib.hid (HP4.out.kept hk46 (fun hf => hf))
  have HI := Lib.hid (HI4.out.nil hk46)
  have HK := Lib.hid (HK4.out.then hk46)
  obtain ⟨g2, hg2⟩ : ∃ g, w4.heap.size = g := ⟨_, rfl⟩
  rw [hg2] at HRB ⊢
  clear hb5 hk5 hb6 hk6 hk46 hg2 HR4 HP4 HI4 HK4
  have DB' := Lib.hid (fun w hI => rbytes_yes f HFO.out.s6 rh ro rb w hI HN.out.2.1)
  have DV := Lib.hid (fun w hI => rvalue_yes f rh ro rb C w hI HN.out.1)
  have DN := Lib.hid (fun c w hI => rwide_yes f rh ro rb c w hI HN.out.1)
  have DT := Lib.hid (fun w hI => rtype_yes f rh ro rb w hI HN.out.1)
  have D50 := Lib.hid (fun w hI => DN.out 50 w hI)
  have D51 := Lib.hid (fun w hI => DN.out 51 w hI)
  have DC := Lib.hid (fun w hI => DN.out C w hI)
  clear DN
  generalize bytesD f = RB at *
  generalize valD C f.os = RV at *
  generalize numD C f.os = RN at *
  generalize numD 50 f.os = R5 at *
  generalize numD 51 f.os = R6 at *
  generalize typD f.os = RT at *
  obtain ⟨B1, B2⟩ := RB
  obtain ⟨V1, V2⟩ := RV
  obtain ⟨N1, N2⟩ := RN
  obtain ⟨F1, F2⟩ := R5
  obtain ⟨G1, G2⟩ := R6
  have HRW := Lib.hid (Blo.row [] [rh, ro, rb] [] (w := w6) (g := g2) (t := 37) HRB.out)
  clear HRB
  go_wp2_with (first
    | (refine wpList_ld rfl _ _ rfl g1 0 rfl (dcs f v2 b2) HP.out.all _ Try.underlying33 rfl (infDh _ HFO.out.s6 _ _) ?_; simp only [Act.put, List.setIfInBounds_toArray, List.set_cons_succ, List.set_cons_zero])
    | (refine wpList_ld rfl _ _ rfl g2 0 rfl [rh, ro, rb] HRW.out _ Try.underlying37 rfl (infRf _ _ _) ?_; simp only [Act.put, List.setIfInBounds_toArray, List.set_cons_succ, List.set_cons_zero])
    | fail)
  refine (CB.out _ HI.out).mono ?_
  rintro e u1 ⟨v, rfl, hmd⟩
  obtain ⟨A1, c1, rfl, hy, _⟩ := byt_own hmd
  dsimp only at hy ⊢
  have HP := Lib.hid (HP.out.kept hmd.2 (fun hf => hf))
  have HRW := Lib.hid (HRW.out.kept hmd.2 (fun hf => hf))
  have HI := Lib.hid (HI.out.nil hmd.2)
  have HR := Lib.hid (HR.out.nil hmd.2)
  have HK := Lib.hid (HK.out.then hmd.2)
  have HS1 := Lib.hid hy
  clear hmd hy
  go_wp2_with (first
    | (refine wpList_ld rfl _ _ rfl g1 0 rfl (dcs f v2 b2) HP.out.all _ Try.underlying33 rfl (infDh _ HFO.out.s6 _ _) ?_; simp only [Act.put, List.setIfInBounds_toArray, List.set_cons_succ, List.set_cons_zero])
    | (refine wpList_ld rfl _ _ rfl g2 0 rfl [rh, ro, rb] HRW.out _ Try.underlying37 rfl (infRf _ _ _) ?_; simp only [Act.put, List.setIfInBounds_toArray, List.set_cons_succ, List.set_cons_zero])
    | fail)
  refine (DB'.out _ HR.out).mono ?_
  rintro e u2 ⟨v, rfl, hmd⟩
  obtain ⟨A2, c2, rfl, hy, _⟩ := byt_own hmd
  dsimp only at hy ⊢
  have HP := Lib.hid (HP.out.kept hmd.2 (fun hf => hf))
  have HRW := Lib.hid (HRW.out.kept hmd.2 (fun hf => hf))
  have HI := Lib.hid (HI.out.nil hmd.2)
  have HR := Lib.hid (HR.out.nil hmd.2)
  have HK := Lib.hid (HK.out.then hmd.2)
  have HS1 := Lib.hid (HS1.out.kept hmd.2 (fun _ _ hf => hf))
  have HS2 := Lib.hid hy
  clear hmd hy
  go_wp2_with (first
    | (refine wpList_ld rfl _ _ rfl g1 0 rfl (dcs f v2 b2) HP.out.all _ Try.underlying33 rfl (infDh _ HFO.out.s6 _ _) ?_; simp only [Act.put, List.setIfInBounds_toArray, List.set_cons_succ, List.set_cons_zero])
    | (refine wpList_ld rfl _ _ rfl g2 0 rfl [rh, ro, rb] HRW.out _ Try.underlying37 rfl (infRf _ _ _) ?_; simp only [Act.put, List.setIfInBounds_toArray, List.set_cons_succ, List.set_cons_zero])
    | fail)
  refine (CV.out _ HI.out).mono ?_
  rintro e u3 ⟨v, rfl, hmd⟩
  obtain ⟨A3, c3, rfl, hy, _⟩ := byt_own hmd
  dsimp only at hy ⊢
  have HP := Lib.hid (HP.out.kept hmd.2 (fun hf => hf))
  have HRW := Lib.hid (HRW.out.kept hmd.2 (fun hf => hf))
  have HI := Lib.hid (HI.out.nil hmd.2)
  have HR := Lib.hid (HR.out.nil hmd.2)
  have HK := Lib.hid (HK.out.then hmd.2)
  have HS1 := Lib.hid (HS1.out.kept hmd.2 (fun _ _ hf => hf))
  have HS2 := Lib.hid (HS2.out.kept hmd.2 (fun _ _ hf => hf))
  have HS3 := Lib.hid hy
  clear hmd hy
  go_wp2_with (first
    | (refine wpList_ld rfl _ _ rfl g1 0 rfl (dcs f v2 b2) HP.out.all _ Try.underlying33 rfl (infDh _ HFO.out.s6 _ _) ?_; simp only [Act.put, List.setIfInBounds_toArray, List.set_cons_succ, List.set_cons_zero])
    | (refine wpList_ld rfl _ _ rfl g2 0 rfl [rh, ro, rb] HRW.out _ Try.underlying37 rfl (infRf _ _ _) ?_; simp only [Act.put, List.setIfInBounds_toArray, List.set_cons_succ, List.set_cons_zero])
    | fail)
  try rw [hwc]
  refine (DV.out _ HR.out).mono ?_
  rintro e u4 ⟨v, rfl, hmd⟩
  obtain ⟨A4, c4, rfl, hy, _⟩ := byt_own hmd
  dsimp only at hy ⊢
  have HP := Lib.hid (HP.out.kept hmd.2 (fun hf => hf))
  have HRW := Lib.hid (HRW.out.kept hmd.2 (fun hf => hf))
  have HI := Lib.hid (HI.out.nil hmd.2)
  have HR := Lib.hid (HR.out.nil hmd.2)
  have HK := Lib.hid (HK.out.then hmd.2)
  have HS1 := Lib.hid (HS1.out.kept hmd.2 (fun _ _ hf => hf))
  have HS2 := Lib.hid (HS2.out.kept hmd.2 (fun _ _ hf => hf))
  have HS3 := Lib.hid (HS3.out.kept hmd.2 (fun _ _ hf => hf))
  have HS4 := Lib.hid hy
  clear hmd hy
  go_wp2_with (first
    | (refine wpList_ld rfl _ _ rfl g1 0 rfl (dcs f v2 b2) HP.out.all _ Try.underlying33 rfl (infDh _ HFO.out.s6 _ _) ?_; simp only [Act.put, List.setIfInBounds_toArray, List.set_cons_succ, List.set_cons_zero])
    | (refine wpList_ld rfl _ _ rfl g2 0 rfl [rh, ro, rb] HRW.out _ Try.underlying37 rfl (infRf _ _ _) ?_; simp only [Act.put, List.setIfInBounds_toArray, List.set_cons_succ, List.set_cons_zero])
    | fail)
  refine (CN.out _ HI.out).mono ?_
  rintro e u5 ⟨rfl, hk⟩
  dsimp only
  have HP := Lib.hid (HP.out.kept hk (fun hf => hf))
  have HRW := Lib.hid (HRW.out.kept hk (fun hf => hf))
  have HI := Lib.hid (HI.out.nil hk)
  have HR := Lib.hid (HR.out.nil hk)
  have HK := Lib.hid (HK.out.then hk)
  have HS1 := Lib.hid (HS1.out.kept hk (fun _ _ hf => hf))
  have HS2 := Lib.hid (HS2.out.kept hk (fun _ _ hf => hf))
  have HS3 := Lib.hid (HS3.out.kept hk (fun _ _ hf => hf))
  have HS4 := Lib.hid (HS4.out.kept hk (fun _ _ hf => hf))
  clear hk
  go_wp2_with (first
    | (refine wpList_ld rfl _ _ rfl g1 0 rfl (dcs f v2 b2) HP.out.all _ Try.underlying33 rfl (infDh _ HFO.out.s6 _ _) ?_; simp only [Act.put, List.setIfInBounds_toArray, List.set_cons_succ, List.set_cons_zero])
    | (refine wpList_ld rfl _ _ rfl g2 0 rfl [rh, ro, rb] HRW.out _ Try.underlying37 rfl (infRf _ _ _) ?_; simp only [Act.put, List.setIfInBounds_toArray, List.set_cons_succ, List.set_cons_zero])
    | fail)
  try rw [hwc]
  refine (DC.out _ HR.out).mono ?_
  rintro e u6 ⟨rfl, hk⟩
  dsimp only
  have HP := Lib.hid (HP.out.kept hk (fun hf => hf))
  have HRW := Lib.hid (HRW.out.kept hk (fun hf => hf))
  have HI := Lib.hid (HI.out.nil hk)
  have HR := Lib.hid (HR.out.nil hk)
  have HK := Lib.hid (HK.out.then hk)
  have HS1 := Lib.hid (HS1.out.kept hk (fun _ _ hf => hf))
  have HS2 := Lib.hid (HS2.out.kept hk (fun _ _ hf => hf))
  have HS3 := Lib.hid (HS3.out.kept hk (fun _ _ hf => hf))
  have HS4 := Lib.hid (HS4.out.kept hk (fun _ _ hf => hf))
  clear hk
  go_wp2_with (first
    | (refine wpList_ld rfl _ _ rfl g1 0 rfl (dcs f v2 b2) HP.out.all _ Try.underlying33 rfl (infDh _ HFO.out.s6 _ _) ?_; simp only [Act.put, List.setIfInBounds_toArray, List.set_cons_succ, List.set_cons_zero])
    | (refine wpList_ld rfl _ _ rfl g2 0 rfl [rh, ro, rb] HRW.out _ Try.underlying37 rfl (infRf _ _ _) ?_; simp only [Act.put, List.setIfInBounds_toArray, List.set_cons_succ, List.set_cons_zero])
    | fail)
  refine (CW.out _ HI.out).mono ?_
  rintro e u7 ⟨rfl, hk⟩
  dsimp only
  have HP := Lib.hid (HP.out.kept hk (fun hf => hf))
  have HRW := Lib.hid (HRW.out.kept hk (fun hf => hf))
  have HI := Lib.hid (HI.out.nil hk)
  have HR := Lib.hid (HR.out.nil hk)
  have HK := Lib.hid (HK.out.then hk)
  have HS1 := Lib.hid (HS1.out.kept hk (fun _ _ hf => hf))
  have HS2 := Lib.hid (HS2.out.kept hk (fun _ _ hf => hf))
  have HS3 := Lib.hid (HS3.out.kept hk (fun _ _ hf => hf))
  have HS4 := Lib.hid (HS4.out.kept hk (fun _ _ hf => hf))
  clear hk
  go_wp2_with (first
    | (refine wpList_ld rfl _ _ rfl g1 0 rfl (dcs f v2 b2) HP.out.all _ Try.underlying33 rfl (infDh _ HFO.out.s6 _ _) ?_; simp only [Act.put, List.setIfInBounds_toArray, List.set_cons_succ, List.set_cons_zero])
    | (refine wpList_ld rfl _ _ rfl g2 0 rfl [rh, ro, rb] HRW.out _ Try.underlying37 rfl (infRf _ _ _) ?_; simp only [Act.put, List.setIfInBounds_toArray, List.set_cons_succ, List.set_cons_zero])
    | fail)
  refine (D50.out _ HR.out).mono ?_
  rintro e u8 ⟨rfl, hk⟩
  dsimp only
  have HP := Lib.hid (HP.out.kept hk (fun hf => hf))
  have HRW := Lib.hid (HRW.out.kept hk (fun hf => hf))
  have HI := Lib.hid (HI.out.nil hk)
  have HR := Lib.hid (HR.out.nil hk)
  have HK := Lib.hid (HK.out.then hk)
  have HS1 := Lib.hid (HS1.out.kept hk (fun _ _ hf => hf))
  have HS2 := Lib.hid (HS2.out.kept hk (fun _ _ hf => hf))
  have HS3 := Lib.hid (HS3.out.kept hk (fun _ _ hf => hf))
  have HS4 := Lib.hid (HS4.out.kept hk (fun _ _ hf => hf))
  clear hk
  go_wp2_with (first
    | (refine wpList_ld rfl _ _ rfl g1 0 rfl (dcs f v2 b2) HP.out.all _ Try.underlying33 rfl (infDh _ HFO.out.s6 _ _) ?_; simp only [Act.put, List.setIfInBounds_toArray, List.set_cons_succ, List.set_cons_zero])
    | (refine wpList_ld rfl _ _ rfl g2 0 rfl [rh, ro, rb] HRW.out _ Try.underlying37 rfl (infRf _ _ _) ?_; simp only [Act.put, List.setIfInBounds_toArray, List.set_cons_succ, List.set_cons_zero])
    | fail)
  refine (CL.out _ HI.out).mono ?_
  rintro e u9 ⟨rfl, hk⟩
  dsimp only
  have HP := Lib.hid (HP.out.kept hk (fun hf => hf))
  have HRW := Lib.hid (HRW.out.kept hk (fun hf => hf))
  have HI := Lib.hid (HI.out.nil hk)
  have HR := Lib.hid (HR.out.nil hk)
  have HK := Lib.hid (HK.out.then hk)
  have HS1 := Lib.hid (HS1.out.kept hk (fun _ _ hf => hf))
  have HS2 := Lib.hid (HS2.out.kept hk (fun _ _ hf => hf))
  have HS3 := Lib.hid (HS3.out.kept hk (fun _ _ hf => hf))
  have HS4 := Lib.hid (HS4.out.kept hk (fun _ _ hf => hf))
  clear hk
  go_wp2_with (first
    | (refine wpList_ld rfl _ _ rfl g1 0 rfl (dcs f v2 b2) HP.out.all _ Try.underlying33 rfl (infDh _ HFO.out.s6 _ _) ?_; simp only [Act.put, List.setIfInBounds_toArray, List.set_cons_succ, List.set_cons_zero])
    | (refine wpList_ld rfl _ _ rfl g2 0 rfl [rh, ro, rb] HRW.out _ Try.underlying37 rfl (infRf _ _ _) ?_; simp only [Act.put, List.setIfInBounds_toArray, List.set_cons_succ, List.set_cons_zero])
    | fail)
  refine (D51.out _ HR.out).mono ?_
  rintro e u10 ⟨rfl, hk⟩
  dsimp only
  have HP := Lib.hid (HP.out.kept hk (fun hf => hf))
  have HRW := Lib.hid (HRW.out.kept hk (fun hf => hf))
  have HI := Lib.hid (HI.out.nil hk)
  have HR := Lib.hid (HR.out.nil hk)
  have HK := Lib.hid (HK.out.then hk)
  have HS1 := Lib.hid (HS1.out.kept hk (fun _ _ hf => hf))
  have HS2 := Lib.hid (HS2.out.kept hk (fun _ _ hf => hf))
  have HS3 := Lib.hid (HS3.out.kept hk (fun _ _ hf => hf))
  have HS4 := Lib.hid (HS4.out.kept hk (fun _ _ hf => hf))
  clear hk
  go_upto_region 13 with (fail)
  have hq1 : ∀ dr os, Calls Try.prog 17 #[.slice A1 B1.length c1, .slice A2 B1.length c2] (grow (redrawn u10 dr) os) fun e w' => e = .returned (.bool true) ∧ grow (redrawn u10 dr) os = w' := fun dr os => by
    have := equal _ _ _ _ _ _ _ _ _ (HS1.out.kept (kept_grown' u10 dr os) (fun _ _ hf => hf)) (HS2.out.kept (kept_grown' u10 dr os) (fun _ _ hf => hf))
    rw [beq_self_eq_true] at this
    exact this
  have hq2 : ∀ dr os, Calls Try.prog 17 #[.slice A3 V1.length c3, .slice A4 V1.length c4] (grow (redrawn u10 dr) os) fun e w' => e = .returned (.bool true) ∧ grow (redrawn u10 dr) os = w' := fun dr os => by
    have := equal _ _ _ _ _ _ _ _ _ (HS3.out.kept (kept_grown' u10 dr os) (fun _ _ hf => hf)) (HS4.out.kept (kept_grown' u10 dr os) (fun _ _ hf => hf))
    rw [beq_self_eq_true] at this
    exact this
  have ht1 : ∀ dr os, Calls Try.prog 18 #[.agg (dcs f v2 b2).toArray] (grow (redrawn u10 dr) os) fun e w' => e = .returned (.int .i64 (RT : Int)) ∧ Kept Nil (grow (redrawn u10 dr) os) w' := fun dr os => CT.out _ (HI.out.nil (kept_grown' u10 dr os))
  have ht2 : ∀ dr os, Calls Try.prog 19 #[.agg #[rh, ro, rb]] (grow (redrawn u10 dr) os) fun e w' => e = .returned (.int .i64 (RT : Int)) ∧ Kept Nil (grow (redrawn u10 dr) os) w' := fun dr os => DT.out _ (HR.out.nil (kept_grown' u10 dr os))
  refine wp_region_quiet_below (by kernel_rfl) (by kernel_rfl) ?_
  go_big_quiet_step (fail)
  go_big_quiet_step (fail)
  go_big_quiet_step (exact quietS (hq1 _ _))
  go_big_quiet_step (fail)
  go_big_quiet_step (fail)
  go_big_quiet_step (fail)
  go_big_quiet_step (fail)
  go_big_quiet_step (fail)
  go_big_quiet_step (fail)
  go_big_quiet_step (fail)
  go_big_quiet_step (fail)
  go_big_quiet_step (exact quietS (hq2 _ _))
  go_big_quiet_step (fail)
  go_big_quiet_step (fail)
  go_big_quiet_step (fail)
  go_big_quiet_step (fail)
  go_big_quiet_step (fail)
  go_big_quiet_step (fail)
  go_big_quiet_step (fail)
  go_big_quiet_step (fail)
  go_big_quiet_step (fail)
  go_big_quiet_step (fail)
  go_big_quiet_step (fail)
  go_big_quiet_step (fail)
  go_big_quiet_step (fail)
  go_big_quiet_step (fail)
  go_big_quiet_step (fail)
  go_big_quiet_step (fail)
  go_big_quiet_step (fail)
  go_big_quiet_step (fail)
  go_big_quiet_step (fail)
  go_big_quiet_step (fail)
  go_big_quiet_step (fail)
  go_big_quiet_step (fail)
  go_big_quiet_step (fail)
  go_big_quiet_step (fail)
  go_big_quiet_step (fail)
  go_big_quiet_step (fail)
  go_big_quiet_step (fail)
  go_big_quiet_step (fail)
  go_big_quiet_step (fail)
  go_big_quiet_step (fail)
  go_big_quiet_step (fail)
  go_big_quiet_step (fail)
  go_big_quiet_step (fail)
  go_big_quiet_step (fail)
  go_big_quiet_step (fail)
  go_big_quiet_step (fail)
  go_big_quiet_step (fail)
  refine wpQuiet_ld rfl _ _ rfl g1 0 rfl (dcs f v2 b2) (fun w' hw => row_grown HP.out.all hw) _ Try.underlying33 rfl (infDh _ HFO.out.s6 _ _) ?_; simp only [Act.put, List.setIfInBounds_toArray, List.set_cons_succ, List.set_cons_zero]
  go_big_quiet_step (exact quietK (ht1 _ _))
  refine wpQuiet_ld rfl _ _ rfl g2 0 rfl [rh, ro, rb] (fun w' hw => row_grown HRW.out hw) _ Try.underlying37 rfl (infRf _ _ _) ?_; simp only [Act.put, List.setIfInBounds_toArray, List.set_cons_succ, List.set_cons_zero]
  go_big_quiet_step (exact quietK (ht2 _ _))
  go_big_quiet_step (fail)
  go_big_quiet_step (fail)
  go_big_quiet_step (fail)
  go_big_quiet_step (exact quietK (wakes_yes _))
  go_big_quiet_step (fail)
  go_big_quiet_step (fail)
  refine wpQuiet_nil ?_
  rintro wz ⟨nq, hw⟩
  have HKZ := Lib.hid (HK.out.then (show Kept Nil u10 wz from by rw [hw]; exact kept_grown _ _))
  clear hw
  go_wp2
  go_ret
  exact ⟨rfl, HKZ.out.below (by omega) (fun _ hf => hf.elim)⟩
end Go.Proofs.Ytgkbcfhgodjpaaa
