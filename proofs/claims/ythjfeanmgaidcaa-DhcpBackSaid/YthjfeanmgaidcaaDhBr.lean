/- tolllaw09: contract of brought. -/
import Derived.Test.YthjfeanmgaidcaaDhFw
import Derived.Test.YthjfeanmgaidcaaMg14
import Derived.Test.YthjfeanmgaidcaaMg16
namespace Go.Proofs.Ythjfeanmgaidcaa
open Go.RowKit Go.Sort
set_option linter.unusedVariables false

def brO (o : Opn) : Opn := (1 + o.1 % 254, o.2.take 255)
def brD (f : Dh) : Dh := { f with op := 1 + f.op % 2, os := f.os.map brO }
theorem brD_ok {f : Dh} (k : f.ok) : (brD f).ok := ⟨⟨k.st, k.pd, k.sv, k.fi⟩, k.xi, k.se, k.fl, k.ci, k.yo, k.ne, k.re⟩
theorem DhIn.bounded {D : Nat → Prop} {w : World} {h : Dh} {vo vb : Value} (a : DhIn D w h vo vb) : DhIn (fun i => D i ∧ i < w.heap.size) w h vo vb := by
  obtain ⟨A, n, c, e, ho⟩ := a.o
  obtain ⟨A', n', c', e', hb, hl⟩ := a.b
  exact ⟨a.ok, ⟨A, n, c, e, ho.bounded⟩, ⟨A', n', c', e', hb, fun i hi => ⟨hl i hi, hb.lt i hi⟩⟩⟩
theorem one_rem (c m : UInt8) (hm : m.toNat = 254 ∨ m.toNat = 2) : ((1 + c % m).toNat : Int) = 1 + (c.toNat : Int) % (m.toNat : Int) := by
  have h := c.toNat_lt
  have e : (1 + c % m).toNat = 1 + c.toNat % m.toNat := by
    rw [UInt8.toNat_add, UInt8.toNat_mod]
    have : c.toNat % m.toNat < 254 := by rcases hm with h | h <;> rw [h] <;> omega
    exact Nat.mod_eq_of_lt (by show 1 + _ < 256; omega)
  rw [e, Int.natCast_add, Int.natCast_emod]
  rfl
theorem rem254 (c : UInt8) : ((1 + c % 254).toNat : Int) = 1 + (c.toNat : Int) % 254 := one_rem c 254 (.inl rfl)
theorem rem2 (c : UInt8) : ((1 + c % 2).toNat : Int) = 1 + (c.toNat : Int) % 2 := one_rem c 2 (.inr rfl)
theorem infU8 : (Try.prog.info? 5).map (·.size) = some 1 := by kernel_rfl
set_option maxRecDepth 100000 in
set_option maxHeartbeats 16000000 in
theorem brought_yes (D : Nat → Prop) (h : Dh) (vo vb : Value) (w : World) (hI : DhIn D w h vo vb) : Calls Try.prog 6 #[dhv h vo vb] w fun e w' => ∃ vo' vb', e = .returned (dhv (brD (fewD h)) vo' vb') ∧ DhIn (fun j => D j ∨ w.heap.size ≤ j) w' (brD (fewD h)) vo' vb' ∧ Kept Nil w w' := by
  have hP := DB.new w 33 h vo vb
  have hk := (Kept.refl Nil w).alloc (.cells (dcs h vo vb).toArray 33)
  obtain ⟨j0, ji, jz0, jz1, jz2⟩ := info_parts infOpt'
  go_enter Try.func6, Try.ntmps6
  go_upto_region 1 with (first | (refine wpList_al rfl 33 rfl (dcs Dh.zero nilv nilv) al_dh ?_; intro w1 hb1 hk1 hz1'; clear hz1') | fail)
  replace hb1 : Blo w1 (w.alloc (.cells (dcs h vo vb).toArray 33)).heap.size 33 (dcs Dh.zero nilv nilv).toArray := hb1
  replace hk1 : Kept Nil (w.alloc (.cells (dcs h vo vb).toArray 33)) w1 := hk1
  have HP := Lib.hid (hP.kept hk1 (fun hf => hf))
  have HK := Lib.hid (hk.then hk1)
  have HOK := Lib.hid hI.ok
  have HI := Lib.hid (hI.bounded.nil (hk.then hk1))
  have HR1 := Lib.hid (show DB w1 (w.alloc (.cells (dcs h vo vb).toArray 33)).heap.size 33 Dh.zero nilv nilv from hb1)
  have hsz : (w.alloc (.cells (dcs h vo vb).toArray 33)).heap.size = w.heap.size + 1 := by simp
  rw [hsz] at HR1
  have HG1 := Lib.hid (show w.heap.size + 1 < w1.heap.size from HR1.out.lt)
  simp only [Act.put, List.setIfInBounds_toArray, List.set_cons_succ, List.set_cons_zero]
  simp only [World.size_alloc]
  obtain ⟨g1, hg1⟩ : ∃ g, w.heap.size = g := ⟨_, rfl⟩
  have HW := Lib.hid (show w.heap.size ≤ g1 by omega)
  rw [hg1] at HP HR1 HG1 ⊢
  obtain ⟨g2, hg2⟩ : ∃ g, g1 + 1 = g := ⟨_, rfl⟩
  have HG2 := Lib.hid (show g1 < g2 by omega)
  rw [hg2] at HR1 HG1 ⊢
  clear hP hk hI hb1 hk1 hsz hg2
  go_wp2_with (first
    | (refine wpList_ld rfl _ _ rfl g1 0 rfl (dcs h vo vb) HP.out.all _ Try.underlying33 rfl (infDh _ HOK.out.s6 _ _) ?_; simp only [Act.put, List.setIfInBounds_toArray, List.set_cons_succ, List.set_cons_zero])
    | fail)
  refine (few_yes _ h vo vb _ HI.out).mono ?_
  rintro e w2 ⟨vo2, vb2, rfl, hin, hk2⟩
  have HI2 := Lib.hid (hin.mono (D' := fun j => (D j ∧ j < g1) ∨ w1.heap.size ≤ j) (fun i hi => by rw [hg1] at hi; exact hi))
  have HP2 := Lib.hid (HP.out.kept hk2 (fun hf => hf))
  have HR2 := Lib.hid (HR1.out.kept hk2 (fun hf => hf))
  have HK2 := Lib.hid (HK.out.then hk2)
  have HZ2 := Lib.hid (show w1.heap.size ≤ w2.heap.size from hk2.size)
  have HFO := Lib.hid hin.ok
  have HFN := Lib.hid (show (fewD h).os.length ≤ 12 from by show ((h.os.take 12).map fewO).length ≤ 12; rw [List.length_map, List.length_take]; omega)
  generalize hf : fewD h = f at *
  have HF := Lib.hid hf
  clear hf
  clear hin hk2 HI HP HR1 HK
  go_upto_region 2 with (first
    | (refine wpList_st rfl _ (.tmp 1) _ rfl g1 0 rfl (dcs f vo2 vb2) _ rfl rfl (infDh _ HFO.out.s6 _ _) 33 _ HP2.out (by rw [dcs_len HFO.out.s6, dcs_len HOK.out.s6]; decide) HI2.out.one ?_; intro w3 hb3 hk3 hz3; clear hz3; simp only [Act.put, List.setIfInBounds_toArray, List.set_cons_succ, List.set_cons_zero])
    | fail)
  have HP3 := Lib.hid (DB.of_all HOK.out.s6 HFO.out.s6 hb3)
  have HI3 := Lib.hid (HI2.out.kept hk3 (fun i hi hf => by have h1 := HG1.out; have h2 := HG2.out; cases hf; rcases hi with ⟨_, hi⟩ | hi <;> omega))
  have HR3 := Lib.hid (HR2.out.kept hk3 (fun hf => by have h2 := HG2.out; cases hf; omega))
  have HK3 := Lib.hid (HK2.out.fresh hk3 (fun i hi => by have h2 := HW.out; cases hi; omega))
  have HZ3 := Lib.hid (Nat.le_trans HZ2.out hk3.size)
  clear hb3 hk3 HZ2 HP2 HI2 HR2 HK2 HOK
  have y0 := HP3.out.c0
  go_upto_region 3 with (first
    | (refine wpList_st rfl _ _ _ rfl g1 0 rfl [.int .u8 (1 + (f.op.toNat : Int) % 2)] _ rfl rfl infU8 33 _ HP3.out (by rw [dcs_len HFO.out.s6]; show 0 + 1 ≤ 219; omega) (by intro u hu; simp at hu; subst hu; rfl) ?_; intro w4 hb4 hk4 hz4; clear hz4; simp only [Act.put, List.setIfInBounds_toArray, List.set_cons_succ, List.set_cons_zero])
    | fail)
  rw [← rem2 f.op] at hb4
  have HP4 := Lib.hid (DB.set_n (h' := { f with op := 1 + f.op % 2 }) (n := 0) rfl ⟨rfl, rfl, rfl, rfl⟩ (by decide) hb4)
  have HI4 := Lib.hid (HI3.out.kept hk4 (fun i hi hf => by have h1 := HG1.out; have h2 := HG2.out; cases hf; rcases hi with ⟨_, hi⟩ | hi <;> omega))
  have HR4 := Lib.hid (HR3.out.kept hk4 (fun hf => by have h2 := HG2.out; cases hf; omega))
  have HK4 := Lib.hid (HK3.out.fresh hk4 (fun i hi => by have h2 := HW.out; cases hi; omega))
  have HW4 := Lib.hid (Nat.le_trans HZ3.out hk4.size)
  clear hb4 hk4 HZ3 HP3 HI3 HR3 HK3 y0
  obtain ⟨A, n, c, rfl, hO⟩ := HI4.out.o
  obtain ⟨B, m, d, rfl, hb, hlb⟩ := HI4.out.b
  have HO := Lib.hid hO.bounded
  have HOL := Lib.hid hO.len
  have hnc := hO.lt.1
  have hcc := hO.lt.2
  have HB := Lib.hid hb
  have HLB := Lib.hid hlb
  have y217 := HP4.out.co ⟨HFO.out.st, HFO.out.pd, HFO.out.sv, HFO.out.fi⟩
  clear hO hb hlb
  go_wp2
  go_loopw [3, 16] (fun v i wr => ∃ (k : Nat) (vv : Value), vv = v ∧ k ≤ n ∧ i = .int .i64 (k : Int) ∧ OwnO w4.heap.size (fun j => ((D j ∧ j < g1) ∨ w1.heap.size ≤ j) ∧ j < w4.heap.size) .u8 wr 47 vv ((f.os.take k).map brO) ∧ Kept Nil w4 wr) (fun _ i _ => n - (intOf i).toNat)
  case atStart => exact ⟨0, _, rfl, Nat.zero_le _, rfl, OwnO.nil _ _ _ _ _, Kept.refl _ _⟩
  case round =>
    clear y217
    obtain ⟨k, vv, rfl, hk, rfl, hown, hkp⟩ := hrel
    have HOW := Lib.hid hown
    have HKR := Lib.hid hkp
    clear hown hkp
    by_cases hlt : k < n
    · have hkl : k < f.os.length := by rw [HOL.out]; exact hlt
      obtain ⟨b, o, A', na, c', rfl, hrow, hby, hlv⟩ := (HO.out.kept HKR.out (fun _ _ hf => hf)).at hkl
      have q0 := hrow 0 _ rfl
      have q1 := hrow 1 _ rfl
      rw [Nat.add_zero] at q0
      have HTN := Lib.hid (show (f.os.take (k + 1)).map brO = (f.os.take k).map brO ++ [brO f.os[k]] from by
        rw [List.take_succ_eq_append_getElem hkl, List.map_append]
        rfl)
      have HLV := Lib.hid (fun j (hj : Lies A' na j) => hlv j hj)
      have HLK := Lib.hid (show ((f.os.take k).map brO).length = k by rw [List.length_map, List.length_take]; omega)
      have HK12 := Lib.hid (show k < 12 by have := HFN.out; omega)
      generalize f.os[k] = op at *
      obtain ⟨oc, ov⟩ := op
      simp only at q0
      have HBY := Lib.hid (show Byt wr A' na c' ov from hby)
      clear hrow hby hlv hkl
      obtain ⟨ma, ma1, ma2, ma3, ma4, ma5⟩ := minB 255 na
      replace ma1 : (if (255 : Int) < (na : Int) then (255 : Int) else (na : Int)) = (ma : Int) := ma1
      replace ma2 : min (na : Int) (255 : Int) = (ma : Int) := ma2
      have hcut := run_cut_hi (P := Try.prog) Try.underlying31 inf5.1 A' na c' ma (ma : Int) rfl (Nat.le_trans ma3 HBY.out.2.1)
      have HPR := Lib.hid (show Byt wr A' ma c' (ov.take 255) from by rw [← take_min ov 255 na ma HBY.out.1 ma5]; exact HBY.out.pre ma3)
      have hba := Blo.new wr 47 #[.int .u8 (oc.toNat : Int), .slice A' na c']
      have hka := (Kept.refl Nil wr).alloc (.cells #[.int .u8 (oc.toNat : Int), .slice A' na c'] 47)
      clear ma5
      go_upto_region 7 with (fail)
      refine wp_nameE (fun X => Blo X wr.heap.size 47 #[.int .u8 (oc.toNat : Int), .slice A' na c'] ∧ Kept Nil wr X) ⟨hba, hka⟩ ?_
      clear hba hka
      rintro wa ⟨hba, hka⟩
      have HBA := Lib.hid hba
      have HKA := Lib.hid (HKR.out.then hka)
      have HOA := Lib.hid (HOW.out.nilk hka)
      have HPA := Lib.hid (HPR.out.kept hka (fun _ _ hf => hf))
      obtain ⟨ga, hga⟩ : ∃ g, wr.heap.size = g := ⟨_, rfl⟩
      rw [hga] at HBA ⊢
      obtain ⟨Aw, cw, rfl⟩ := HOA.out.form
      rw [HLK.out] at HOA ⊢
      have hrm := rem254 oc
      replace HTN : Hid ((f.os.take (k + 1)).map brO = (f.os.take k).map brO ++ [(1 + oc % 254, ov.take 255)]) := HTN
      generalize 1 + oc % 254 = oq at *
      clear hba hka hga HOW HPR q0 q1 HBY
      refine wp_region_acts Nil [] (fun i vl => (#[.int .u8 (oq.toNat : Int), .slice A' ma c'], 47)) (fun i => if i = 9 then .int .i64 (na : Int) else .int .i64 (ma : Int)) (fun _ _ _ => True) (fun _ _ => True) 14 (by kernel_rfl) (by kernel_rfl) ⟨fun _ _ _ _ h _ => h, fun _ _ _ _ h => h⟩ trivial ?_
      simp only [List.take_succ_cons, List.take_zero, List.drop_succ_cons, List.drop_zero]
      refine tLex_quiets 13 rfl (by kernel_rfl) ?_
      simp only [List.take_succ_cons, List.take_zero, List.drop_succ_cons, List.drop_zero]
      apply Exists.intro
      refine ⟨?hq1, ?hv1, ?ht1⟩
      case hq1 =>
        intro V hV
        have hbv := HBA.out.kept hV (fun hf => hf)
        have c0 := hbv.gcell 0
        have c1 := hbv.gcell 1
        simp at c0 c1
        clear hV hbv
        have hlo := oc.toNat_lt
        repeat (go_big_quiet_step (fail))
        exact wpQuiet_nil rfl
      case hv1 => exact ⟨trivial, trivial, trivial, trivial, trivial, trivial, trivial, trivial, trivial, rfl, rfl, trivial, trivial, trivial⟩
      case ht1 =>
        refine tLex_make (#[.int .u8 (oq.toNat : Int), .slice A' ma c'], 47) rfl rfl rfl rfl (fun u => ?hm1) ?_
        case hm1 => simp [execOp, mkVal, Instr.buildSlice, go_sem, hrm]
        intro gq hgq hLq
        simp only [Act.put, mkVal, List.setIfInBounds_toArray, List.set_cons_succ, List.set_cons_zero]
        intro w6 hs
        have hbq : Blo w6 gq 47 #[.int .u8 (oq.toNat : Int), .slice A' ma c'] := (hs.made gq _ (mput_same _ _ _)).2
        have hk6 : Kept Nil wa w6 := hs.kept
        have HO6 := Lib.hid (HOA.out.nilk hk6)
        have HP6 := Lib.hid (HPA.out.kept hk6 (fun _ _ hf => hf))
        have HK6 := Lib.hid (HKA.out.then hk6)
        obtain ⟨rs, g1', g2', g3', g4'⟩ := HO6.out
        rw [HLK.out] at g1' g2'
        have HS1 := Lib.hid g1'
        have HS2 := Lib.hid g2'
        have HS3 := Lib.hid g3'
        have HS4 := Lib.hid g4'
        have HSR := Lib.hid (rws_blo (s := 2) [[.int .u8 (oq.toNat : Int), .slice A' ma c']] (by simp) (by simp) hbq rfl 1 rfl)
        have HWS := Lib.hid (show w4.heap.size ≤ w6.heap.size from HK6.out.size)
        clear hbq hk6 hs hgq hLq HOA HPA HKA g1' g2' g3' g4'
        go_wp2_with (at_builtin; refine wpList_appR rfl _ _ 30 rfl 2 w4.heap.size 47 32 j0 (.agg #[.int .u8 0, .slice none 0 0]) Try.underlying30 ji jz0 jz1 jz2 rfl (by decide) _ _ _ rfl HS1.out _ 1 1 [[.int .u8 (oq.toNat : Int), .slice A' ma c']] rfl HSR.out (by intro u hu; simp at hu; rcases hu with rfl | rfl <;> rfl) (by have := HK12.out; unfold maxLen; omega) (by have := HK12.out; omega) HWS.out ?_; intro v' wc hown hgr hor; clear hor)
        have hkc : Kept (fun j => w4.heap.size ≤ j) w6 wc := (Kept.refl _ w6).grown hgr (fun j hj _ => own_ge1 HS1.out j hj)
        have hfar : ∀ i, i < w4.heap.size → ¬ w4.heap.size ≤ i := fun i hi hf => by omega
        have HOC := Lib.hid (show OwnO w4.heap.size (fun j => ((D j ∧ j < g1) ∨ w1.heap.size ≤ j) ∧ j < w4.heap.size) .u8 wc 47 v' ((f.os.take (k + 1)).map brO) from by
          rw [HTN.out]
          refine OwnO.snoc (o := (oq, ov.take 255)) (r := [.int .u8 (oq.toNat : Int), .slice A' ma c']) rfl rs (by rw [HLK.out]; exact HS2.out) HS3.out (fun i r o hr ho => (HS4.out i r o hr ho).kept hkc (fun j hj => hfar j hj.2)) ⟨A', ma, c', rfl, HP6.out.kept hkc (fun i hi => hfar i (HLV.out i ⟨by have := hi.1; omega, hi.2⟩).2), fun i hi => HLV.out i ⟨by have := hi.1; omega, hi.2⟩⟩ ?_
          rw [HLK.out]
          exact hown)
        have HKC := Lib.hid (HK6.out.trans (F := Nil) hkc (fun i hi hf => absurd hf (by omega)))
        clear hown hgr hkc hfar HO6 HP6 HK6 HS1 HS2 HS3 HS4 HSR
        go_wp2
        go_roundw
        case rel => exact ⟨k + 1, _, rfl, by omega, by go_num, HOC.out, HKC.out⟩
        case measure => simp [intOf]; omega
    · obtain rfl : k = n := by omega
      rw [show f.os.take k = f.os from List.take_of_length_le (by rw [HOL.out]; exact Nat.le_refl _)] at HOW
      obtain ⟨Av, cv, rfl, hop⟩ := HOW.out.opts
      have HOP := Lib.hid hop
      have HLF := Lib.hid (show (f.os.map brO).length = k by rw [List.length_map, HOL.out])
      rw [HLF.out] at HOP ⊢
      have HP8 := Lib.hid (HP4.out.kept HKR.out (fun hf => hf))
      have HR8 := Lib.hid (HR4.out.kept HKR.out (fun hf => hf))
      have HKW := Lib.hid (HK4.out.then HKR.out)
      have HB8 := Lib.hid (HB.out.kept HKR.out (fun _ _ hf => hf))
      have HFB := Lib.hid (brD_ok HFO.out)
      have HS6 := Lib.hid (show Dh.six { f with op := 1 + f.op % 2 } from ⟨HFO.out.st, HFO.out.pd, HFO.out.sv, HFO.out.fi⟩)
      clear hop HOW HR4 HP4 hnc hcc hlt
      go_upto_region 10 with (first
        | (refine wpList_st rfl _ _ _ rfl g1 217 rfl [.slice Av k cv] _ rfl rfl infOs 33 _ HP8.out (by rw [dcs_len HS6.out]; show 217 + 1 ≤ 219; omega) (by intro u hu; simp at hu; subst hu; rfl) ?_; intro w8 hb8 hk8 hz8; clear hz8; simp only [Act.put, List.setIfInBounds_toArray, List.set_cons_succ, List.set_cons_zero])
        | fail)
      have HBF := Lib.hid (show DB w8 g1 33 (brD f) (.slice Av k cv) (.slice B m d) from DB.set_e (h := { f with op := 1 + f.op % 2 }) (.slice Av k cv) (.inl ⟨rfl, rfl, rfl⟩) HS6.out hb8)
      have HRF := Lib.hid (HR8.out.kept hk8 (fun hf => by have := HG2.out; cases hf; omega))
      have HK1 := Lib.hid hk8
      clear hb8 hk8 HP8 HR8
      go_wp2_with (first
        | (refine wpList_ld rfl _ _ rfl g1 0 rfl (dcs (brD f) (.slice Av k cv) (.slice B m d)) HBF.out.all _ Try.underlying33 rfl (infDh _ HFB.out.s6 _ _) ?_; simp only [Act.put, List.setIfInBounds_toArray, List.set_cons_succ, List.set_cons_zero])
        | (refine wpList_st rfl _ (.tmp 2) _ rfl g2 0 rfl (dcs (brD f) (.slice Av k cv) (.slice B m d)) _ rfl rfl (infDh _ HFB.out.s6 _ _) 33 _ HRF.out (by rw [dcs_len HFB.out.s6, dcs_len Dh.zero_ok.s6]; decide) (dcs_one rfl rfl) ?_; intro wd hbd hkd hzd; clear hzd; simp only [Act.put, List.setIfInBounds_toArray, List.set_cons_succ, List.set_cons_zero])
        | fail)
      have hD := DB.of_all Dh.zero_ok.s6 HFB.out.s6 hbd
      have hkf := (HKW.out.fresh HK1.out (fun i hi => by have := HW.out; cases hi; omega)).fresh hkd (fun i hi => by have h1 := HW.out; have h2 := HG2.out; cases hi; omega)
      refine bodyPost_ret (res_cell0 Try.results6 rfl hD.all Try.underlying33 rfl (infDh _ HFB.out.s6 _ _)) rfl ?_
      have h1 := HW.out
      have h2 := HG2.out
      have h3 := HG1.out
      have h4 := HW4.out
      have e := HF.out
      clear HF
      subst e
      have h5 := Lib.hid (fun i (hi : (D i ∧ i < g1) ∨ w1.heap.size ≤ i) => (show D i ∨ w.heap.size ≤ i from by rcases hi with ⟨hi, _⟩ | hi; exact .inl hi; exact .inr (by omega)))
      refine ⟨_, _, rfl, ⟨HFB.out, ⟨_, _, _, rfl, ?_⟩, ⟨_, _, _, rfl, (HB8.out.kept HK1.out (fun i hi hf => by have h := HLB.out i hi; cases hf; rcases h with ⟨_, h⟩ | h <;> omega)).kept hkd (fun i hi hf => by have h := HLB.out i hi; cases hf; rcases h with ⟨_, h⟩ | h <;> omega), fun i hi => h5.out i (HLB.out i hi)⟩⟩, hkf⟩
      exact ((HOP.out.kept HK1.out (fun i hi hf => by cases hf; rcases hi with ⟨⟨_, hi⟩ | hi, _⟩ | hi <;> omega)).kept hkd (fun i hi hf => by cases hf; rcases hi with ⟨⟨_, hi⟩ | hi, _⟩ | hi <;> omega)).mono (fun i hi => by rcases hi with ⟨hi, _⟩ | hi; exact h5.out i hi; exact .inr (by omega))

end Go.Proofs.Ythjfeanmgaidcaa
