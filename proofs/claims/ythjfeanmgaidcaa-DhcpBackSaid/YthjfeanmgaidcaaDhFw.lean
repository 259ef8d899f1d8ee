/- tolllaw09: contract of few. -/
import Derived.Test.YthjfeanmgaidcaaMg13
import Derived.Test.YthjfeanmgaidcaaMg14
import Derived.Test.YthjfeanmgaidcaaMg16
namespace Go.Proofs.Ythjfeanmgaidcaa
open Go.RowKit Go.Sort
set_option linter.unusedVariables false

def fewO (o : Opn) : Opn := (o.1, o.2.take 300)
def fewD (h : Dh) : Dh := { h with os := (h.os.take 12).map fewO, bh := h.bh.take 40 }
theorem fewD_ok {h : Dh} (k : h.ok) : (fewD h).ok := ⟨⟨k.st, k.pd, k.sv, k.fi⟩, k.xi, k.se, k.fl, k.ci, k.yo, k.ne, k.re⟩
theorem minB (b n : Nat) : ∃ m : Nat, (if (b : Int) < (n : Int) then (b : Int) else (n : Int)) = (m : Int) ∧ min (n : Int) (b : Int) = (m : Int) ∧ m ≤ n ∧ m ≤ b ∧ m = min b n := ⟨min b n, by split <;> omega, by omega, by omega, by omega, rfl⟩
theorem take_min {α : Type} (l : List α) (b n m : Nat) (h : l.length = n) (hm : m = min b n) : l.take m = l.take b := by
  subst h hm
  rcases Nat.le_total b l.length with h | h
  · rw [Nat.min_eq_left h]
  · rw [Nat.min_eq_right h, List.take_of_length_le (Nat.le_refl _), List.take_of_length_le h]
theorem infOpt' : (Try.prog.info? 47).map (fun i => (i.zero, i.size, i.bytes)) = some (some (.agg #[.int .u8 0, .slice none 0 0]), 2, 32) := by kernel_rfl
theorem fa_d13 (g : Nat) (u : World) : (Instr.fieldAt 33 (pAt g 0) 13).run Try.prog u = .ok (pAt g 217) u := by kernel_rfl
theorem fa_d14 (g : Nat) (u : World) : (Instr.fieldAt 33 (pAt g 0) 14).run Try.prog u = .ok (pAt g 218) u := by kernel_rfl
theorem ln_c (A : Option Addr) (n c : Nat) (ty : TypeId) (u : World) : (Builtin.len_ #[31] ty #[.slice A n c]).run Try.prog u = .ok (.int .i64 (n : Int)) u := by
  simp [Builtin.len_, Builtin.lenOf, run_underlying Try.underlying31, goInt]
theorem mn_c (n b m : Nat) (ty : TypeId) (u : World) (h : (if (b : Int) < (n : Int) then (b : Int) else (n : Int)) = (m : Int)) : (Builtin.min_ #[3, 3] ty #[.int .i64 (n : Int), .int .i64 (b : Int)]).run Try.prog u = .ok (.int .i64 (m : Int)) u := by
  rw [← h]
  simp [Builtin.min_, Builtin.min2]
theorem infBs : (Try.prog.info? 31).map (·.size) = some 1 := by kernel_rfl
theorem infOs : (Try.prog.info? 30).map (·.size) = some 1 := by kernel_rfl
/-- What stands while the message's slices are cut. -/
def fwK (w : World) (g1 : Nat) (h : Dh) (u : World) : Prop := Kept (One g1) w u ∧ ∃ A n c B m d, DB u g1 33 h (.slice A n c) (.slice B m d)
set_option maxRecDepth 100000 in
set_option maxHeartbeats 16000000 in
theorem few_yes (D : Nat → Prop) (h : Dh) (vo vb : Value) (w : World) (hI : DhIn D w h vo vb) : Calls Try.prog 21 #[dhv h vo vb] w fun e w' => ∃ vo' vb', e = .returned (dhv (fewD h) vo' vb') ∧ DhIn (fun j => D j ∨ w.heap.size ≤ j) w' (fewD h) vo' vb' ∧ Kept Nil w w' := by
  have hP := DB.new w 33 h vo vb
  have hk := (Kept.refl Nil w).alloc (.cells (dcs h vo vb).toArray 33)
  obtain ⟨j0, ji, jz0, jz1, jz2⟩ := info_parts infOpt'
  go_enter Try.func21, Try.ntmps21
  go_upto_region 1 with (first | (refine wpList_al rfl 33 rfl (dcs Dh.zero nilv nilv) al_dh ?_; intro w1 hb1 hk1 hz1'; clear hz1') | fail)
  replace hb1 : Blo w1 (w.alloc (.cells (dcs h vo vb).toArray 33)).heap.size 33 (dcs Dh.zero nilv nilv).toArray := hb1
  replace hk1 : Kept Nil (w.alloc (.cells (dcs h vo vb).toArray 33)) w1 := hk1
  have HP := Lib.hid (hP.kept hk1 (fun hf => hf))
  have HK := Lib.hid (hk.then hk1)
  have HOK := Lib.hid hI.ok
  have HR1 := Lib.hid (show DB w1 (w.alloc (.cells (dcs h vo vb).toArray 33)).heap.size 33 Dh.zero nilv nilv from hb1)
  have hsz : (w.alloc (.cells (dcs h vo vb).toArray 33)).heap.size = w.heap.size + 1 := by simp
  rw [hsz] at HR1
  have HG1 := Lib.hid (show w.heap.size + 1 < w1.heap.size from HR1.out.lt)
  obtain ⟨A, n, c, rfl, hO⟩ := hI.o
  obtain ⟨B, m, d, rfl, hb, hlb⟩ := hI.b
  have HO := Lib.hid hO.bounded
  have HOL := Lib.hid hO.len
  have hnc := hO.lt.1
  have hcc := hO.lt.2
  have HB := Lib.hid hb
  have HLB := Lib.hid hlb
  simp only [Act.put, List.setIfInBounds_toArray, List.set_cons_succ, List.set_cons_zero]
  simp only [World.size_alloc]
  obtain ⟨g1, hg1⟩ : ∃ g, w.heap.size = g := ⟨_, rfl⟩
  have HW := Lib.hid (show w.heap.size ≤ g1 by omega)
  rw [hg1] at HP HR1 HG1 ⊢
  obtain ⟨g2, hg2⟩ : ∃ g, g1 + 1 = g := ⟨_, rfl⟩
  have HG2 := Lib.hid (show g1 < g2 by omega)
  rw [hg2] at HR1 HG1 ⊢
  have y217 := HP.out.co HOK.out.s6
  clear hP hk hI hb1 hk1 hsz hg1 hg2 hO hb hlb
  go_wp2
  go_loopw [3, 9] (fun v i wr => ∃ (k : Nat) (vv : Value), vv = v ∧ k ≤ n ∧ i = .int .i64 (k : Int) ∧ OwnO w1.heap.size (fun j => D j ∧ j < w.heap.size) .u8 wr 47 vv ((h.os.take (min k 12)).map fewO) ∧ Kept Nil w1 wr) (fun _ i _ => n - (intOf i).toNat)
  case atStart => exact ⟨0, _, rfl, Nat.zero_le _, rfl, OwnO.nil _ _ _ _ _, Kept.refl _ _⟩
  case round =>
    clear y217
    obtain ⟨k, vv, rfl, hk, rfl, hown, hkp⟩ := hrel
    have HOW := Lib.hid hown
    have HKR := Lib.hid hkp
    have HKW := Lib.hid (HK.out.then hkp)
    clear hown hkp
    by_cases hlt : k < n
    · have hkl : k < h.os.length := by rw [HOL.out]; exact hlt
      obtain ⟨b, o, A', na, c', rfl, hrow, hby, hlv⟩ := (HO.out.kept HKW.out (fun _ _ hf => hf)).at hkl
      have q0 := hrow 0 _ rfl
      have q1 := hrow 1 _ rfl
      rw [Nat.add_zero] at q0
      have HTK := Lib.hid (show k < 12 → (h.os.take (min (k + 1) 12)).map fewO = (h.os.take (min k 12)).map fewO ++ [fewO h.os[k]] from fun h12 => by
        rw [Nat.min_eq_left (by omega), Nat.min_eq_left (by omega), List.take_succ_eq_append_getElem hkl, List.map_append]
        rfl)
      have HLV := Lib.hid (fun j (hj : Lies A' na j) => hlv j hj)
      generalize h.os[k] = op at *
      obtain ⟨oc, ov⟩ := op
      simp only at q0
      have HBY := Lib.hid (show Byt wr A' na c' ov from hby)
      clear hrow hby hlv
      by_cases h12 : k < 12
      · have i12 : (k : Int) < 12 := by omega
        obtain ⟨ma, ma1, ma2, ma3, ma4, ma5⟩ := minB 300 na
        replace ma1 : (if (300 : Int) < (na : Int) then (300 : Int) else (na : Int)) = (ma : Int) := ma1
        replace ma2 : min (na : Int) (300 : Int) = (ma : Int) := ma2
        have hcut := run_cut_hi (P := Try.prog) Try.underlying31 inf5.1 A' na c' ma (ma : Int) rfl (Nat.le_trans ma3 HBY.out.2.1)
        have HTN := Lib.hid (HTK.out h12)
        have HLK := Lib.hid (show ((h.os.take (min k 12)).map fewO).length = k by rw [List.length_map, List.length_take]; omega)
        have HPR := Lib.hid (show Byt wr A' ma c' (ov.take 300) from by rw [← take_min ov 300 na ma HBY.out.1 ma5]; exact HBY.out.pre ma3)
        have hba := Blo.new wr 47 #[.int .u8 (oc.toNat : Int), .slice A' na c']
        have hka := (Kept.refl Nil wr).alloc (.cells #[.int .u8 (oc.toNat : Int), .slice A' na c'] 47)
        clear h12 HTK ma5
        go_upto_region 6 with (fail)
        refine wp_nameE (fun X => Blo X wr.heap.size 47 #[.int .u8 (oc.toNat : Int), .slice A' na c'] ∧ Kept Nil wr X) ⟨hba, hka⟩ ?_
        clear hba hka
        rintro wa ⟨hba, hka⟩
        have HBA := Lib.hid hba
        have HKA := Lib.hid (HKR.out.then hka)
        have HOA := Lib.hid (HOW.out.nilk hka)
        have HPA := Lib.hid (HPR.out.kept hka (fun _ _ hf => hf))
        obtain ⟨ga, hga⟩ : ∃ g, wr.heap.size = g := ⟨_, rfl⟩
        rw [hga] at HBA ⊢
        obtain ⟨Aw, cw, rfl⟩ := HOA.out.form
        rw [HLK.out] at HOA ⊢
        clear hba hka hga HOW HPR q0 q1 HBY
        refine wp_region_acts Nil [] (fun i vl => (#[.int .u8 (oc.toNat : Int), .slice A' ma c'], 47)) (fun i => if i = 7 then .int .i64 (na : Int) else .int .i64 (ma : Int)) (fun _ _ _ => True) (fun _ _ => True) 12 (by kernel_rfl) (by kernel_rfl) ⟨fun _ _ _ _ h _ => h, fun _ _ _ _ h => h⟩ trivial ?_
        simp only [List.take_succ_cons, List.take_zero, List.drop_succ_cons, List.drop_zero]
        refine tLex_quiets 11 rfl (by kernel_rfl) ?_
        simp only [List.take_succ_cons, List.take_zero, List.drop_succ_cons, List.drop_zero]
        apply Exists.intro
        refine ⟨?hq1, ?hv1, ?ht1⟩
        case hq1 =>
          intro V hV
          have hbv := HBA.out.kept hV (fun hf => hf)
          have c0 := hbv.gcell 0
          have c1 := hbv.gcell 1
          simp at c0 c1
          clear hV hbv
          have ma1 := ma1
          repeat (go_big_quiet_step (fail))
          exact wpQuiet_nil rfl
        case hv1 => exact ⟨trivial, trivial, trivial, trivial, trivial, trivial, trivial, rfl, rfl, trivial, trivial, trivial⟩
        case ht1 =>
          refine tLex_make (#[.int .u8 (oc.toNat : Int), .slice A' ma c'], 47) rfl rfl rfl rfl (fun u => ?hm1) ?_
          case hm1 => simp [execOp, mkVal, Instr.buildSlice, go_sem]
          intro gq hgq hLq
          simp only [Act.put, mkVal, List.setIfInBounds_toArray, List.set_cons_succ, List.set_cons_zero]
          intro w6 hs
          have hbq : Blo w6 gq 47 #[.int .u8 (oc.toNat : Int), .slice A' ma c'] := (hs.made gq _ (mput_same _ _ _)).2
          have hk6 : Kept Nil wa w6 := hs.kept
          have HO6 := Lib.hid (HOA.out.nilk hk6)
          have HP6 := Lib.hid (HPA.out.kept hk6 (fun _ _ hf => hf))
          have HK6 := Lib.hid (HKA.out.then hk6)
          obtain ⟨rs, g1', g2', g3', g4'⟩ := HO6.out
          rw [HLK.out] at g1' g2'
          have HS1 := Lib.hid g1'
          have HS2 := Lib.hid g2'
          have HS3 := Lib.hid g3'
          have HS4 := Lib.hid g4'
          have HSR := Lib.hid (rws_blo (s := 2) [[.int .u8 (oc.toNat : Int), .slice A' ma c']] (by simp) (by simp) hbq rfl 1 rfl)
          have HWS := Lib.hid (show w1.heap.size ≤ w6.heap.size from HK6.out.size)
          have HWW := Lib.hid (show w.heap.size ≤ w1.heap.size from HK.out.size)
          clear hbq hk6 hs hgq hLq HOA HPA HKA g1' g2' g3' g4'
          go_wp2_with (at_builtin; refine wpList_appR rfl _ _ 30 rfl 2 w1.heap.size 47 32 j0 (.agg #[.int .u8 0, .slice none 0 0]) Try.underlying30 ji jz0 jz1 jz2 rfl (by decide) _ _ _ rfl HS1.out _ 1 1 [[.int .u8 (oc.toNat : Int), .slice A' ma c']] rfl HSR.out (by intro u hu; simp at hu; rcases hu with rfl | rfl <;> rfl) (by unfold maxLen; omega) (by omega) HWS.out ?_; intro v' wc hown hgr hor; clear hor)
          have hkc : Kept (fun j => w1.heap.size ≤ j) w6 wc := (Kept.refl _ w6).grown hgr (fun j hj _ => own_ge1 HS1.out j hj)
          have hfar : ∀ i, i < w.heap.size → ¬ w1.heap.size ≤ i := fun i hi hf => by have := HWW.out; omega
          have HOC := Lib.hid (show OwnO w1.heap.size (fun j => D j ∧ j < w.heap.size) .u8 wc 47 v' ((h.os.take (min (k + 1) 12)).map fewO) from by
            rw [HTN.out]
            refine OwnO.snoc (o := fewO (oc, ov)) (r := [.int .u8 (oc.toNat : Int), .slice A' ma c']) rfl rs (by rw [HLK.out]; exact HS2.out) HS3.out (fun i r o hr ho => (HS4.out i r o hr ho).kept hkc (fun j hj => hfar j hj.2)) ⟨A', ma, c', rfl, HP6.out.kept hkc (fun i hi => hfar i (HLV.out i ⟨by have := hi.1; omega, hi.2⟩).2), fun i hi => HLV.out i ⟨by have := hi.1; omega, hi.2⟩⟩ ?_
            rw [HLK.out]
            exact hown)
          have HKC := Lib.hid (HK6.out.trans (F := Nil) hkc (fun i hi hf => absurd hf (by omega)))
          clear hown hgr hkc hfar HO6 HP6 HK6 HS1 HS2 HS3 HS4 HSR
          go_wp2
          go_roundw
          case rel => exact ⟨k + 1, _, rfl, by omega, by go_num, HOC.out, HKC.out⟩
          case measure => simp [intOf]; omega
      · have i12 : ¬ (k : Int) < 12 := by omega
        have HTN := Lib.hid (show min (k + 1) 12 = min k 12 by omega)
        clear h12 HTK
        go_wp2
        go_roundw
        case rel => exact ⟨k + 1, _, rfl, by omega, by go_num, by rw [HTN.out]; exact HOW.out.nilk ((Kept.refl Nil wr).alloc _), HKR.out.alloc _⟩
        case measure => simp [intOf]; omega
    · obtain rfl : k = n := by omega
      have ek : h.os.take (min k 12) = h.os.take 12 := take_min h.os 12 k _ HOL.out (Nat.min_comm _ _)
      rw [ek] at HOW
      clear ek hlt
      obtain ⟨Av, cv, rfl, hop⟩ := HOW.out.opts
      have HOP := Lib.hid hop
      obtain ⟨ka, hka⟩ : ∃ x, ((h.os.take 12).map fewO).length = x := ⟨_, rfl⟩
      rw [hka] at HOP ⊢
      obtain ⟨mb, mb1, mb2, mb3, mb4, mb5⟩ := minB 40 m
      have HM1 := Lib.hid mb1
      have HWW2 := Lib.hid (show w.heap.size ≤ w1.heap.size from HK.out.size)
      have HMB := Lib.hid mb3
      have HS1 := Lib.hid (run_cut_hi (P := Try.prog) Try.underlying31 inf5.1 B m d mb (mb : Int) rfl (Nat.le_trans mb3 HB.out.2.1))
      have HBP := Lib.hid (show Byt w B mb d (h.bh.take 40) from by rw [← take_min h.bh 40 m mb HB.out.1 mb5]; exact HB.out.pre mb3)
      have HP8 := Lib.hid (HP.out.kept HKR.out (fun hf => hf))
      have HR8 := Lib.hid (HR1.out.kept HKR.out (fun hf => hf))
      have HFO := Lib.hid (fewD_ok HOK.out)
      clear hop hka mb1 mb2 mb3 mb4 mb5 HOW HR1 HP
      go_upto_region 8 with (fail)
      refine wp_nameC2 fun A0 hA0 => ?_
      have HSZ : A0.tmps.size = 41 := by rw [hA0]; rfl
      have am : A0.eval (.tmp 3) = .slice Av ka cv := by rw [hA0]; rfl
      have a1 : A0.tmps.getD 1 undef = pAt g1 0 := by rw [hA0]; rfl
      have HA0 := Lib.hid hA0
      clear hA0
      refine wp_region_posts 41 (cI [30, 31, 32, 33, 34, 35, 36, 37, 38, 39] 3 (.slice Av ka cv) (.slice Av ka cv) (fwK wr g1 h) A0) (cR [(fun v => v = .slice Av ka cv), (fun v => v = pAt g1 218), (fun v => v = .slice B m d), (fun v => v = pAt g1 218), (fun v => v = .slice B m d), (fun v => v = .int .i64 (m : Int)), (fun v => v = .int .i64 (mb : Int)), (fun v => v = .slice B mb d), (fun v => v = pAt g1 217), (fun v => v = undef), (fun v => v = pAt g1 218), (fun v => v = undef)] [⟨9, g1, 217, .slice A k c, .slice Av ka cv⟩, ⟨11, g1, 218, .slice B m d, .slice B mb d⟩]) (cU [⟨9, g1, 217, .slice A k c, .slice Av ka cv⟩, ⟨11, g1, 218, .slice B m d, .slice B mb d⟩]) (by kernel_rfl) (by kernel_rfl) (fun a u h => h.size.trans HSZ) (fun u hu => ⟨⟨rfl, rfl, fun _ _ => rfl, .inl am, hu.nil, ⟨_, _, _, _, _, _, HP8.out.kept hu (fun hf => hf)⟩⟩, fun j e he _ => by
        simp only [List.mem_cons, List.not_mem_nil, or_false] at he
        rcases he with rfl | rfl
        · exact (HP8.out.kept hu (fun hf => hf)).co HOK.out.s6
        · exact (HP8.out.kept hu (fun hf => hf)).cb HOK.out.s6
        ⟩) ?_ ?_
      · refine ⟨?_, ?_, ?_, ?_, ?_, ?_, ?_, ?_, ?_, ?_, ?_, ?_, trivial⟩
        · intro a u hI hp hU
          exact c_pure hI (.slice Av ka cv) (exec_mv2 _ rfl (hI.mv.elim id id)) 30 rfl (by rfl) (by rfl) rfl (by rfl)
        · intro a u hI hp hU
          have e0 : a.eval (.tmp 1) = pAt g1 0 := (hI.fr 1 (by decide)).trans a1
          exact c_pure hI (pAt g1 218) (exec_fa _ _ _ rfl e0 (fa_d14 _ _)) 31 rfl (by rfl) (by rfl) rfl (by rfl)
        · intro a u hI hp hU
          exact c_pure hI (.slice B m d) (exec_ld1 _ _ _ rfl (got hp ⟨1, .data⟩ (by simp) rfl 31 rfl).1 (c_old hU _ rfl ⟨⟨2, .phase⟩, by simp, rfl, rfl⟩ ⟨11, g1, 218, .slice B m d, .slice B mb d⟩ (by simp) rfl) Try.underlying31) 32 rfl (by rfl) (by rfl) rfl (by rfl)
        · intro a u hI hp hU
          have e0 : a.eval (.tmp 1) = pAt g1 0 := (hI.fr 1 (by decide)).trans a1
          exact c_pure hI (pAt g1 218) (exec_fa _ _ _ rfl e0 (fa_d14 _ _)) 33 rfl (by rfl) (by rfl) rfl (by rfl)
        · intro a u hI hp hU
          exact c_pure hI (.slice B m d) (exec_ld1 _ _ _ rfl (got hp ⟨3, .data⟩ (by simp) rfl 33 rfl).1 (c_old hU _ rfl ⟨⟨4, .phase⟩, by simp, rfl, rfl⟩ ⟨11, g1, 218, .slice B m d, .slice B mb d⟩ (by simp) rfl) Try.underlying31) 34 rfl (by rfl) (by rfl) rfl (by rfl)
        · intro a u hI hp hU
          exact c_pure hI (.int .i64 (m : Int)) (exec_len _ _ rfl (got hp ⟨4, .data⟩ (by simp) rfl 34 rfl).1 (ln_c _ _ _ _ _)) 35 rfl (by rfl) (by rfl) rfl (by rfl)
        · intro a u hI hp hU
          exact c_pure hI (.int .i64 (mb : Int)) (exec_min _ _ _ _ rfl (got hp ⟨5, .data⟩ (by simp) rfl 35 rfl).1 rfl (mn_c _ _ _ _ _ HM1.out)) 36 rfl (by rfl) (by rfl) rfl (by rfl)
        · intro a u hI hp hU
          exact c_pure hI (.slice B mb d) (exec_cut _ _ _ rfl Try.underlying31 (got hp ⟨2, .data⟩ (by simp) rfl 32 rfl).1 (got hp ⟨6, .data⟩ (by simp) rfl 36 rfl).1 (HS1.out u)) 37 rfl (by rfl) (by rfl) rfl (by rfl)
        · intro a u hI hp hU
          have e0 : a.eval (.tmp 1) = pAt g1 0 := (hI.fr 1 (by decide)).trans a1
          exact c_pure hI (pAt g1 217) (exec_fa _ _ _ rfl e0 (fa_d13 _ _)) 38 rfl (by rfl) (by rfl) rfl (by rfl)
        · intro a u hI hp hU
          obtain ⟨hk1, ⟨A2, n2, c2, B2, m2, d2, hb⟩⟩ := hI.inv
          refine c_st hI _ _ _ rfl rfl (got hp ⟨8, .data⟩ (by simp) rfl 38 rfl).1 (got hp ⟨0, .data⟩ (by simp) rfl 30 rfl).1 rfl rfl infOs hb (by rw [dcs_len HOK.out.s6]; decide) ?_ rfl fun u' hbl hk hz => ?_
          · intro e he
            simp only [List.mem_cons, List.not_mem_nil, or_false] at he
            rcases he with rfl | rfl
            · exact .inl ⟨rfl, rfl, rfl, rfl⟩
            · exact .inr ⟨by show (11 : Nat) ≠ 9; decide, .inr (by show (217 : Nat) ≠ 218; decide)⟩
          · exact ⟨hk1.trans hk (fun _ _ hf => hf), ⟨Av, ka, cv, B2, m2, d2, DB.set_e (.slice Av ka cv) (.inl ⟨rfl, rfl, rfl⟩) HOK.out.s6 hbl⟩⟩
        · intro a u hI hp hU
          have e0 : a.eval (.tmp 1) = pAt g1 0 := (hI.fr 1 (by decide)).trans a1
          exact c_pure hI (pAt g1 218) (exec_fa _ _ _ rfl e0 (fa_d14 _ _)) 39 rfl (by rfl) (by rfl) rfl (by rfl)
        · intro a u hI hp hU
          obtain ⟨hk1, ⟨A2, n2, c2, B2, m2, d2, hb⟩⟩ := hI.inv
          refine c_st hI _ _ _ rfl rfl (got hp ⟨10, .data⟩ (by simp) rfl 39 rfl).1 (got hp ⟨7, .data⟩ (by simp) rfl 37 rfl).1 rfl rfl infBs hb (by rw [dcs_len HOK.out.s6]; decide) ?_ rfl fun u' hbl hk hz => ?_
          · intro e he
            simp only [List.mem_cons, List.not_mem_nil, or_false] at he
            rcases he with rfl | rfl
            · exact .inr ⟨by show (9 : Nat) ≠ 11; decide, .inr (by show (218 : Nat) ≠ 217; decide)⟩
            · exact .inl ⟨rfl, rfl, rfl, rfl⟩
          · exact ⟨hk1.trans hk (fun _ _ hf => hf), ⟨A2, n2, c2, B, mb, d, DB.set_e (.slice B mb d) (.inr ⟨rfl, rfl, rfl⟩) HOK.out.s6 hbl⟩⟩
      · intro a u hI hR
        obtain ⟨hk1, ⟨A2, n2, c2, B2, m2, d2, hb⟩⟩ := hI.inv
        have z9 := (hR 9 _ rfl).2 ⟨9, g1, 217, .slice A k c, .slice Av ka cv⟩ (by simp) rfl
        dsimp only at z9
        rw [hb.co HOK.out.s6] at z9
        injection z9 with z9
        injection z9 with y1 y2 y3
        replace y1 := y1.symm
        replace y2 := y2.symm
        replace y3 := y3.symm
        subst y1 y2 y3
        have z11 := (hR 11 _ rfl).2 ⟨11, g1, 218, .slice B m d, .slice B mb d⟩ (by simp) rfl
        dsimp only at z11
        rw [hb.cb HOK.out.s6] at z11
        injection z11 with z11
        injection z11 with y1 y2 y3
        replace y1 := y1.symm
        replace y2 := y2.symm
        replace y3 := y3.symm
        subst y1 y2 y3
        have e30 : a.tmps.getD 30 undef = .slice Av ka cv := (hR 0 _ rfl).1
        have e31 : a.tmps.getD 31 undef = pAt g1 218 := (hR 1 _ rfl).1
        have e32 : a.tmps.getD 32 undef = .slice B m d := (hR 2 _ rfl).1
        have e33 : a.tmps.getD 33 undef = pAt g1 218 := (hR 3 _ rfl).1
        have e34 : a.tmps.getD 34 undef = .slice B m d := (hR 4 _ rfl).1
        have e35 : a.tmps.getD 35 undef = .int .i64 (m : Int) := (hR 5 _ rfl).1
        have e36 : a.tmps.getD 36 undef = .int .i64 (mb : Int) := (hR 6 _ rfl).1
        have e37 : a.tmps.getD 37 undef = .slice B mb d := (hR 7 _ rfl).1
        have e38 : a.tmps.getD 38 undef = pAt g1 217 := (hR 8 _ rfl).1
        have e39 : a.tmps.getD 39 undef = pAt g1 218 := (hR 10 _ rfl).1
        have ha := act_eq a A0 [(30, .slice Av ka cv), (31, pAt g1 218), (32, .slice B m d), (33, pAt g1 218), (34, .slice B m d), (35, .int .i64 (m : Int)), (36, .int .i64 (mb : Int)), (37, .slice B mb d), (38, pAt g1 217), (39, pAt g1 218)] hI.size hI.defs (show ([30, 31, 32, 33, 34, 35, 36, 37, 38, 39] : List Nat).Nodup by decide) (fun p hp => by
          rw [HSZ]
          have h1 : p.1 ∈ [30, 31, 32, 33, 34, 35, 36, 37, 38, 39] := List.mem_map_of_mem (f := Prod.fst) hp
          simp at h1
          omega) (fun p hp => by
          simp only [List.mem_cons, List.not_mem_nil, or_false] at hp
          rcases hp with rfl | rfl | rfl | rfl | rfl | rfl | rfl | rfl | rfl | rfl
          · exact e30
          · exact e31
          · exact e32
          · exact e33
          · exact e34
          · exact e35
          · exact e36
          · exact e37
          · exact e38
          · exact e39
          ) (fun d hd => hI.fr d hd)
        have HBF := Lib.hid (show DB u g1 33 (fewD h) (.slice Av ka cv) (.slice B mb d) from hb)
        have HRF := Lib.hid (HR8.out.kept hk1 (fun hf => by have := HG2.out; cases hf; omega))
        have HK1 := Lib.hid hk1
        clear hI hR hb hk1 e30 e31 e32 e33 e34 e35 e36 e37 e38 e39 HS1 HM1 HP8 HR8 HSZ a1
        subst ha
        have hA := HA0.out
        clear HA0 am
        subst hA
        unfold pAt
        simp only [List.foldl_cons, List.foldl_nil, Act.put, List.setIfInBounds_toArray, List.set_cons_succ, List.set_cons_zero]
        go_wp2_with (first
          | (refine wpList_ld rfl _ _ rfl g1 0 rfl (dcs (fewD h) (.slice Av ka cv) (.slice B mb d)) HBF.out.all _ Try.underlying33 rfl (infDh _ HFO.out.s6 _ _) ?_; simp only [Act.put, List.setIfInBounds_toArray, List.set_cons_succ, List.set_cons_zero])
          | (refine wpList_st rfl _ (.tmp 2) _ rfl g2 0 rfl (dcs (fewD h) (.slice Av ka cv) (.slice B mb d)) _ rfl rfl (infDh _ HFO.out.s6 _ _) 33 _ HRF.out (by rw [dcs_len HFO.out.s6, dcs_len Dh.zero_ok.s6]; decide) (dcs_one rfl rfl) ?_; intro wd hbd hkd hzd; clear hzd; simp only [Act.put, List.setIfInBounds_toArray, List.set_cons_succ, List.set_cons_zero])
          | fail)
        have hD := DB.of_all Dh.zero_ok.s6 HFO.out.s6 hbd
        have hkf := (HKW.out.fresh HK1.out (fun i hi => by have := HW.out; cases hi; omega)).fresh hkd (fun i hi => by have h1 := HW.out; have h2 := HG2.out; cases hi; omega)
        refine bodyPost_ret (res_cell0 Try.results21 rfl hD.all Try.underlying33 rfl (infDh _ HFO.out.s6 _ _)) rfl ?_
        refine ⟨_, _, rfl, ⟨HFO.out, ⟨_, _, _, rfl, ?_⟩, ⟨_, _, _, rfl, HBP.out.kept hkf (fun _ _ hf => hf), fun i hi => .inl (HLB.out i ⟨by have := hi.1; have := HMB.out; omega, hi.2⟩)⟩⟩, hkf⟩
        have h1 := HW.out
        have h2 := HG2.out
        have h3 := HG1.out
        exact ((HOP.out.kept HK1.out (fun i hi hf => by cases hf; rcases hi with ⟨_, hi⟩ | hi <;> omega)).kept hkd (fun i hi hf => by cases hf; rcases hi with ⟨_, hi⟩ | hi <;> omega)).mono (fun i hi => by rcases hi with ⟨hi, _⟩ | hi; exact .inl hi; exact .inr (by have := HWW2.out; omega))
end Go.Proofs.Ythjfeanmgaidcaa
