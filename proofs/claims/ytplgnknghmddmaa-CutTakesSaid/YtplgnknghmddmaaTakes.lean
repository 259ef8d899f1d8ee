/- tolllaw01.CutTakes: the walk. -/
import Derived.Test.YtplgnknghmddmaaActs
import Derived.Test.YtplgnknghmddmaaStays
import Derived.Deep.DeepCutAuto
import Derived.Deep.CutRange
import Derived.Deep.CutBlock
namespace Go.Proofs.Ytplgnknghmddmaa
open Go.RowKit
set_option linter.unusedVariables false

theorem quiet_eq {P : Program} {f : FuncId} {args : Array Value} {w : World} {n : Nat} {v : Value}
    (h : Calls P f args (w.drewN n) fun e w' => e = .returned v ∧ w.drewN n = w') : Calls P f args (w.drewN n) fun e w'' => e = .returned v ∧ ∃ m, w'' = w.drewN m :=
  h.mono fun _ _ ⟨he, hm⟩ => ⟨he, n, hm.symm⟩
set_option maxRecDepth 100000 in
set_option maxHeartbeats 4000000 in
theorem takes_all (A : Option Addr) (n c : Nat) (l : List UInt8) (A2 : Option Addr) (n2 c2 : Nat) (ts : List AcD) (w : World) (h : Byt w A n c l) (h2 : Acts w A2 n2 c2 ts) :
    Calls Try.prog 3 #[.slice A n c, .slice A2 n2 c2] w fun e w' => e = .returned (.bool true) ∧ Below w.heap.size w w' := by
  have hnc := h.2.1
  have hcc := h.2.2.1
  have hn2 := h2.2.1
  have hc2 := h2.2.2.1
  obtain ⟨pm, hmin, hpm, hp3⟩ : ∃ pm : Nat, (if (300 : Int) < (n : Int) then (300 : Int) else (n : Int)) = (pm : Int) ∧ pm ≤ n ∧ pm ≤ 300 := ⟨min n 300, by split <;> omega, by omega, by omega⟩
  have hslp := run_cut_hi (P := Try.prog) Try.underlying22 inf5.1 A n c pm (pm : Int) rfl (by omega)
  have hb := h.pre hpm
  have hbl := hb.lt
  have HB := Lib.hid hb
  have HBL := Lib.hid hbl
  have HA := Lib.hid h2
  have HL := Lib.hid h2.1
  clear h h2 hb hbl
  go_enter Try.func3, Try.ntmps3
  go_wp2_with fail
  refine (bclone A pm c _ _ HB.out (by omega)).mono ?_
  rintro e w1 ⟨v1, rfl, hm1⟩
  obtain ⟨ho1, hk1⟩ := hm1
  rw [show (l.take pm).length = pm from HB.out.1] at ho1
  obtain ⟨A1, d1, rfl, hb1, hl1⟩ := Byt.of_own ho1
  have HO1 := Lib.hid ho1
  have HL1 := Lib.hid hl1
  have HK1 := Lib.hid hk1
  clear ho1 hk1 hl1
  go_wp2_with fail
  refine (new_yes A1 pm d1 _ _ hb1 (by omega)).mono ?_
  rintro e w2 ⟨g, A3, c3, rfl, hc3, hk3, hg3, hl3⟩
  have HC3 := Lib.hid hc3
  have HK3 := Lib.hid hk3
  have HL3 := Lib.hid hl3
  have hd1 := hb1.2.1
  have hd2 := hb1.2.2.1
  clear hc3 hk3 hl3 hb1 hmin hslp
  go_wp2
  obtain ⟨g2, hg2⟩ : ∃ g2, g2 = w2.heap.size := ⟨_, rfl⟩
  rw [← hg2]
  have HG2 := Lib.hid hg2
  have hB0 : Both w (w2.alloc (.cells #[.slice A pm c, .int .i64 0, .int .i64 0] 29)) g A3 pm c3 ⟨l.take pm, 0, 0⟩ g2 A c ⟨l.take pm, 0, 0⟩ := by
    have hs1 := HK1.out.size
    have hs3 := HK3.out.size
    have hgl := HC3.out.blo.lt
    refine ⟨HC3.out.kept ((Kept.refl Nil w2).alloc _) (fun hf => hf) (fun _ _ hf => hf), ⟨?_, HB.out.kept ((HK1.out.then HK3.out).alloc _) (fun _ _ hf => hf), Nat.zero_le _, fun i hi => ?_⟩, by omega, by omega, by omega, fun i hi => ?_, HBL.out, (HK1.out.then HK3.out).alloc _⟩
    · rw [hg2]; exact Blo.new w2 _ _
    · have := HBL.out i hi; omega
    · have := HC3.out.byt.lt i hi; omega
  have HBO := Lib.hid hB0
  have HO2 := Lib.hid (own_kept HO1.out ((HK3.out).alloc (.cells #[.slice A pm c, .int .i64 0, .int .i64 0] 29)) (fun _ _ hf => hf))
  have hw1 : w1.heap.size ≤ g2 := by rw [hg2]; exact HK3.out.size
  have hg2g : g ≠ g2 := hB0.ne
  clear hB0 hg2
  go_loopw [26] (fun i wr => ∃ (k : Nat) (zs : List Int), k ≤ pm ∧ i = .int .i64 k ∧ wr.ownsRow w.heap.size 5 1 (.slice A1 pm d1) pm (zs.map (Value.int .u8)) ∧ Both w wr g A3 pm c3 ⟨l.take pm, 0, 0⟩ g2 A c ⟨l.take pm, 0, 0⟩) (fun i _ => pm - (intOf i).toNat)
  case atStart => exact ⟨0, (l.take pm).map (fun b => (b.toNat : Int)), Nat.zero_le _, rfl, by have := HO2.out; rw [List.map_map]; exact this, HBO.out⟩
  case round =>
    obtain ⟨k, zs, hk, rfl, ho, hbo⟩ := hrel
    by_cases hlt : k < pm
    · obtain ⟨b, hA, hbw, hbl, z, hce, hfz, hput⟩ := own_put ho hlt
      have hb1 : b < w1.heap.size := by
        have := (HO1.out.lt b (by rw [hA]; rfl)).2
        exact this
      subst hA
      have HP := Lib.hid hput
      have HBB := Lib.hid hbo
      clear ho hbo hput
      go_wp2
      go_roundw
      case rel => exact ⟨k + 1, _, by omega, by go_num, HP.out _, HBB.out.far (Kept.one wr b k none _) hbw (by omega) (by omega) (fun i hi => by have := HL3.out i hi; omega)⟩
      case measure => simp [intOf]; omega
    · have HBB := Lib.hid hbo
      clear ho hbo
      go_wp2
      obtain ⟨wo, rfl⟩ : ∃ wo : World, wo = wr := ⟨_, rfl⟩
      go_loopw [38] (fun i wr => ∃ (k : Nat) (s : Cst), k ≤ n2 ∧ i = .int .i64 k ∧ Both w wr g A3 pm c3 s g2 A c s) (fun i _ => n2 - (intOf i).toNat)
      case atStart => exact ⟨0, _, Nat.zero_le _, rfl, HBB.out⟩
      case round =>
        obtain ⟨k, s, hk, rfl, hbo⟩ := hrel
        have HB := Lib.hid hbo
        clear hbo
        by_cases hlt : k < n2
        · have hth := HA.out.kept HB.out.kept
          have hkl : k < ts.length := by rw [HL.out]; exact hlt
          obtain ⟨b, o, rfl, hce⟩ := hth.2.2.2.2 (by omega)
          obtain ⟨q0, q1, q2, q3⟩ := hce k hkl
          have hok := HA.out.2.2.2.1 _ (List.getElem_mem hkl)
          have hn0 := hok.n0
          have hn1 := hok.n1
          clear hce hth hok
          generalize ts[k] = t at *
          obtain ⟨what, x, v, tB, bn, bc, tb⟩ := t
          simp only at q0 q1 q2 q3 hn0 hn1
          by_cases h60 : k = 60
          · have hb60 : ((k : Int) == 60) = true := by simp; omega
            have H60 := Lib.hid h60
            clear h60
            go_wp2_with fail
            refine (wakes_yes _).mono ?_
            rintro e w9 ⟨rfl, hk9⟩
            go_wp2
            go_ret
            exact ⟨rfl, ((HB.out.kept.alloc _).then hk9).below (Nat.le_refl _) (fun k hf => hf.elim)⟩
          · have hb60 : ((k : Int) == 60) = false := by simp; omega
            go_upto_block 4 with (fail)
            go_cut [11] (fun ok wx => ok = .bool true ∧ ∃ s' : Cst, Both w wx g A3 pm c3 s' g2 A c s')
            case first =>
              have hBa := HB.out.alloc ((Kept.refl Nil wr).alloc (.cells #[.int .i64 what, .int .i64 x, .int .u32 (v : Int), .slice tB bn bc] 32))
              have hBn := Blo.new wr 32 #[.int .i64 what, .int .i64 x, .int .u32 (v : Int), .slice tB bn bc]
              have HBA := Lib.hid hBa
              have HBN := Lib.hid hBn
              clear hBa hBn
              generalize hwa : wr.alloc (.cells #[.int .i64 what, .int .i64 x, .int .u32 (v : Int), .slice tB bn bc] 32) = wa at *
              generalize hga : wr.heap.size = ga at *
              have gn1 : ga ≠ g := by have := HB.out.cut.blo.lt; omega
              have gn2 : ga ≠ g2 := by have := HB.out.ref.blo.lt; omega
              clear hwa hga q0 q1 q2 q3
              by_cases h0 : what = 0
              · subst h0
                go_wp2_with fail
                refine (Byte_yes g A3 pm c3 s _ HBA.out.cut).mono ?_
                rintro e w5 ⟨rfl, hc5, hk5⟩
                have H5 := Lib.hid (HBA.out.cut' hc5 hk5)
                have hnb : numM (takeM s 1).1 ≤ 255 := by
                  have h1 := numM_lt (takeM s 1).1
                  have h2 : (256 : Nat) ^ (takeM s 1).1.length ≤ 256 ^ 1 := Nat.pow_le_pow_right (by omega) (takeM_len2 s 1)
                  have h3 : (256 : Nat) ^ 1 = 255 + 1 := by decide
                  omega
                clear hc5 hk5
                go_wp2_with fail
                refine (rnumber_yes g2 A pm c s 1 _ H5.out.ref (by omega) (by omega)).mono ?_
                rintro e w6 ⟨rfl, hr6, hk6⟩
                have H6 := Lib.hid (H5.out.ref' hr6 hk6)
                clear hr6 hk6
                generalize numM (takeM s 1).1 = r at *
                go_wp2
                go_meet
                exact ⟨rfl, _, H6.out⟩
              by_cases h1 : what = 1
              · subst h1
                go_wp2_with fail
                refine (Two_yes g A3 pm c3 s _ HBA.out.cut).mono ?_
                rintro e w5 ⟨rfl, hc5, hk5⟩
                have H5 := Lib.hid (HBA.out.cut' hc5 hk5)
                have hnb : numM (takeM s 2).1 ≤ 65535 := by
                  have h1 := numM_lt (takeM s 2).1
                  have h2 : (256 : Nat) ^ (takeM s 2).1.length ≤ 256 ^ 2 := Nat.pow_le_pow_right (by omega) (takeM_len2 s 2)
                  have h3 : (256 : Nat) ^ 2 = 65535 + 1 := by decide
                  omega
                clear hc5 hk5
                go_wp2_with fail
                refine (rnumber_yes g2 A pm c s 2 _ H5.out.ref (by omega) (by omega)).mono ?_
                rintro e w6 ⟨rfl, hr6, hk6⟩
                have H6 := Lib.hid (H5.out.ref' hr6 hk6)
                clear hr6 hk6
                generalize numM (takeM s 2).1 = r at *
                go_wp2
                go_meet
                exact ⟨rfl, _, H6.out⟩
              by_cases h2 : what = 2
              · subst h2
                go_wp2_with fail
                refine (Four_yes g A3 pm c3 s _ HBA.out.cut).mono ?_
                rintro e w5 ⟨rfl, hc5, hk5⟩
                have H5 := Lib.hid (HBA.out.cut' hc5 hk5)
                have hnb : numM (takeM s 4).1 ≤ 4294967295 := by
                  have h1 := numM_lt (takeM s 4).1
                  have h2 : (256 : Nat) ^ (takeM s 4).1.length ≤ 256 ^ 4 := Nat.pow_le_pow_right (by omega) (takeM_len2 s 4)
                  have h3 : (256 : Nat) ^ 4 = 4294967295 + 1 := by decide
                  omega
                clear hc5 hk5
                go_wp2_with fail
                refine (rnumber_yes g2 A pm c s 4 _ H5.out.ref (by omega) (by omega)).mono ?_
                rintro e w6 ⟨rfl, hr6, hk6⟩
                have H6 := Lib.hid (H5.out.ref' hr6 hk6)
                clear hr6 hk6
                generalize numM (takeM s 4).1 = r at *
                go_wp2
                go_meet
                exact ⟨rfl, _, H6.out⟩
              by_cases h3 : what = 3
              · subst h3
                have hr6 := macM_len (takeM s 6).1 (takeM_len2 s 6)
                generalize hr5 : macM (takeM s 6).1 = r5 at hr6
                obtain ⟨x0, x1, x2, x3, x4, x5, rfl⟩ := six_of _ hr6
                have heq := eq_mac [x0, x1, x2, x3, x4, x5] [x0, x1, x2, x3, x4, x5] rfl rfl
                rw [show ([x0, x1, x2, x3, x4, x5] == [x0, x1, x2, x3, x4, x5]) = true from by simp] at heq
                have hr7 : (bys (macM (takeM s 6).1)).toArray = #[.int .u8 (x0.toNat : Int), .int .u8 (x1.toNat : Int), .int .u8 (x2.toNat : Int), .int .u8 (x3.toNat : Int), .int .u8 (x4.toNat : Int), .int .u8 (x5.toNat : Int)] := by rw [hr5]; rfl
                have heq2 : ∀ w, (Op.equalIn 10000 39 (.agg #[.int .u8 (x0.toNat : Int), .int .u8 (x1.toNat : Int), .int .u8 (x2.toNat : Int), .int .u8 (x3.toNat : Int), .int .u8 (x4.toNat : Int), .int .u8 (x5.toNat : Int)]) (.agg #[.int .u8 (x0.toNat : Int), .int .u8 (x1.toNat : Int), .int .u8 (x2.toNat : Int), .int .u8 (x3.toNat : Int), .int .u8 (x4.toNat : Int), .int .u8 (x5.toNat : Int)])).run Try.prog w = .ok true w := heq
                have HR7 := Lib.hid hr7
                clear hr7 hr5 hr6 heq
                go_wp2_with fail
                refine (Mac_yes g A3 pm c3 s _ HBA.out.cut).mono ?_
                rintro e w5 ⟨rfl, hc5, hk5⟩
                rw [HR7.out]
                have H5 := Lib.hid (HBA.out.cut' hc5 hk5)
                clear hc5 hk5
                go_wp2_with fail
                refine (rmac_yes g2 A pm c s _ H5.out.ref (by omega)).mono ?_
                rintro e w6 ⟨rfl, hr6, hk6⟩
                rw [HR7.out]
                have H6 := Lib.hid (H5.out.ref' hr6 hk6)
                clear hr6 hk6
                go_wp2
                go_meet
                exact ⟨rfl, _, H6.out⟩
              by_cases h4 : what = 4
              · subst h4
                have cx := HBN.out.cell 1
                simp only [List.getElem?_toArray, List.getElem?_cons_succ, List.getElem?_cons_zero] at cx
                go_wp2_with fail
                obtain ⟨m, hm⟩ : ∃ m, (takeM s x).1.length = m := ⟨_, rfl⟩
                have HM := Lib.hid hm
                clear hm
                go_region_law (first
                  | (go_simp; go_at_call 18; refine (Take_yes g A3 pm c3 s x _ (by exact HBA.out.cut.heap rfl) (by omega) (by omega)).mono ?_; rintro e w5 ⟨v5, rfl, ho5, hc5, hk5⟩; obtain ⟨cx5, H5, A5, c5, rfl, HB5⟩ := arm_cut (q := 1) HBA.out HBN.out gn1 rfl HM.out ho5 hc5 hk5; simp only [List.getElem?_toArray, List.getElem?_cons_succ, List.getElem?_cons_zero] at cx5; clear ho5 hc5 hk5)
                  | (go_simp; go_at_call 19; refine (rtake_yes g2 A pm c s x _ (by exact H5.out.ref.heap rfl) (by omega)).mono ?_; rintro e w6 ⟨v6, rfl, ho6, hr6, hk6⟩; obtain ⟨H6, HB56, A6, c6, rfl, HB6⟩ := arm_ref (q := 0) H5.out rfl HM.out HB5.out ho6 hr6 hk6; clear ho6 hr6 hk6)
                  | (go_simp; go_at_call 17; refine (equal A5 A6 m c5 m c6 _ _ _ (by exact HB56.out.heap rfl) (by exact HB6.out.heap rfl)).mono ?_; rintro e w' ⟨rfl, rfl⟩; rw [show ((takeM s x).1 == (takeM s x).1) = true from by simp]))
                all_goals
                  go_wp2
                  go_meet
                  exact ⟨rfl, _, H6.out⟩
              by_cases h5 : what = 5
              · subst h5
                have cx := HBN.out.cell 1
                simp only [List.getElem?_toArray, List.getElem?_cons_succ, List.getElem?_cons_zero] at cx
                go_wp2_with fail
                refine (Skip_yes g A3 pm c3 s x _ HBA.out.cut (by omega)).mono ?_
                rintro e w5 ⟨rfl, hc5, hk5⟩
                have H5 := Lib.hid (HBA.out.cut' hc5 hk5)
                have cx5 := (HBN.out.kept hk5 (fun e => gn1 e)).cell 1
                simp only [List.getElem?_toArray, List.getElem?_cons_succ, List.getElem?_cons_zero] at cx5
                clear hc5 hk5
                go_wp2_with fail
                refine (rtake_yes g2 A pm c s x _ H5.out.ref (by omega)).mono ?_
                rintro e w6 ⟨v6, rfl, ho6, hr6, hk6⟩
                have H6 := Lib.hid (H5.out.ref' hr6 hk6)
                clear ho6 hr6 hk6
                go_wp2
                go_meet
                exact ⟨rfl, _, H6.out⟩
              by_cases h6 : what = 6
              · subst h6
                obtain ⟨m, hm⟩ : ∃ m, (takeM s (leftM s)).1.length = m := ⟨_, rfl⟩
                have HM := Lib.hid hm
                clear hm
                go_wp2_with fail
                refine (Rest_yes g A3 pm c3 s _ HBA.out.cut (by omega)).mono ?_
                rintro e w5 ⟨v5, rfl, ho5, hc5, hk5⟩
                obtain ⟨cx5, H5, A5, c5, rfl, HB5⟩ := arm_cut (q := 0) HBA.out HBN.out gn1 rfl HM.out ho5 hc5 hk5
                clear ho5 hc5 hk5 cx5
                go_wp2_with fail
                refine (rleft_yes g2 A pm c s _ H5.out.ref).mono ?_
                rintro e w5' ⟨rfl, q, rfl⟩
                go_wp2_with fail
                refine (rtake_yes g2 A pm c s (leftM s) _ (by exact H5.out.ref.heap rfl) (by omega)).mono ?_
                rintro e w6 ⟨v6, rfl, ho6, hr6, hk6⟩
                obtain ⟨H6, HB56, A6, c6, rfl, HB6⟩ := arm_ref H5.out rfl HM.out HB5.out ho6 hr6 hk6
                clear ho6 hr6 hk6
                go_wp2_with fail
                refine (equal A5 A6 m c5 m c6 _ _ _ HB56.out HB6.out).mono ?_
                rintro e w' ⟨rfl, rfl⟩
                rw [show ((takeM s (leftM s)).1 == (takeM s (leftM s)).1) = true from by simp]
                go_wp2
                go_meet
                exact ⟨rfl, _, H6.out⟩
              by_cases h7 : what = 7
              · subst h7
                have cx := HBN.out.cell 1
                simp only [List.getElem?_toArray, List.getElem?_cons_succ, List.getElem?_cons_zero] at cx
                go_wp2_with fail
                refine (fail_yes g A3 pm c3 s x _ HBA.out.cut).mono ?_
                rintro e w5 ⟨rfl, hc5, hk5⟩
                have H5 := Lib.hid (HBA.out.cut' hc5 hk5)
                have cx5 := (HBN.out.kept hk5 (fun e => gn1 e)).cell 1
                simp only [List.getElem?_toArray, List.getElem?_cons_succ, List.getElem?_cons_zero] at cx5
                clear hc5 hk5
                go_wp2_with fail
                refine (rfail_yes g2 A pm c s x _ H5.out.ref).mono ?_
                rintro e w6 ⟨rfl, hr6, hk6⟩
                have H6 := Lib.hid (H5.out.ref' hr6 hk6)
                clear hr6 hk6
                go_wp2
                go_meet
                exact ⟨rfl, _, H6.out⟩
              go_wp2
              go_meet
              exact ⟨rfl, s, HBA.out⟩
            case rest =>
              obtain ⟨rfl, s2, hb2⟩ := hcut
              have HB2 := Lib.hid hb2
              have c0 := hb2.cut.c0
              have c2 := hb2.cut.c2
              have cc3 := hb2.cut.c3
              have d1 := hb2.ref.c1
              have d2 := hb2.ref.c2
              clear hb2
              obtain ⟨L, hL⟩ : ∃ L, L = leftM s2 := ⟨_, rfl⟩
              have cl := fun q => left_yes g A3 pm c3 s2 (wc.drewN q) (HB2.out.cut.drewN q)
              have cr := fun q => rleft_yes g2 A pm c s2 (wc.drewN q) (HB2.out.ref.drewN q)
              have ca := fun q => at_yes g s2.k (wc.drewN q) (by exact c0) (by exact c2)
              have ce := fun q => err_yes g s2.er (wc.drewN q) (by exact c0) (by exact cc3)
              rw [← hL] at cl cr
              have HCL := Lib.hid cl
              have HCR := Lib.hid cr
              have HCA := Lib.hid ca
              have HCE := Lib.hid ce
              clear cl cr hL ca ce
              go_wp2_with fail
              go_quiet (first
                | (go_at_call 25; exact Calls.quiet_of (HCL.out _))
                | (go_at_call 22; exact Calls.quiet_of (HCR.out _))
                | (go_at_call 26; exact quiet_eq (HCA.out _))
                | (go_at_call 27; exact quiet_eq (HCE.out _)))
              go_wp2
              go_roundw
              case rel => exact ⟨k + 1, s2, by omega, by go_num, HB2.out.heap rfl (HB2.out.kept.drewN _)⟩
              case measure => simp [intOf]; omega
        · go_wp2_with fail
          refine (wakes_yes _).mono ?_
          rintro e w9 ⟨rfl, hk9⟩
          go_wp2
          go_ret
          exact ⟨rfl, (HB.out.kept.then hk9).below (Nat.le_refl _) (fun k hf => hf.elim)⟩
end Go.Proofs.Ytplgnknghmddmaa
