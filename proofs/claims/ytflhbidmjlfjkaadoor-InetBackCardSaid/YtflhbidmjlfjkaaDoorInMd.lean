/- tolllaw06.made. -/
import Derived.Test.YtflhbidmjlfjkaaDoorInQ
import Derived.Test.YtflhbidmjlfjkaaDoorInZ
import Derived.Test.YtflhbidmjlfjkaaDoorInD
import Derived.Test.YtflhbidmjlfjkaaDoorOwnB
import Derived.Laws.OwnMore
namespace Go.Proofs.YtflhbidmjlfjkaaDoor
open Go.RowKit Go.Sort
set_option linter.unusedVariables false

/-- How many bytes of options are made. -/
def mdN (h : Hd) : Nat := min h.x.length 40 / 4 * 4
/-- The head that is made. -/
def mdH (h : Hd) : Hd := { h with x := madeO (mdN h) (h.x.headD 0 ||| 2), o := ((h.o % 18446744073709551616).toNat % 8000 : Nat) }
/-- The body that is made. -/
def mdB (h : Hd) (body : List UInt8) : List UInt8 := if h.m then (body.take 300).take ((body.take 300).length / 8 * 8) else body.take 300
theorem md_may (h : Hd) (hok : h.ok) (body : List UInt8) : (mdH h).may (mdB h body) := by
  have hN : mdN h ≤ 40 ∧ mdN h % 4 = 0 := by unfold mdN; omega
  have hx : (mdH h).x.length = mdN h := made_len _ _
  have hb : (mdB h body).length ≤ 300 ∧ (h.m = true → (mdB h body).length % 8 = 0) := by
    unfold mdB
    split
    · rename_i hm
      simp only [List.length_take]
      omega
    · rename_i hm
      simp only [List.length_take]
      exact ⟨by omega, fun h => absurd h hm⟩
  have ho : (mdH h).o = (((h.o % 18446744073709551616).toNat % 8000 : Nat) : Int) := rfl
  refine ⟨⟨hok.i, ?_, hok.s, hok.g⟩, ?_, ?_, ?_, ?_, ?_⟩
  · rw [ho]; omega
  · rw [ho]; omega
  · rw [ho]; omega
  · exact made_opts _ _ hN.1 hN.2 (or_two _)
  · unfold fitsM
    rw [ho]
    refine decide_eq_true ⟨by omega, ?_⟩
    exact hb.2
  · rw [hx]; omega
theorem made_set (N : Nat) (a : UInt8) (h : 4 ≤ N) : ((List.replicate N (1 : UInt8)).set 0 a).set 1 4 = madeO N a := by
  obtain ⟨k, rfl⟩ : ∃ k, N = k + 2 := ⟨N - 2, by omega⟩
  unfold madeO
  rw [if_neg (by omega), List.replicate_succ, List.replicate_succ]
  rfl
theorem or2 (x : UInt8) : bits .or .u8 (x.toNat : Int) 2 = ((x ||| 2).toNat : Int) := by
  have := u8_or_nat x.toNat 2 x.toNat_lt (by omega)
  rw [show (2 : Int) = ((2 : Nat) : Int) from rfl, this, UInt8.toNat_or]
  rfl
theorem infSl' : (Tryd.prog.info? 25).map (·.size) = some 1 := by kernel_rfl
theorem infIn : (Tryd.prog.info? 3).map (·.size) = some 1 := by kernel_rfl
set_option maxRecDepth 100000 in
set_option maxHeartbeats 8000000 in
theorem made_yes (h : Hd) (hok : h.ok) (A : Option Addr) (n c : Nat) (B : Option Addr) (m d : Nat) (body : List UInt8) (w : World) (hx : Byt w A n c h.x) (hy : Byt w B m d body) :
    Calls Tryd.prog 31 #[.agg (hcs h A n c).toArray, .slice B m d] w fun e w' => ∃ A' c' m', e = .returned (.tuple #[.agg (hcs (mdH h) A' (mdN h) c').toArray, .slice B m' d]) ∧ Byt w' A' (mdN h) c' (mdH h).x ∧ (∀ i, Lies A' (mdN h) i → w.heap.size ≤ i) ∧ Byt w' B m' d (mdB h body) ∧ Kept Nil w w' := by
  have hnc := hx.2.1
  have hmd := hy.2.1
  have hcc := hx.2.2.1
  have hdd := hy.2.2.1
  obtain ⟨mb, hmb, hmb1, hmb2⟩ : ∃ k : Nat, (if (300 : Int) < (m : Int) then (300 : Int) else (m : Int)) = (k : Int) ∧ k = min m 300 ∧ k ≤ 300 := ⟨min m 300, by split <;> omega, rfl, by omega⟩
  have hmb' : min (m : Int) 300 = (mb : Int) := by omega
  obtain ⟨mn, hmn, hmn1, hmn2⟩ : ∃ k : Nat, (if (40 : Int) < (n : Int) then (40 : Int) else (n : Int)) = (k : Int) ∧ k = min n 40 ∧ k ≤ 40 := ⟨min n 40, by split <;> omega, rfl, by omega⟩
  have hmn' : min (n : Int) 40 = (mn : Int) := by omega
  obtain ⟨N, hN⟩ : ∃ N, mdN h = N := ⟨_, rfl⟩
  have hNm : N = mn / 4 * 4 := by rw [← hN]; unfold mdN; rw [hx.1, ← hmn1]
  have hNI : (mn : Int) / 4 * 4 = (N : Int) := by omega
  have hN40 : N ≤ 40 ∧ N ≤ n ∧ N % 4 = 0 := by omega
  have hslb := run_cut_hi (P := Tryd.prog) Tryd.underlying25 inf5.1 B m d mb (mb : Int) rfl (by omega)
  obtain ⟨m8, hm8, hm8e⟩ : ∃ k : Nat, (mb : Int) / 8 * 8 = (k : Int) ∧ k = mb / 8 * 8 := ⟨mb / 8 * 8, by omega, rfl⟩
  have hsl8 := run_cut_hi (P := Tryd.prog) Tryd.underlying25 inf5.1 B mb d m8 (m8 : Int) rfl (by omega)
  have hI := HB.new w 27 h A n c
  have hk := (Kept.refl Nil w).alloc (.cells (hcs h A n c).toArray 27)
  have hJ : HB ((w.alloc (.cells (hcs h A n c).toArray 27)).alloc (.cells (hcs Hd.zero none 0 0).toArray 27)) (w.heap.size + 1) 27 Hd.zero none 0 0 := by simpa using HB.new (w.alloc (.cells (hcs h A n c).toArray 27)) 27 Hd.zero none 0 0
  have hk2 := (Kept.refl Nil (w.alloc (.cells (hcs h A n c).toArray 27))).alloc (.cells (hcs Hd.zero none 0 0).toArray 27)
  have hI2 := hI.kept hk2 (fun hf => hf)
  have HP := Lib.hid hI2
  have HQ := Lib.hid hJ
  have HK := Lib.hid (hk.then hk2)
  have HX := Lib.hid (hx.kept (hk.then hk2) (fun _ _ hf => hf))
  have HY := Lib.hid (hy.kept (hk.then hk2) (fun _ _ hf => hf))
  have HXL := Lib.hid hx.lt
  have HYL := Lib.hid hy.lt
  have HLX := Lib.hid hx.1
  have HLY := Lib.hid hy.1
  have HOK := Lib.hid hok
  have HMB := Lib.hid (And.intro hmb1 hm8e)
  have HNH := Lib.hid hN
  have HN := Lib.hid hN40
  obtain ⟨i0, hi, hz0, hz1, hz2⟩ := info_parts Tryd.infb
  clear hI hk hJ hk2 hI2 hx hy hok hN hNm hmn1 hmb1 hm8e hN40
  go_enter Tryd.func31, Tryd.ntmps31
  go_upto_region 1 with (fail)
  refine wp_nameE (fun W => HB W w.heap.size 27 h A n c ∧ HB W (w.heap.size + 1) 27 Hd.zero none 0 0 ∧ Kept Nil w W ∧ Byt W A n c h.x ∧ Byt W B m d body) ⟨HP.out, HQ.out, HK.out, HX.out, HY.out⟩ ?_
  clear HP HQ HK HX HY
  rintro W ⟨hp, hq, hk, hx, hy⟩
  have HP := Lib.hid hp
  have HQ := Lib.hid hq
  have HK := Lib.hid hk
  have HX := Lib.hid hx
  have HY := Lib.hid hy
  have c10 := hp.cx
  clear hp hq hk hx hy
  go_upto_region 5 with (fail)
  clear c10
  go_loopw [7, 20] (fun v7 i wr => ∃ (q : Nat) (v : Value), q ≤ N ∧ v = v7 ∧ i = .int .i64 (q : Int) ∧ Hid (wr.ownsRow W.heap.size 5 1 v q (bys (List.replicate q 1))) ∧ Hid (Kept Nil W wr)) (fun _ i _ => N - (intOf i).toNat)
  case atStart => exact ⟨0, _, Nat.zero_le _, rfl, rfl, World.ownsRow_nil _ _ _ _, Kept.refl _ _⟩
  case round =>
    obtain ⟨q, v, hq, rfl, rfl, HO, HKW⟩ := hrel
    have hN40 := HN.out
    by_cases hlt : q < N
    · have hka := (Kept.refl Nil wr).alloc (.cells #[.int .u8 1] 5)
      have HOA := Lib.hid (own_kept HO.out hka (fun _ _ hf => hf))
      have HKA := Lib.hid (HKW.out.then hka)
      clear hka HO HKW
      go_wp2_with (first
        | (at_builtin; refine wpList_any rfl _ _ 25 rfl W.heap.size 5 i0 (.int .u8 0) Tryd.underlying25 hi hz0 hz1 hz2 rfl v q (bys (List.replicate q 1)) rfl HOA.out _ 1 1 [1] rfl (byt_lit wr [1] 5 _ rfl 1 rfl _ rfl (by show 1 ≤ _; decide)) (by omega) HKA.out.size ?_; intro v5 w5 hown hgr _)
        | fail)
      have hkg : Kept (fun i => Value.ownBlock v = some i) _ w5 := (Kept.refl _ _).grown hgr (fun i hi _ => hi)
      rw [← bys_app, ← List.replicate_succ'] at hown
      have HK5 := Lib.hid (HKA.out.fresh hkg (fun i hi => (HOA.out.lt i hi).1))
      have HO5 := Lib.hid hown
      clear hown hgr hkg HOA HKA
      refine ⟨⟨q + 1, _, by omega, rfl, by go_num, HO5, HK5⟩, ?_⟩
      simp [intOf]
      omega
    · obtain rfl : q = N := by omega
      have HP5 := Lib.hid (HP.out.kept HKW.out (fun hf => hf))
      have HQ5 := Lib.hid (HQ.out.kept HKW.out (fun hf => hf))
      have HX5 := Lib.hid (HX.out.kept HKW.out (fun _ _ hf => hf))
      have HY5 := Lib.hid (HY.out.kept HKW.out (fun _ _ hf => hf))
      have HGW := Lib.hid (show w.heap.size + 2 ≤ W.heap.size by have := HQ.out.lt; omega)
      go_upto_if 27 with (fail)
      go_cut [7] from 28 to 36 (fun s wx => ∃ A7 c7, s = .slice A7 q c7 ∧ wx.ownsRow W.heap.size 5 1 (.slice A7 q c7) q (bys (madeO q (h.x.headD 0 ||| 2))) ∧ Kept Nil W wx)
      case first =>
        by_cases h4 : 4 ≤ q
        · have h4' : ((4 : Int) ≤ (q : Int)) := by omega
          obtain ⟨A7, c7, rfl⟩ := own_form HO.out
          obtain ⟨g7, hg7, hge⟩ : ∃ g, A7 = some ⟨g, 0, none⟩ ∧ W.heap.size ≤ g := by
            rcases HO.out.2 with ⟨e, h0⟩ | ⟨g, cap, cur, e, hb, hr⟩
            · omega
            · injection e with e1 e2 e3
              exact ⟨g, e1, hb⟩
          subst hg7
          obtain ⟨A8, c8, hv8, hby8, -⟩ := Byt.of_own (l := List.replicate q 1) HO.out
          injection hv8 with e1 e2 e3
          subst e1 e3
          clear e2
          have k0 := byt_ge hby8 0 1 (by rw [List.getElem?_replicate, if_pos (by omega)])
          have k1 := byt_ge hby8 1 1 (by rw [List.getElem?_replicate, if_pos (by omega)])
          rw [show 0 + 0 = 0 from rfl] at k0
          rw [show 0 + 1 = 1 from rfl] at k1
          have fz0 := HO.out.frozenAt 0
          have fz1 := HO.out.frozenAt 1
          obtain ⟨b, o, rfl, -⟩ := HX5.out.2.2.2 (by omega)
          have hlx := HLX.out
          obtain ⟨x0, hx0⟩ : ∃ x, h.x[0]? = some x := ⟨h.x[0]'(by omega), List.getElem?_eq_getElem _⟩
          have cx0 := byt_ge HX5.out 0 x0 hx0
          rw [Nat.add_zero] at cx0
          have c10 := HP5.out.cx
          have hor := or2 x0
          have hhd : h.x.headD 0 = x0 := by
            cases hxx : h.x with
            | nil => rw [hxx] at hx0; cases hx0
            | cons a l => rw [hxx] at hx0; simp at hx0; exact hx0
          have hws : IntKind.wrap .u8 ((x0 ||| 2).toNat : Int) = ((x0 ||| 2).toNat : Int) := IntWalk.u8_in _ (by have := (x0 ||| 2).toNat_lt; omega)
          have st1 := (HO.out.stored 0 (.int .u8 ((x0 ||| 2).toNat : Int)))
          rw [bys_put] at st1
          have st2 := st1.1.stored 1 (.int .u8 ((4 : UInt8).toNat : Int))
          rw [bys_put, made_set q _ h4] at st2
          have HST1 := Lib.hid st1.2
          have HST2 := Lib.hid st2
          have h0n : (0 : Int) < (n : Int) := by omega
          have h0q : (0 : Int) < (q : Int) := by omega
          have h1q : (1 : Int) < (q : Int) := by omega
          have HGE := Lib.hid hge
          have HHD := Lib.hid hhd
          have nbg : b ≠ g7 := by
            have := HXL.out b ⟨by omega, _, rfl, rfl⟩
            have := HGW.out
            omega
          clear hge hhd st1 st2 hx0 hby8 hlx
          go_wp2_with (fail)
          go_meet
          refine ⟨_, _, rfl, by rw [HHD.out]; exact HST2.out.1, ?_⟩
          exact (HKW.out.fresh ((Kept.refl (fun i => some g7 = some i) _).grown HST1.out (fun i hi _ => hi)) (fun i hi => by cases hi; exact HGE.out)).fresh ((Kept.refl (fun i => some g7 = some i) _).grown HST2.out.2 (fun i hi _ => hi)) (fun i hi => by cases hi; exact HGE.out)
        · have h4' : ¬ ((4 : Int) ≤ (q : Int)) := by omega
          obtain ⟨A7, c7, rfl⟩ := own_form HO.out
          go_wp2_with (fail)
          go_meet
          refine ⟨_, _, rfl, ?_, HKW.out⟩
          have e : madeO q (h.x.headD 0 ||| 2) = List.replicate q 1 := by unfold madeO; rw [if_pos (by omega)]
          rw [e]
          exact HO.out
      case rest =>
        obtain ⟨A7, c7, rfl, ho7, hk7⟩ := hcut
        have HO7 := Lib.hid ho7
        have HK7 := Lib.hid hk7
        have HP7 := Lib.hid (HP.out.kept hk7 (fun hf => hf))
        clear ho7 hk7 HP5 HQ5 HX5 HY5 HO HKW
        have cc7 := HP7.out.co
        obtain ⟨M, hM⟩ : ∃ M, (h.o % 18446744073709551616).toNat = M := ⟨_, rfl⟩
        have hMI : IntKind.wrap .u64 h.o = (M : Int) := by rw [IntKind.wrap_u64, ← hM]; omega
        obtain ⟨Q, hQ⟩ : ∃ Q, M % 8000 = Q := ⟨_, rfl⟩
        have hQI : (M : Int) % 8000 = (Q : Int) := by omega
        have hwQ : IntKind.wrap .i64 (Q : Int) = (Q : Int) := by rw [IntKind.wrap_i64]; omega
        have HH := Lib.hid (show mdH h = { h with x := madeO q (h.x.headD 0 ||| 2), o := (Q : Int) } by unfold mdH; rw [hM, hQ, HNH.out])
        clear hM hQ
        go_upto_region 11 with (first
          | (refine wpList_st rfl _ _ _ rfl w.heap.size 10 rfl [.slice A7 q c7] _ rfl rfl infSl' 27 _ HP7.out (by rw [hcs_len, List.length_singleton]; omega) (by intro u hu; simp at hu; subst hu; rfl) ?_; intro w1 hb1 hk1 hz1; simp only [Act.put]; have HP8 := Lib.hid (show HB w1 w.heap.size 27 h A7 q c7 from hb1))
          | (refine wpList_st rfl _ _ _ rfl w.heap.size 7 rfl [.int .i64 (Q : Int)] _ rfl rfl infIn 27 _ HP8.out (by rw [hcs_len, List.length_singleton]; omega) (by intro u hu; simp at hu; subst hu; rfl) ?_; intro w2 hb2 hk2 hz2; simp only [Act.put])
          | fail)
        have hP9 : HB w2 w.heap.size 27 (mdH h) A7 q c7 := by
          unfold HB
          rw [show hcs (mdH h) A7 q c7 = hcs { h with o := (Q : Int) } A7 q c7 by rw [HH.out]; rfl]
          exact hb2
        have HP9 := Lib.hid hP9
        have HQ9 := Lib.hid (((HQ.out.kept HK7.out (fun hf => hf)).kept hk1 (fun hf => by unfold One at hf; omega)).kept hk2 (fun hf => by unfold One at hf; omega))
        have HY9 := Lib.hid (((HY.out.kept HK7.out (fun _ _ hf => hf)).kept hk1 (fun i hi hf => by have := HYL.out i hi; unfold One at hf; omega)).kept hk2 (fun i hi hf => by have := HYL.out i hi; unfold One at hf; omega))
        have ho9 := own_kept (own_kept HO7.out hk1 (fun i hi hf => by have := (HO7.out.lt i hi).1; have := HGW.out; unfold One at hf; omega)) hk2 (fun i hi hf => by have := (HO7.out.lt i hi).1; have := HGW.out; unfold One at hf; omega)
        have HO9 := Lib.hid ho9
        have HK9 := Lib.hid (((HK.out.then HK7.out).fresh hk1 (fun i hi => by cases hi; exact Nat.le_refl _)).fresh hk2 (fun i hi => by cases hi; exact Nat.le_refl _))
        have c6 := hP9.cm
        rw [show (mdH h).m = h.m from rfl] at c6
        clear hP9 hb1 hk1 hz1 hb2 hk2 hz2 ho9 HP7 HP8 cc7 HO7 HK7 HP HQ HX HY HK
        have hbt : body.take mb = body.take 300 := by rw [HMB.out.1, ← HLY.out, List.take_eq_take_iff]; omega
        have hbl : (body.take mb).length = mb := by have := HMB.out.1; have := HLY.out; rw [List.length_take]; omega
        have HBT := Lib.hid (And.intro hbt hbl)
        clear hbt hbl
        obtain ⟨bm, hbm⟩ : ∃ x, h.m = x := ⟨_, rfl⟩
        rw [hbm] at c6
        have HBM := Lib.hid hbm
        clear hbm
        cases bm with
        | true =>
          go_wp2_with (first
            | (refine wpList_ld rfl _ _ rfl w.heap.size 0 rfl (hcs (mdH h) A7 q c7) HP9.out.all _ Tryd.underlying27 rfl (infI _ _ _ _) ?_; simp only [Act.put, List.setIfInBounds_toArray, List.set_cons_succ, List.set_cons_zero])
            | (refine wpList_st rfl _ (.tmp 4) _ rfl (w.heap.size + 1) 0 rfl (hcs (mdH h) A7 q c7) _ rfl rfl (infI _ _ _ _) 27 _ HQ9.out (by rw [hcs_len, hcs_len]; omega) (hcs_one _ _ _ _) ?_; intro w3 hb3 hk3 hz3; simp only [Act.put])
            | fail)
          have h4 : HB w3 (w.heap.size + 1) 27 (mdH h) A7 q c7 := HB.of_all hb3
          have ho3 := own_kept HO9.out hk3 (fun i hi hf => by have := (HO9.out.lt i hi).1; have := HGW.out; unfold One at hf; omega)
          obtain ⟨A9, c9, hv9, hby9, hl9⟩ := Byt.of_own ho3
          injection hv9 with e1 e2 e3
          subst e1 e3
          refine bodyPost_ret (res_cell1 Tryd.results31 rfl rfl h4.all Tryd.underlying27 rfl (infI _ _ _ _)) rfl ⟨A7, c7, m8, by rw [HNH.out]; rfl, by rw [HNH.out, show (mdH h).x = madeO q (h.x.headD 0 ||| 2) by rw [HH.out]]; exact hby9, fun i hi => by rw [HNH.out] at hi; have := hl9 i hi; have := HGW.out; omega, ?_, ?_⟩
          · rw [show mdB h body = (body.take mb).take m8 by unfold mdB; rw [HBM.out, if_pos rfl, ← HBT.out.1, HBT.out.2, HMB.out.2]]
            exact ((HY9.out.kept hk3 (fun i hi hf => by have := HYL.out i hi; unfold One at hf; omega)).pre (hi := mb) (by have := HMB.out.1; omega)).pre (hi := m8) (by have := HMB.out.2; omega)
          · exact HK9.out.fresh hk3 (fun i hi => by cases hi; omega)
        | false =>
          go_wp2_with (first
            | (refine wpList_ld rfl _ _ rfl w.heap.size 0 rfl (hcs (mdH h) A7 q c7) HP9.out.all _ Tryd.underlying27 rfl (infI _ _ _ _) ?_; simp only [Act.put, List.setIfInBounds_toArray, List.set_cons_succ, List.set_cons_zero])
            | (refine wpList_st rfl _ (.tmp 4) _ rfl (w.heap.size + 1) 0 rfl (hcs (mdH h) A7 q c7) _ rfl rfl (infI _ _ _ _) 27 _ HQ9.out (by rw [hcs_len, hcs_len]; omega) (hcs_one _ _ _ _) ?_; intro w3 hb3 hk3 hz3; simp only [Act.put])
            | fail)
          have h4 : HB w3 (w.heap.size + 1) 27 (mdH h) A7 q c7 := HB.of_all hb3
          have ho3 := own_kept HO9.out hk3 (fun i hi hf => by have := (HO9.out.lt i hi).1; have := HGW.out; unfold One at hf; omega)
          obtain ⟨A9, c9, hv9, hby9, hl9⟩ := Byt.of_own ho3
          injection hv9 with e1 e2 e3
          subst e1 e3
          refine bodyPost_ret (res_cell1 Tryd.results31 rfl rfl h4.all Tryd.underlying27 rfl (infI _ _ _ _)) rfl ⟨A7, c7, mb, by rw [HNH.out]; rfl, by rw [HNH.out, show (mdH h).x = madeO q (h.x.headD 0 ||| 2) by rw [HH.out]]; exact hby9, fun i hi => by rw [HNH.out] at hi; have := hl9 i hi; have := HGW.out; omega, ?_, ?_⟩
          · rw [show mdB h body = body.take mb by unfold mdB; rw [HBM.out, if_neg (by simp), HBT.out.1]]
            exact (HY9.out.kept hk3 (fun i hi hf => by have := HYL.out i hi; unfold One at hf; omega)).pre (hi := mb) (by have := HMB.out.1; omega)
          · exact HK9.out.fresh hk3 (fun i hi => by cases hi; omega)
end Go.Proofs.YtflhbidmjlfjkaaDoor
