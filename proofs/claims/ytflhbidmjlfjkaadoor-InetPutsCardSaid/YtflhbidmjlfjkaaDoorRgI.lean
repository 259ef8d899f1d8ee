/- tollref06: contract of Put. -/
import Derived.Test.YtflhbidmjlfjkaaDoorRgD
import Derived.Test.YtflhbidmjlfjkaaDoorRgG
import Derived.Test.YtflhbidmjlfjkaaDoorUpto
import Derived.Test.YtflhbidmjlfjkaaDoorCur
import Derived.Laws.OwnMore
namespace Go.Proofs.YtflhbidmjlfjkaaDoor
open Go.RowKit Go.Sort
set_option linter.unusedVariables false

theorem own_lits {w : World} (l : List UInt8) (t : TypeId) (cs : Array Value) (hc : cs = (bys l).toArray) (n : Nat) (hn : l.length = n) (h : l.length ≤ maxLen) :
    (w.alloc (.cells cs t)).ownsRow w.heap.size t 1 (.slice (some ⟨w.heap.size, 0, none⟩) n n) n (bys l) := by
  subst hc hn
  refine ⟨by simp [bys], .inr ⟨w.heap.size, l.length, (bys l).toArray, rfl, Nat.le_refl _, Blo.new w t _, Nat.le_refl _, h, by simp [bys], by rw [Nat.mul_one, List.take_of_length_le (by simp [bys])]⟩⟩
theorem head_zero (h : Hd) (T q3 : Nat) (u0 : UInt8) (hu : UInt8.ofNat (64 + (20 + h.x.length) / 4) = u0) (hq : bitsM h = q3) :
    headB h T 0 = [u0, h.t] ++ beM 2 T ++ beM 2 h.i ++ beM 2 q3 ++ [h.l, h.p, 0, 0] ++ beM 4 h.s ++ beM 4 h.g ++ h.x := by
  unfold headB
  rw [hu, hq, show beM 2 0 = [0, 0] from rfl]
  simp
theorem set_two (P R : List UInt8) (x y a b : UInt8) (h : P.length = 10) : ((P ++ [x, y] ++ R).set 10 a).set 11 b = P ++ [a, b] ++ R := by
  have e1 : (P ++ [x, y] ++ R).set 10 a = P ++ [a, y] ++ R := by
    rw [List.append_assoc, List.set_append_right _ _ (by omega), h]
    simp
  rw [e1, List.append_assoc, List.set_append_right _ _ (by omega), h]
  simp
theorem head_sum (h : Hd) (T S : Nat) : headB h T S = ((headB h T 0).set 10 (UInt8.ofNat (S / 256))).set 11 (UInt8.ofNat S) := by
  have hh : ∀ k, headB h T k = ([UInt8.ofNat (64 + (20 + h.x.length) / 4), h.t] ++ beM 2 T ++ beM 2 h.i ++ beM 2 (bitsM h) ++ [h.l, h.p]) ++ beM 2 k ++ (beM 4 h.s ++ beM 4 h.g ++ h.x) := fun k => by unfold headB; simp only [List.append_assoc]
  rw [hh 0, hh S, show beM 2 0 = [0, 0] from rfl, set_two _ _ 0 0 _ _ (by simp [beM_len])]
  rw [beM_two S]
theorem put_arg (h : Hd) (body : List UInt8) (hh : h.o < 0 ∨ 8191 < h.o ∨ optsM h.x = false ∨ fitsM h body.length = false) : putHM h body = ([], 1) := by unfold putHM; rw [if_pos hh]
theorem put_long (h : Hd) (body : List UInt8) (hh : ¬ (h.o < 0 ∨ 8191 < h.o ∨ optsM h.x = false ∨ fitsM h body.length = false)) (h2 : 65535 < 20 + h.x.length + body.length) : putHM h body = ([], 3) := by unfold putHM; rw [if_neg hh, if_pos h2]
theorem put_laid (h : Hd) (body : List UInt8) (hh : ¬ (h.o < 0 ∨ 8191 < h.o ∨ optsM h.x = false ∨ fitsM h body.length = false)) (h2 : ¬ 65535 < 20 + h.x.length + body.length) : putHM h body = (headB h (20 + h.x.length + body.length) (sumM (headB h (20 + h.x.length + body.length) 0)) ++ body, 0) := by unfold putHM; rw [if_neg hh, if_neg h2]
set_option maxRecDepth 100000 in
set_option maxHeartbeats 4000000 in
theorem gput_yes (h : Hd) (hok : h.ok) (A : Option Addr) (n c : Nat) (B : Option Addr) (m d : Nat) (body : List UInt8) (w : World) (hx : Byt w A n c h.x) (hy : Byt w B m d body) (hn : n ≤ 1099511627776) (hm : m ≤ 1099511627776) :
    Calls Tryd.prog 10 #[hdv h A n c, .slice B m d] w fun e w' => ∃ v, e = .returned (.tuple #[v, .int .i64 (putHM h body).2]) ∧ Made w w' v (putHM h body).1 := by
  have hP := HB.new w 34 h A n c
  have hk := (Kept.refl Nil w).alloc (.cells (hcs h A n c).toArray 34)
  have hx1 := hx.kept hk (fun _ _ hf => hf)
  have hy1 := hy.kept hk (fun _ _ hf => hf)
  have HXL := Lib.hid hx.1
  have HYL := Lib.hid hy.1
  have hnc := hx.2.1
  have hcc := hx.2.2.1
  have hmd := hy.2.1
  have hdd := hy.2.2.1
  have HOK := Lib.hid hok
  clear hx hy hok
  go_enter Tryd.func10, Tryd.ntmps10
  go_upto_region 1 with (fail)
  refine wp_nameE (fun W => HB W w.heap.size 34 h A n c ∧ Kept Nil w W ∧ Byt W A n c h.x ∧ Byt W B m d body) ⟨hP, hk, hx1, hy1⟩ ?_
  clear hP hk hx1 hy1
  rintro W ⟨hP, hk, hx, hy⟩
  have HP := Lib.hid hP
  have HKW := Lib.hid hk
  have HX := Lib.hid hx
  have HY := Lib.hid hy
  have c7 := hP.co
  have c10 := hP.cx
  clear hP hk hx hy
  have NONE : ∀ (k : Int) (w' : World), putHM h body = ([], k) → Kept Nil W w' → ∃ v, Ending.returned (.tuple #[.slice none 0 0, .int .i64 k]) = .returned (.tuple #[v, .int .i64 (putHM h body).2]) ∧ Made w w' v (putHM h body).1 := fun k w' hk h' => ⟨_, by rw [hk], by rw [hk]; exact ⟨World.ownsRow_nil _ _ _ _, HKW.out.then h'⟩⟩
  have HNO := Lib.hid NONE
  clear NONE
  obtain ⟨o, ho⟩ : ∃ o, h.o = o := ⟨_, rfl⟩
  rw [ho] at c7
  have HO := Lib.hid ho
  have hob := HOK.out.o
  rw [ho] at hob
  clear ho
  by_cases h0 : o < 0
  · have HG := Lib.hid (put_arg h body (.inl (by rw [HO.out]; exact h0)))
    go_wp2
    go_ret2
    exact HNO.out _ _ HG.out (Kept.refl _ _)
  · by_cases h1 : 8191 < o
    · have HG := Lib.hid (put_arg h body (.inr (.inl (by rw [HO.out]; exact h1))))
      go_wp2
      go_ret2
      exact HNO.out _ _ HG.out (Kept.refl _ _)
    · obtain ⟨q, rfl⟩ : ∃ q : Nat, o = (q : Int) := ⟨o.toNat, by omega⟩
      have hq : q ≤ 8191 := by omega
      have h0' : ¬ ((q : Int) < 0) := h0
      clear h0 hob
      obtain ⟨O, hO⟩ : ∃ O, optsM h.x = O := ⟨_, rfl⟩
      have cO := gopts_yes _ _ _ _ W HX.out (by omega)
      rw [hO] at cO
      have CO := Lib.hid cO
      have HOP := Lib.hid hO
      clear hO cO
      go_wp2_with (fail)
      refine CO.out.mono ?_
      rintro e w1 ⟨rfl, rfl⟩
      dsimp only
      cases O with
      | false =>
        have HG := Lib.hid (put_arg h body (.inr (.inr (.inl HOP.out))))
        go_wp2
        go_ret2
        exact HNO.out _ _ HG.out (Kept.refl _ _)
      | true =>
        obtain ⟨hx40, hx4⟩ := opts_len HOP.out
        rw [HXL.out] at hx40 hx4
        obtain ⟨F, hF⟩ : ∃ F, fitsM h m = F := ⟨_, rfl⟩
        have cF := gfits_yes h A n c m (by rw [HO.out]; omega) (by omega) W
        rw [hF] at cF
        have CF := Lib.hid cF
        have HF := Lib.hid hF
        clear hF cF
        go_wp2_with (first
          | (refine wpList_ld rfl _ _ rfl w.heap.size 0 rfl (hcs h A n c) HP.out.all _ Tryd.underlying34 rfl (infH _ _ _ _) ?_; simp only [Act.put, List.setIfInBounds_toArray, List.set_cons_succ, List.set_cons_zero])
          | fail)
        refine CF.out.mono ?_
        rintro e U ⟨rfl, hk1⟩
        dsimp only
        have HK0 := Lib.hid hk1
        clear hk1
        cases F with
        | false =>
          have HG := Lib.hid (put_arg h body (.inr (.inr (.inr (by rw [HYL.out]; exact HF.out)))))
          go_wp2
          go_ret2
          exact HNO.out _ _ HG.out HK0.out
        | true =>
          have HGOOD := Lib.hid (show ¬ (h.o < 0 ∨ 8191 < h.o ∨ optsM h.x = false ∨ fitsM h body.length = false) by
            rw [HO.out, HOP.out, HYL.out, HF.out]
            simp
            omega)
          have hPU := HP.out.kept HK0.out (fun hf => hf)
          have d10 := hPU.cx
          obtain ⟨q6, hq6⟩ : ∃ k : Nat, 20 + n = k := ⟨_, rfl⟩
          obtain ⟨T, hT⟩ : ∃ k : Nat, q6 + m = k := ⟨_, rfl⟩
          have hq6' : 20 + (n : Int) = (q6 : Int) := by omega
          have hT' : (q6 : Int) + (m : Int) = (T : Int) := by omega
          clear hPU CF CO c7 c10
          by_cases hbig : 65535 < T
          · have hbig' : (65535 : Int) < (T : Int) := by omega
            have HG := Lib.hid (put_long h body HGOOD.out (by rw [HXL.out, HYL.out]; omega))
            go_wp2
            go_ret2
            exact HNO.out _ _ HG.out HK0.out
          · have hbig' : ¬ (65535 : Int) < (T : Int) := by omega
            have HG := Lib.hid (put_laid h body HGOOD.out (by rw [HXL.out, HYL.out]; omega))
            have hPU := HP.out.kept HK0.out (fun hf => hf)
            have d7 := hPU.co
            have d4 := hPU.ce
            have d5 := hPU.cd
            have d6 := hPU.cm
            rw [HO.out] at d7
            obtain ⟨be, hbe⟩ : ∃ x, h.e = x := ⟨_, rfl⟩
            obtain ⟨bd, hbd⟩ : ∃ x, h.d = x := ⟨_, rfl⟩
            obtain ⟨bm, hbm⟩ : ∃ x, h.m = x := ⟨_, rfl⟩
            rw [hbe] at d4
            rw [hbd] at d5
            rw [hbm] at d6
            have HBI := Lib.hid (show bitsM h = q + (if be then 32768 else 0) + (if bd then 16384 else 0) + (if bm then 8192 else 0) by
              unfold bitsM
              rw [HO.out, hbe, hbd, hbm]
              rfl)
            clear hbe hbd hbm hPU HGOOD
            go_upto_if 43 with (fail)
            go_cut [7] from 44 to 45 (fun s wx => s = .int .i64 ((q + (if be then 32768 else 0) : Nat) : Int) ∧ U = wx)
            case first =>
              cases be with
              | true =>
                go_wp2_with (fail)
                go_meet
                exact ⟨rfl, rfl⟩
              | false =>
                go_wp2_with (fail)
                go_meet
                exact ⟨rfl, rfl⟩
            case rest =>
              obtain ⟨rfl, rfl⟩ := hcut
              obtain ⟨q1, hq1⟩ : ∃ x, q + (if be then 32768 else 0) = x := ⟨_, rfl⟩
              have hq1b : q1 ≤ 8191 + 32768 := by rw [← hq1]; split <;> omega
              have hbi := HBI.out
              rw [hq1] at hbi ⊢
              have HBI1 := Lib.hid hbi
              clear hbi HBI hq1 d4
              go_upto_if 47 with (fail)
              go_cut [7] from 48 to 49 (fun s wx => s = .int .i64 ((q1 + (if bd then 16384 else 0) : Nat) : Int) ∧ U = wx)
              case first =>
                cases bd with
                | true =>
                  go_wp2_with (fail)
                  go_meet
                  exact ⟨rfl, rfl⟩
                | false =>
                  go_wp2_with (fail)
                  go_meet
                  exact ⟨rfl, rfl⟩
              case rest =>
                obtain ⟨rfl, rfl⟩ := hcut
                obtain ⟨q2, hq2⟩ : ∃ x, q1 + (if bd then 16384 else 0) = x := ⟨_, rfl⟩
                have hq2b : q2 ≤ 8191 + 32768 + 16384 := by rw [← hq2]; split <;> omega
                have hbi := HBI1.out
                rw [hq2] at hbi ⊢
                have HBI2 := Lib.hid hbi
                clear hbi HBI1 hq2 d5
                go_upto_if 51 with (fail)
                go_cut [7] from 52 to 53 (fun s wx => s = .int .i64 ((q2 + (if bm then 8192 else 0) : Nat) : Int) ∧ U = wx)
                case first =>
                  cases bm with
                  | true =>
                    go_wp2_with (fail)
                    go_meet
                    exact ⟨rfl, rfl⟩
                  | false =>
                    go_wp2_with (fail)
                    go_meet
                    exact ⟨rfl, rfl⟩
                case rest =>
                  obtain ⟨rfl, rfl⟩ := hcut
                  obtain ⟨q3, hq3⟩ : ∃ x, q2 + (if bm then 8192 else 0) = x := ⟨_, rfl⟩
                  have hq3b : q3 ≤ 65535 := by rw [← hq3]; split <;> omega
                  have hbi := HBI2.out
                  rw [hq3] at hbi ⊢
                  have HBI3 := Lib.hid hbi
                  clear hbi HBI2 hq3 d6
                  obtain ⟨u0, hu0⟩ : ∃ u : UInt8, UInt8.ofNat (64 + (20 + h.x.length) / 4) = u := ⟨_, rfl⟩
                  have hu1 : (64 : Int) + (q6 : Int) / 4 = (u0.toNat : Int) := by
                    rw [← hu0, HXL.out, UInt8.toNat_ofNat']
                    omega
                  have hwu : IntKind.wrap .u8 (u0.toNat : Int) = (u0.toNat : Int) := IntWalk.u8_in _ (by have := u0.toNat_lt; omega)
                  have HHZ := Lib.hid (head_zero h T q3 u0 hu0 HBI3.out)
                  clear hu0
                  have d0 := (HP.out.kept HK0.out (fun hf => hf)).ct
                  obtain ⟨i0, hi, hz0, hz1, hz2⟩ := info_parts Tryd.infb
                  have hka := (Kept.refl Nil U).alloc (.cells #[.int .u8 (u0.toNat : Int), .int .u8 (h.t.toNat : Int)] 5)
                  have hol : (U.alloc (.cells #[.int .u8 (u0.toNat : Int), .int .u8 (h.t.toNat : Int)] 5)).ownsRow U.heap.size 5 1 (.slice (some ⟨U.heap.size, 0, none⟩) 2 2) 2 (bys [u0, h.t]) := own_lits [u0, h.t] _ _ rfl 2 rfl (by show 2 ≤ _; decide)
                  go_upto_region 14 with (fail)
                  refine wp_nameE (fun V => V.ownsRow W.heap.size 5 1 (.slice (some ⟨U.heap.size, 0, none⟩) 2 2) 2 (bys [u0, h.t]) ∧ Kept Nil W V) ⟨own_mono hol HK0.out.size, HK0.out.then hka⟩ ?_
                  clear hol hka d0 hu1 hwu
                  rintro w0 ⟨ho0, hk0⟩
                  have HO0 := Lib.hid ho0
                  have HK0 := Lib.hid hk0
                  clear ho0 hk0
                  go_wp2_with (fail)
                  refine (glay2 T _ (by omega)).mono ?_
                  rintro e y1 ⟨z1, rfl, hml⟩
                  dsimp only
                  obtain ⟨Al, cl, hv, hyl, -⟩ := byt_own hml
                  rw [beM_len] at hv hyl
                  subst hv
                  have HOY := Lib.hid (own_kept HO0.out hml.2 (fun _ _ hf => hf))
                  have HKY := Lib.hid (HK0.out.then hml.2)
                  have HZL := Lib.hid hyl
                  clear hml hyl
                  go_upto_region 15 with (first
                    | (at_builtin; refine wpList_any rfl _ _ 25 rfl W.heap.size 5 i0 (.int .u8 0) Tryd.underlying25 hi hz0 hz1 hz2 rfl (.slice (some ⟨U.heap.size, 0, none⟩) 2 2) 2 (bys ([u0, h.t])) rfl HOY.out Al 2 cl (beM 2 T) rfl HZL.out (by decide) HKY.out.size ?_; intro v1 w1 hown hgr _)
                    | fail)
                  have hkg : Kept (fun i => Value.ownBlock (.slice (some ⟨U.heap.size, 0, none⟩) 2 2) = some i) y1 w1 := (Kept.refl _ _).grown hgr (fun i hi _ => hi)
                  rw [← bys_app, show 2 + 2 = 4 from rfl] at hown
                  have HK1 := Lib.hid (HKY.out.fresh hkg (fun i hi => (HOY.out.lt i hi).1))
                  have HO1 := Lib.hid hown
                  clear hown hgr hkg HOY HKY HZL HO0 HK0
                  have dd := (HP.out.kept HK1.out (fun hf => hf)).ci
                  have hwi : IntKind.wrap .i64 (h.i : Int) = (h.i : Int) := by rw [IntKind.wrap_i64]; have := HOK.out.i; omega
                  go_wp2_with (fail)
                  refine (glay2 h.i _ (by have := HOK.out.i; omega)).mono ?_
                  rintro e y2 ⟨z2, rfl, hml⟩
                  dsimp only
                  obtain ⟨Al, cl, hv, hyl, -⟩ := byt_own hml
                  rw [beM_len] at hv hyl
                  subst hv
                  have HOY := Lib.hid (own_kept HO1.out hml.2 (fun _ _ hf => hf))
                  have HKY := Lib.hid (HK1.out.then hml.2)
                  have HZL := Lib.hid hyl
                  clear hml hyl dd hwi
                  go_upto_region 16 with (first
                    | (at_builtin; refine wpList_any rfl _ _ 25 rfl W.heap.size 5 i0 (.int .u8 0) Tryd.underlying25 hi hz0 hz1 hz2 rfl v1 4 (bys ([u0, h.t] ++ beM 2 T)) rfl HOY.out Al 2 cl (beM 2 h.i) rfl HZL.out (by decide) HKY.out.size ?_; intro v2 w2 hown hgr _)
                    | fail)
                  have hkg : Kept (fun i => Value.ownBlock v1 = some i) y2 w2 := (Kept.refl _ _).grown hgr (fun i hi _ => hi)
                  rw [← bys_app, show 4 + 2 = 6 from rfl] at hown
                  have HK2 := Lib.hid (HKY.out.fresh hkg (fun i hi => (HOY.out.lt i hi).1))
                  have HO2 := Lib.hid hown
                  clear hown hgr hkg HOY HKY HZL HO1 HK1
                  go_wp2_with (fail)
                  refine (glay2 q3 _ (by omega)).mono ?_
                  rintro e y3 ⟨z3, rfl, hml⟩
                  dsimp only
                  obtain ⟨Al, cl, hv, hyl, -⟩ := byt_own hml
                  rw [beM_len] at hv hyl
                  subst hv
                  have HOY := Lib.hid (own_kept HO2.out hml.2 (fun _ _ hf => hf))
                  have HKY := Lib.hid (HK2.out.then hml.2)
                  have HZL := Lib.hid hyl
                  clear hml hyl
                  go_upto_region 17 with (first
                    | (at_builtin; refine wpList_any rfl _ _ 25 rfl W.heap.size 5 i0 (.int .u8 0) Tryd.underlying25 hi hz0 hz1 hz2 rfl v2 6 (bys ([u0, h.t] ++ beM 2 T ++ beM 2 h.i)) rfl HOY.out Al 2 cl (beM 2 q3) rfl HZL.out (by decide) HKY.out.size ?_; intro v3 w3 hown hgr _)
                    | fail)
                  have hkg : Kept (fun i => Value.ownBlock v2 = some i) y3 w3 := (Kept.refl _ _).grown hgr (fun i hi _ => hi)
                  rw [← bys_app, show 6 + 2 = 8 from rfl] at hown
                  have HK3 := Lib.hid (HKY.out.fresh hkg (fun i hi => (HOY.out.lt i hi).1))
                  have HO3 := Lib.hid hown
                  clear hown hgr hkg HOY HKY HZL HO2 HK2
                  have dl := (HP.out.kept HK3.out (fun hf => hf)).cl
                  have dp := (HP.out.kept HK3.out (fun hf => hf)).cp
                  have hka := (Kept.refl Nil w3).alloc (.cells #[.int .u8 (h.l.toNat : Int), .int .u8 (h.p.toNat : Int), .int .u8 0, .int .u8 0] 5)
                  have HOY := Lib.hid (own_kept HO3.out hka (fun _ _ hf => hf))
                  have HKY := Lib.hid (HK3.out.then hka)
                  go_upto_region 18 with (first
                    | (at_builtin; refine wpList_any rfl _ _ 25 rfl W.heap.size 5 i0 (.int .u8 0) Tryd.underlying25 hi hz0 hz1 hz2 rfl v3 8 (bys ([u0, h.t] ++ beM 2 T ++ beM 2 h.i ++ beM 2 q3)) rfl HOY.out _ 4 4 [h.l, h.p, 0, 0] rfl (byt_lit _ [h.l, h.p, 0, 0] _ _ rfl 4 rfl _ rfl (by show 4 ≤ _; decide)) (by decide) HKY.out.size ?_; intro v4 w4 hown hgr _)
                    | fail)
                  have hkg : Kept (fun i => Value.ownBlock v3 = some i) _ w4 := (Kept.refl _ _).grown hgr (fun i hi _ => hi)
                  rw [← bys_app, show 8 + 4 = 12 from rfl] at hown
                  have HK4 := Lib.hid (HKY.out.fresh hkg (fun i hi => (HOY.out.lt i hi).1))
                  have HO4 := Lib.hid hown
                  clear hown hgr hkg HOY HKY HO3 HK3 hka dl dp
                  have dd := (HP.out.kept HK4.out (fun hf => hf)).cs
                  have hwi : IntKind.wrap .i64 (h.s : Int) = (h.s : Int) := by rw [IntKind.wrap_i64]; have := HOK.out.s; omega
                  go_wp2_with (fail)
                  refine (glay4 h.s _ HOK.out.s).mono ?_
                  rintro e y5 ⟨z5, rfl, hml⟩
                  dsimp only
                  obtain ⟨Al, cl, hv, hyl, -⟩ := byt_own hml
                  rw [beM_len] at hv hyl
                  subst hv
                  have HOY := Lib.hid (own_kept HO4.out hml.2 (fun _ _ hf => hf))
                  have HKY := Lib.hid (HK4.out.then hml.2)
                  have HZL := Lib.hid hyl
                  clear hml hyl dd hwi
                  go_upto_region 19 with (first
                    | (at_builtin; refine wpList_any rfl _ _ 25 rfl W.heap.size 5 i0 (.int .u8 0) Tryd.underlying25 hi hz0 hz1 hz2 rfl v4 12 (bys ([u0, h.t] ++ beM 2 T ++ beM 2 h.i ++ beM 2 q3 ++ [h.l, h.p, 0, 0])) rfl HOY.out Al 4 cl (beM 4 h.s) rfl HZL.out (by decide) HKY.out.size ?_; intro v5 w5 hown hgr _)
                    | fail)
                  have hkg : Kept (fun i => Value.ownBlock v4 = some i) y5 w5 := (Kept.refl _ _).grown hgr (fun i hi _ => hi)
                  rw [← bys_app, show 12 + 4 = 16 from rfl] at hown
                  have HK5 := Lib.hid (HKY.out.fresh hkg (fun i hi => (HOY.out.lt i hi).1))
                  have HO5 := Lib.hid hown
                  clear hown hgr hkg HOY HKY HZL HO4 HK4
                  have dd := (HP.out.kept HK5.out (fun hf => hf)).cg
                  have hwi : IntKind.wrap .i64 (h.g : Int) = (h.g : Int) := by rw [IntKind.wrap_i64]; have := HOK.out.g; omega
                  go_wp2_with (fail)
                  refine (glay4 h.g _ HOK.out.g).mono ?_
                  rintro e y6 ⟨z6, rfl, hml⟩
                  dsimp only
                  obtain ⟨Al, cl, hv, hyl, -⟩ := byt_own hml
                  rw [beM_len] at hv hyl
                  subst hv
                  have HOY := Lib.hid (own_kept HO5.out hml.2 (fun _ _ hf => hf))
                  have HKY := Lib.hid (HK5.out.then hml.2)
                  have HZL := Lib.hid hyl
                  clear hml hyl dd hwi
                  go_upto_region 20 with (first
                    | (at_builtin; refine wpList_any rfl _ _ 25 rfl W.heap.size 5 i0 (.int .u8 0) Tryd.underlying25 hi hz0 hz1 hz2 rfl v5 16 (bys ([u0, h.t] ++ beM 2 T ++ beM 2 h.i ++ beM 2 q3 ++ [h.l, h.p, 0, 0] ++ beM 4 h.s)) rfl HOY.out Al 4 cl (beM 4 h.g) rfl HZL.out (by decide) HKY.out.size ?_; intro v6 w6 hown hgr _)
                    | fail)
                  have hkg : Kept (fun i => Value.ownBlock v5 = some i) y6 w6 := (Kept.refl _ _).grown hgr (fun i hi _ => hi)
                  rw [← bys_app, show 16 + 4 = 20 from rfl] at hown
                  have HK6 := Lib.hid (HKY.out.fresh hkg (fun i hi => (HOY.out.lt i hi).1))
                  have HO6 := Lib.hid hown
                  clear hown hgr hkg HOY HKY HZL HO5 HK5
                  have dx := (HP.out.kept HK6.out (fun hf => hf)).cx
                  go_upto_region 21 with (first
                    | (at_builtin; refine wpList_any rfl _ _ 25 rfl W.heap.size 5 i0 (.int .u8 0) Tryd.underlying25 hi hz0 hz1 hz2 rfl v6 20 (bys ([u0, h.t] ++ beM 2 T ++ beM 2 h.i ++ beM 2 q3 ++ [h.l, h.p, 0, 0] ++ beM 4 h.s ++ beM 4 h.g)) rfl HO6.out A n c h.x rfl (HX.out.kept HK6.out (fun _ _ hf => hf)) (by omega) HK6.out.size ?_; intro v7 w7 hown hgr _)
                    | fail)
                  have hkg : Kept (fun i => Value.ownBlock v6 = some i) _ w7 := (Kept.refl _ _).grown hgr (fun i hi _ => hi)
                  rw [← bys_app, hq6, ← HHZ.out] at hown
                  have HK7 := Lib.hid (HK6.out.fresh hkg (fun i hi => (HO6.out.lt i hi).1))
                  have HLEN := Lib.hid (show (headB h T 0).length = q6 by have := hown.1; simpa [bys] using this)
                  obtain ⟨S, hS⟩ : ∃ S, sumM (headB h T 0) = S := ⟨_, rfl⟩
                  have hsm := head_sum h T S
                  have hg := HG.out
                  rw [HXL.out, HYL.out, hq6, hT, hS, hsm] at hg
                  have hS6 : S ≤ 65535 := by rw [← hS]; unfold sumM; omega
                  generalize headB h T 0 = L at hg hown hS HLEN
                  obtain ⟨A9, c9, hv9, hby9, -⟩ := Byt.of_own hown
                  subst hv9
                  have HO7 := Lib.hid hown
                  have HBY := Lib.hid hby9
                  have HG2 := Lib.hid hg
                  have HSS := Lib.hid hS
                  clear hown hgr hkg dx HO6 HK6 hS hg hsm HHZ HBI3 hby9 HG
                  go_wp2_with (fail)
                  refine (gsum_yes A9 q6 c9 L _ HBY.out (by omega)).mono ?_
                  rintro e w8 ⟨rfl, rfl⟩
                  dsimp only
                  rw [HSS.out]
                  obtain ⟨g9, hg9, hge⟩ : ∃ g, A9 = some ⟨g, 0, none⟩ ∧ W.heap.size ≤ g := by
                    rcases HO7.out.2 with ⟨e, h0⟩ | ⟨g, cap, cur, e, hb, hr⟩
                    · omega
                    · injection e with e1 e2 e3
                      exact ⟨g, e1, hb⟩
                  subst hg9
                  have HGE := Lib.hid hge
                  obtain ⟨x10, hx10⟩ : ∃ x, L[10]? = some x := ⟨L[10]'(by rw [HLEN.out]; omega), List.getElem?_eq_getElem _⟩
                  have c10 := byt_ge HBY.out 10 x10 hx10
                  rw [show 0 + 10 = 10 from rfl] at c10
                  have f10 := HO7.out.frozenAt 10
                  have hws : IntKind.wrap .u8 ((S : Int) / 256) = (S : Int) / 256 := IntWalk.u8_in _ (by omega)
                  have h10 : 10 < q6 := by omega
                  have hb1 : ((UInt8.ofNat (S / 256)).toNat : Int) = (S : Int) / 256 := by rw [UInt8.toNat_ofNat']; omega
                  have hst := (HO7.out.stored 10 (.int .u8 ((S : Int) / 256)))
                  rw [← hb1, bys_put] at hst
                  have HST := Lib.hid hst
                  rw [← hb1] at hws
                  have hqd : (S : Int) / 256 = ((UInt8.ofNat (S / 256)).toNat : Int) := hb1.symm
                  clear hge hx10 hst hb1
                  generalize UInt8.ofNat (S / 256) = a10 at *
                  go_upto_region 23 with (fail)
                  have hk8 := HK7.out.fresh ((Kept.refl (fun i => some g9 = some i) _).grown HST.out.2 (fun i hi _ => hi)) (fun i hi => by cases hi; exact HGE.out)
                  refine wp_nameE (fun V => V.ownsRow W.heap.size 5 1 (.slice (some ⟨g9, 0, none⟩) q6 c9) q6 (bys (L.set 10 a10)) ∧ Kept Nil W V) ⟨HST.out.1, hk8⟩ ?_
                  clear hk8 HST c10 f10 hws hqd HO7 HK7 HBY
                  rintro w9 ⟨ho8, hk8⟩
                  have HO8 := Lib.hid ho8
                  have HK8 := Lib.hid hk8
                  clear ho8 hk8
                  obtain ⟨A8, c8, hv8, hby8, -⟩ := Byt.of_own HO8.out
                  injection hv8 with e1 e2 e3
                  subst e1 e3
                  obtain ⟨x11, hx11⟩ : ∃ x, (L.set 10 a10)[11]? = some x := ⟨(L.set 10 a10)[11]'(by rw [List.length_set, HLEN.out]; omega), List.getElem?_eq_getElem _⟩
                  have c11 := byt_ge hby8 11 x11 hx11
                  rw [show 0 + 11 = 11 from rfl] at c11
                  have f11 := HO8.out.frozenAt 11
                  have hws : IntKind.wrap .u8 ((S : Int) % 256) = (S : Int) % 256 := IntWalk.u8_in _ (by omega)
                  have h11 : 11 < q6 := by omega
                  have hb1 : ((UInt8.ofNat S).toNat : Int) = (S : Int) % 256 := by rw [UInt8.toNat_ofNat']; omega
                  have hst := (HO8.out.stored 11 (.int .u8 ((S : Int) % 256)))
                  rw [← hb1, bys_put] at hst
                  have HST := Lib.hid hst
                  rw [← hb1] at hws
                  have hqd : (S : Int) % 256 = ((UInt8.ofNat S).toNat : Int) := hb1.symm
                  clear hx11 hst hb1 hby8 e2
                  generalize UInt8.ofNat S = a11 at *
                  go_upto_region 24 with (fail)
                  have hk8 := HK8.out.fresh ((Kept.refl (fun i => some g9 = some i) _).grown HST.out.2 (fun i hi _ => hi)) (fun i hi => by cases hi; exact HGE.out)
                  refine wp_nameE (fun V => V.ownsRow W.heap.size 5 1 (.slice (some ⟨g9, 0, none⟩) q6 c9) q6 (bys ((L.set 10 a10).set 11 a11)) ∧ Kept Nil W V) ⟨HST.out.1, hk8⟩ ?_
                  clear hk8 HST c11 f11 hws hqd HO8 HK8
                  rintro w10 ⟨ho9, hk9⟩
                  have HO9 := Lib.hid ho9
                  have HK9 := Lib.hid hk9
                  clear ho9 hk9
                  go_wp2_with (first
                    | (at_builtin; refine wpList_any rfl _ _ 25 rfl W.heap.size 5 i0 (.int .u8 0) Tryd.underlying25 hi hz0 hz1 hz2 rfl (.slice (some ⟨g9, 0, none⟩) q6 c9) q6 (bys ((L.set 10 a10).set 11 a11)) rfl HO9.out B m d body rfl (HY.out.kept HK9.out (fun _ _ hf => hf)) (by omega) HK9.out.size ?_; intro v11 w11 hown hgr _)
                    | fail)
                  have hkg : Kept (fun i => Value.ownBlock (.slice (some ⟨g9, 0, none⟩) q6 c9) = some i) _ w11 := (Kept.refl _ _).grown hgr (fun i hi _ => hi)
                  rw [← bys_app] at hown
                  have HK11 := Lib.hid (HK9.out.fresh hkg (fun i hi => (HO9.out.lt i hi).1))
                  have HO11 := Lib.hid hown
                  have hll : ((L.set 10 a10).set 11 a11 ++ body).length = q6 + m := by rw [List.length_append, List.length_set, List.length_set, HLEN.out, HYL.out]
                  have HLL := Lib.hid hll
                  clear hown hgr hkg hll
                  go_wp2
                  go_ret2
                  refine ⟨_, by rw [HG2.out]; rfl, ?_, HKW.out.then HK11.out⟩
                  rw [HG2.out]
                  show World.ownsRow _ _ _ _ _ _ _
                  rw [HLL.out]
                  exact own_mono HO11.out HKW.out.size
end Go.Proofs.YtflhbidmjlfjkaaDoor
