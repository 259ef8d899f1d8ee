/- tollref06: contract of Read. -/
import Derived.Test.YtflhbidmjlfjkaaDoorRgD
import Derived.Test.YtflhbidmjlfjkaaDoorRgG
import Derived.Test.YtflhbidmjlfjkaaDoorUpto
import Derived.Test.YtflhbidmjlfjkaaDoorEthT
namespace Go.Proofs.YtflhbidmjlfjkaaDoor
open Go.RowKit Go.Sort
set_option linter.unusedVariables false

theorem numL_le {l : List UInt8} {n : Nat} (h : l.length ≤ n) : numM l < 256 ^ n := Nat.lt_of_lt_of_le (numM_lt l) (Nat.pow_le_pow_right (by decide) h)
theorem infBo : (Tryd.prog.info? 4).map (·.size) = some 1 := by kernel_rfl
theorem infU4 : (Tryd.prog.info? 23).map (·.size) = some 1 := by kernel_rfl
theorem infSl : (Tryd.prog.info? 25).map (·.size) = some 1 := by kernel_rfl
theorem wpQuiet_bd {P : Program} {ops : Array Oper} {C : World → Prop} {Q : Act → Prop} {o : Oper} {rest : List Oper} {a : Act} (hgd : Region.wanted o (yielded ops a.tmps) = true) (ty : TypeId) (ps : Array (Nat × Operand)) (ho : o.op = .build ty ps) (xs : Array (Nat × Value)) (hxs : (ps.toList.map fun x => (x.1, a.eval x.2)) = xs.toList) (v : Value)
    (hv : ∀ w, (Instr.build ty xs).run P w = .ok v w) (h : wpQuiet P ops C Q rest (a.put o.dst v)) : wpQuiet P ops C Q (o :: rest) a := by
  have e : (ps.map fun x => (x.1, a.eval x.2)) = xs := Array.toList_inj.1 (by rw [Array.toList_map]; exact hxs)
  unfold wpQuiet
  rw [if_pos hgd]
  refine ⟨v, fun w hw => ?_, h⟩
  unfold Oper.quietAt execOp
  simp only [ho, e, Sem.run_bind, Sem.run_pure, hv, Result.andThen_ok]
  exact ⟨rfl, rfl⟩
theorem build5 (x1 x8 x9 id ot : Int) (w : World) : (Instr.build 34 #[(0, .int .u8 x1), (1, .int .u8 x8), (2, .int .u8 x9), (3, .int .u16 id), (7, .int .i64 ot)]).run Tryd.prog w = .ok (.agg #[.int .u8 x1, .int .u8 x8, .int .u8 x9, .int .u16 id, .bool false, .bool false, .bool false, .int .i64 ot, .int .u32 0, .int .u32 0, .slice none 0 0]) w := by kernel_rfl
/-- What Read answers: a head whose options read so, a body that reads so, a number. -/
def RdIs (w : World) (e : Ending) (r : Hd × List UInt8 × Int) : Prop := ∃ A1 n1 c1 A2 n2 c2, e = .returned (.tuple #[hdv r.1 A1 n1 c1, .slice A2 n2 c2, .int .i64 r.2.2]) ∧ Byt w A1 n1 c1 r.1.x ∧ Byt w A2 n2 c2 r.2.1
theorem RdIs.none (w : World) (er : Int) : RdIs w (.returned (.tuple #[hdv Hd.zero Option.none 0 0, .slice Option.none 0 0, .int .i64 er])) (Hd.zero, [], er) := ⟨_, _, _, _, _, _, rfl, Byt.none w, Byt.none w⟩
theorem read_short (l : List UInt8) (wh : Bool) (h : l.length < 20) : readHM l wh = (Hd.zero, [], 4) := by unfold readHM; rw [if_pos h]
theorem read_form (l : List UInt8) (wh : Bool) (h : ¬ l.length < 20) (h1 : (l.headD 0).toNat / 16 ≠ 4 ∨ hlenM l < 20) : readHM l wh = (Hd.zero, [], 5) := by unfold readHM; rw [if_neg h, if_pos h1]
theorem read_rest (l : List UInt8) (wh : Bool) (h : ¬ l.length < 20) (h1 : ¬ ((l.headD 0).toNat / 16 ≠ 4 ∨ hlenM l < 20)) : readHM l wh =
  if l.length < hlenM l then (Hd.zero, [], 4) else
  if allM l < hlenM l then (Hd.zero, [], 5) else
  if sumM (l.take (hlenM l)) ≠ 0 then (Hd.zero, [], 21) else
  if optsM ((l.take (hlenM l)).drop 20) = false then (Hd.zero, [], 5) else
  if allM l ≤ l.length then (if wh = true ∧ fitsM (hdM l) (allM l - hlenM l) = false then (Hd.zero, [], 5) else (hdM l, (l.take (allM l)).drop (hlenM l), 0)) else
  if wh = true then (Hd.zero, [], 4) else (hdM l, l.drop (hlenM l), 0) := by unfold readHM; rw [if_neg h, if_neg h1]
theorem head_at {l : List UInt8} {x : UInt8} (h : l[0]? = some x) : l.headD 0 = x := by
  cases l with
  | nil => cases h
  | cons a l => simp at h; exact h
theorem hd_is {l : List UInt8} {N bt id vs vg : Nat} {x1 x8 x9 : UInt8} (hN : hlenM l = N) (h1 : l[1]? = some x1) (h8 : l[8]? = some x8) (h9 : l[9]? = some x9) (hi : numM ((l.take 6).drop 4) = id) (hb : numM ((l.drop 6).take 2) = bt) (hs : numM ((l.take 16).drop 12) = vs) (hg : numM ((l.take 20).drop 16) = vg) :
    hdM l = ⟨x1, x8, x9, id, decide ((32768 : Int) ≤ (bt : Int)), ((bt : Int) / 16384 % 2 == 1), ((bt : Int) / 8192 % 2 == 1), ((bt % 8192 : Nat) : Int), vs, vg, (l.take N).drop 20⟩ := by
  unfold hdM
  rw [head_at (l := l.drop 1) (by rw [List.getElem?_drop]; exact h1), head_at (l := l.drop 8) (by rw [List.getElem?_drop]; exact h8), head_at (l := l.drop 9) (by rw [List.getElem?_drop]; exact h9), hN, hb]
  rw [List.drop_take] at hi hs hg
  rw [show (l.drop 4).take 2 = (l.drop 4).take (6 - 4) from rfl, hi, show (l.drop 12).take 4 = (l.drop 12).take (16 - 12) from rfl, hs, show (l.drop 16).take 4 = (l.drop 16).take (20 - 16) from rfl, hg]
  have e1 : decide (32768 ≤ bt) = decide ((32768 : Int) ≤ (bt : Int)) := decide_eq_decide.2 (by omega)
  have e2 : decide (bt / 16384 % 2 = 1) = ((bt : Int) / 16384 % 2 == 1) := by rw [Bool.eq_iff_iff, beq_iff_eq, decide_eq_true_iff]; omega
  have e3 : decide (bt / 8192 % 2 = 1) = ((bt : Int) / 8192 % 2 == 1) := by rw [Bool.eq_iff_iff, beq_iff_eq, decide_eq_true_iff]; omega
  rw [e1, e2, e3]
set_option maxRecDepth 100000 in
set_option maxHeartbeats 4000000 in
theorem gread_yes (A : Option Addr) (n c : Nat) (l : List UInt8) (wh : Bool) (w : World) (h : Byt w A n c l) (hn : n ≤ 1099511627776) : Calls Tryd.prog 19 #[.slice A n c, .bool wh] w fun e w' => RdIs w' e (readHM l wh) ∧ Kept Nil w w' := by
  have hP := HB.new w 34 Hd.zero none 0 0
  have hk := (Kept.refl Nil w).alloc (.cells (hcs Hd.zero none 0 0).toArray 34)
  have hB := h.kept hk (fun _ _ hf => hf)
  have HBL := Lib.hid h.lt
  have HLN := Lib.hid h.1
  have hnc := h.2.1
  have hcc := h.2.2.1
  clear h
  go_enter Tryd.func19, Tryd.ntmps19
  go_upto_region 1 with (fail)
  refine wp_nameE (fun W => HB W w.heap.size 34 Hd.zero none 0 0 ∧ Kept Nil w W ∧ Byt W A n c l ∧ W.heap.size = w.heap.size + 1) ⟨hP, hk, hB, by simp⟩ ?_
  clear hP hk hB
  rintro W ⟨hP, hk, hB, hz⟩
  have HZ := Lib.hid hP
  have HK := Lib.hid hk
  have HY := Lib.hid hB
  have HS := Lib.hid hz
  clear hP hk hB hz
  by_cases h20 : n < 20
  · have h20' : (n : Int) < 20 := by omega
    have HG := Lib.hid (read_short l wh (by rw [HLN.out]; exact h20))
    go_wp2_with (first
      | (refine wpList_st rfl _ (.tmp 4) _ rfl w.heap.size 0 rfl (hcs Hd.zero none 0 0) _ rfl rfl (infH _ _ _ _) 34 _ HZ.out (by rw [hcs_len]; omega) (hcs_one _ _ _ _) ?_; intro w9 hb9 hk9 hz9)
      | fail)
    have h4 : HB w9 w.heap.size 34 Hd.zero none 0 0 := HB.of_all hb9
    refine bodyPost_ret (res_cell2 Tryd.results19 rfl rfl rfl h4.all Tryd.underlying34 rfl (infH _ _ _ _)) rfl ⟨by rw [HG.out]; exact RdIs.none _ _, ?_⟩
    exact HK.out.fresh hk9 (fun i hi => by cases hi; exact Nat.le_refl _)
  · have h20' : ¬ (n : Int) < 20 := by omega
    have hl20 : ¬ l.length < 20 := by rw [HLN.out]; exact h20
    obtain ⟨b, o, rfl, -⟩ := HY.out.2.2.2 (by omega)
    obtain ⟨x0, hx0⟩ : ∃ x, l[0]? = some x := ⟨l[0]'(by omega), List.getElem?_eq_getElem _⟩
    have c0 := byt_ge HY.out 0 x0 hx0
    rw [Nat.add_zero] at c0
    have HX0 := Lib.hid (head_at hx0)
    have hxl := x0.toNat_lt
    obtain ⟨N, hN⟩ : ∃ N, hlenM l = N := ⟨_, rfl⟩
    have hN1 : N = 4 * (x0.toNat % 16) := by rw [← hN]; unfold hlenM; rw [HX0.out]
    have HFORM := Lib.hid (fun h1 => read_form l wh hl20 h1)
    have HREST := Lib.hid (fun h1 => read_rest l wh hl20 h1)
    rw [hN, HX0.out] at HFORM HREST
    have hN60 : N ≤ 60 := by omega
    have HN := Lib.hid hN
    clear hx0 hN
    obtain ⟨X, hX⟩ : ∃ X, x0.toNat = X := ⟨_, rfl⟩
    rw [hX] at c0 hxl hN1 HFORM HREST
    clear hX
    have hNI : 4 * ((X : Int) % 16) = (N : Int) := by omega
    by_cases h4 : X / 16 = 4
    · have h4' : ((X : Int) / 16 != 4) = false := by simp; omega
      by_cases hN20 : N < 20
      · have hN20' : (N : Int) < 20 := by omega
        have HG := Lib.hid (HFORM.out (.inr hN20))
        clear hN1
        go_wp2_with (first
          | (refine wpList_st rfl _ (.tmp 4) _ rfl w.heap.size 0 rfl (hcs Hd.zero none 0 0) _ rfl rfl (infH _ _ _ _) 34 _ HZ.out (by rw [hcs_len]; omega) (hcs_one _ _ _ _) ?_; intro w9 hb9 hk9 hz9)
          | fail)
        have h4 : HB w9 w.heap.size 34 Hd.zero none 0 0 := HB.of_all hb9
        refine bodyPost_ret (res_cell2 Tryd.results19 rfl rfl rfl h4.all Tryd.underlying34 rfl (infH _ _ _ _)) rfl ⟨by rw [HG.out]; exact RdIs.none _ _, ?_⟩
        exact HK.out.fresh hk9 (fun i hi => by cases hi; exact Nat.le_refl _)
      · have hN20' : ¬ (N : Int) < 20 := by omega
        have HG := Lib.hid (HREST.out (by omega))
        clear hN1
        by_cases hnN : n < N
        · have hnN' : (n : Int) < (N : Int) := by omega
          have HG2 := Lib.hid (show readHM l wh = (Hd.zero, [], 4) by rw [HG.out, if_pos (by rw [HLN.out]; exact hnN)])
          clear HG
          have HG := HG2
          go_wp2_with (first
            | (refine wpList_st rfl _ (.tmp 4) _ rfl w.heap.size 0 rfl (hcs Hd.zero none 0 0) _ rfl rfl (infH _ _ _ _) 34 _ HZ.out (by rw [hcs_len]; omega) (hcs_one _ _ _ _) ?_; intro w9 hb9 hk9 hz9)
            | fail)
          have h4 : HB w9 w.heap.size 34 Hd.zero none 0 0 := HB.of_all hb9
          refine bodyPost_ret (res_cell2 Tryd.results19 rfl rfl rfl h4.all Tryd.underlying34 rfl (infH _ _ _ _)) rfl ⟨by rw [HG.out]; exact RdIs.none _ _, ?_⟩
          exact HK.out.fresh hk9 (fun i hi => by cases hi; exact Nat.le_refl _)
        · have hnN' : ¬ (n : Int) < (N : Int) := by omega
          have hg := HG.out
          rw [if_neg (by rw [HLN.out]; exact hnN)] at hg
          have hcut := fun (lo hi : Nat) (x y : Int) (hx : x = (lo : Int)) (hy : y = (hi : Int)) (h1 : lo ≤ hi) (h2 : hi ≤ c) => run_cut (P := Tryd.prog) Tryd.underlying25 inf5.1 inf5.2 (some ⟨b, o, none⟩) n c lo hi x y hx hy h1 h2
          obtain ⟨AP, hAP⟩ : ∃ B, cutA (some ⟨b, o, none⟩) c 2 = B := ⟨_, rfl⟩
          obtain ⟨cP, hcP⟩ : ∃ k, c - 2 = k := ⟨_, rfl⟩
          have hsP : ∀ w, (Instr.slice 25 (.slice (some ⟨b, o, none⟩) n c) (some (.int .i64 2)) (some (.int .i64 (4 : Int))) none).run Tryd.prog w = .ok (.slice AP (2) cP) w := fun w => by
            have := hcut 2 4 2 (4 : Int) rfl rfl (by omega) (by omega) w
            rw [hAP, hcP] at this
            exact this
          have hbP := HY.out.cut (lo := 2) (hi := 4) (by omega) (by omega)
          rw [hAP, hcP] at hbP
          obtain ⟨AQ, hAQ⟩ : ∃ B, cutA (some ⟨b, o, none⟩) c 6 = B := ⟨_, rfl⟩
          obtain ⟨cQ, hcQ⟩ : ∃ k, c - 6 = k := ⟨_, rfl⟩
          have hsQ : ∀ w, (Instr.slice 25 (.slice (some ⟨b, o, none⟩) n c) (some (.int .i64 6)) (some (.int .i64 (8 : Int))) none).run Tryd.prog w = .ok (.slice AQ (2) cQ) w := fun w => by
            have := hcut 6 8 6 (8 : Int) rfl rfl (by omega) (by omega) w
            rw [hAQ, hcQ] at this
            exact this
          have hbQ := HY.out.cut (lo := 6) (hi := 8) (by omega) (by omega)
          rw [hAQ, hcQ] at hbQ
          obtain ⟨AR, hAR⟩ : ∃ B, cutA (some ⟨b, o, none⟩) c 20 = B := ⟨_, rfl⟩
          obtain ⟨cR, hcR⟩ : ∃ k, c - 20 = k := ⟨_, rfl⟩
          have hsR : ∀ w, (Instr.slice 25 (.slice (some ⟨b, o, none⟩) n c) (some (.int .i64 20)) (some (.int .i64 (N : Int))) none).run Tryd.prog w = .ok (.slice AR ((N - 20)) cR) w := fun w => by
            have := hcut 20 N 20 (N : Int) rfl rfl (by omega) (by omega) w
            rw [hAR, hcR] at this
            exact this
          have hbR := HY.out.cut (lo := 20) (hi := N) (by omega) (by omega)
          rw [hAR, hcR] at hbR
          have hsH := run_cut_hi (P := Tryd.prog) Tryd.underlying25 inf5.1 (some ⟨b, o, none⟩) n c N (N : Int) rfl (by omega)
          have hbH := HY.out.pre (hi := N) (by omega)
          have e24 : (l.take 4).drop 2 = (l.drop 2).take 2 := List.drop_take ..
          have e68 : (l.take 8).drop 6 = (l.drop 6).take 2 := List.drop_take ..
          have cP := gnum_yes _ _ _ _ W hbP (by decide)
          have cQ := gnum_yes _ _ _ _ W hbQ (by decide)
          have cR := gopts_yes _ _ _ _ W hbR (by omega)
          have cH := gsum_yes _ _ _ _ W hbH (by omega)
          rw [e24] at cP
          rw [e68] at cQ
          obtain ⟨a, ha⟩ : ∃ a, allM l = a := ⟨_, rfl⟩
          rw [show numM ((l.drop 2).take 2) = allM l from rfl] at cP
          rw [ha] at cP hg
          have ha6 : a < 65536 := by rw [← ha]; exact numL_le (n := 2) (by simp; omega)
          have hq6 : numM ((l.drop 6).take 2) < 65536 := numL_le (n := 2) (by simp; omega)
          have HA := Lib.hid ha
          have CP := Lib.hid cP
          have CQ := Lib.hid cQ
          have CR := Lib.hid cR
          have CH := Lib.hid cH
          have HG1 := Lib.hid hg
          obtain ⟨AI, hAI⟩ : ∃ B, cutA (some ⟨b, o, none⟩) c 4 = B := ⟨_, rfl⟩
          obtain ⟨cI, hcI⟩ : ∃ k, c - 4 = k := ⟨_, rfl⟩
          have hsI : ∀ w, (Instr.slice 25 (.slice (some ⟨b, o, none⟩) n c) (some (.int .i64 4)) (some (.int .i64 (6 : Int))) none).run Tryd.prog w = .ok (.slice AI (2) cI) w := fun w => by
            have := hcut 4 6 4 (6 : Int) rfl rfl (by omega) (by omega) w
            rw [hAI, hcI] at this
            exact this
          have hbI := HY.out.cut (lo := 4) (hi := 6) (by omega) (by omega)
          rw [hAI, hcI] at hbI
          obtain ⟨AS, hAS⟩ : ∃ B, cutA (some ⟨b, o, none⟩) c 12 = B := ⟨_, rfl⟩
          obtain ⟨cS, hcS⟩ : ∃ k, c - 12 = k := ⟨_, rfl⟩
          have hsS : ∀ w, (Instr.slice 25 (.slice (some ⟨b, o, none⟩) n c) (some (.int .i64 12)) (some (.int .i64 (16 : Int))) none).run Tryd.prog w = .ok (.slice AS (4) cS) w := fun w => by
            have := hcut 12 16 12 (16 : Int) rfl rfl (by omega) (by omega) w
            rw [hAS, hcS] at this
            exact this
          have hbS := HY.out.cut (lo := 12) (hi := 16) (by omega) (by omega)
          rw [hAS, hcS] at hbS
          obtain ⟨AG, hAG⟩ : ∃ B, cutA (some ⟨b, o, none⟩) c 16 = B := ⟨_, rfl⟩
          obtain ⟨cG, hcG⟩ : ∃ k, c - 16 = k := ⟨_, rfl⟩
          have hsG : ∀ w, (Instr.slice 25 (.slice (some ⟨b, o, none⟩) n c) (some (.int .i64 16)) (some (.int .i64 (20 : Int))) none).run Tryd.prog w = .ok (.slice AG (4) cG) w := fun w => by
            have := hcut 16 20 16 (20 : Int) rfl rfl (by omega) (by omega) w
            rw [hAG, hcG] at this
            exact this
          have hbG := HY.out.cut (lo := 16) (hi := 20) (by omega) (by omega)
          rw [hAG, hcG] at hbG
          have HBI := Lib.hid hbI
          have HBS := Lib.hid hbS
          have HBG := Lib.hid hbG
          have HBR := Lib.hid hbR
          have HBH := Lib.hid hbH
          obtain ⟨x1, hx1⟩ : ∃ x, l[1]? = some x := ⟨l[1]'(by omega), List.getElem?_eq_getElem _⟩
          obtain ⟨x8, hx8⟩ : ∃ x, l[8]? = some x := ⟨l[8]'(by omega), List.getElem?_eq_getElem _⟩
          obtain ⟨x9, hx9⟩ : ∃ x, l[9]? = some x := ⟨l[9]'(by omega), List.getElem?_eq_getElem _⟩
          have HX1 := Lib.hid hx1
          have HX8 := Lib.hid hx8
          have HX9 := Lib.hid hx9
          clear hx1 hx8 hx9 hbI hbS hbG
          clear hcut e24 e68 ha cP cQ cR cH HG hg hbP hbQ hbR hbH
          obtain ⟨S, hS⟩ : ∃ S, sumM (l.take N) = S := ⟨_, rfl⟩
          obtain ⟨O, hO⟩ : ∃ O, optsM ((l.take N).drop 20) = O := ⟨_, rfl⟩
          rw [hS, hO] at HG1
          rw [hS] at CH
          rw [hO] at CR
          have HSO := Lib.hid (And.intro hS hO)
          clear hS hO
          go_wp2_with (fail)
          refine CP.out.mono ?_
          rintro e w1 ⟨rfl, rfl⟩
          by_cases haN : a < N
          · have haN' : (a : Int) < (N : Int) := by omega
            have HG := Lib.hid (show readHM l wh = (Hd.zero, [], 5) by rw [HG1.out, if_pos haN])
            go_wp2_with (first
              | (refine wpList_st rfl _ (.tmp 4) _ rfl w.heap.size 0 rfl (hcs Hd.zero none 0 0) _ rfl rfl (infH _ _ _ _) 34 _ HZ.out (by rw [hcs_len]; omega) (hcs_one _ _ _ _) ?_; intro w9 hb9 hk9 hz9)
              | fail)
            have h4 : HB w9 w.heap.size 34 Hd.zero none 0 0 := HB.of_all hb9
            refine bodyPost_ret (res_cell2 Tryd.results19 rfl rfl rfl h4.all Tryd.underlying34 rfl (infH _ _ _ _)) rfl ⟨by rw [HG.out]; exact RdIs.none _ _, ?_⟩
            exact HK.out.fresh hk9 (fun i hi => by cases hi; exact Nat.le_refl _)
          · have haN' : ¬ (a : Int) < (N : Int) := by omega
            have hg := HG1.out
            rw [if_neg haN] at hg
            have HG2 := Lib.hid hg
            clear hg HG1
            go_wp2_with (fail)
            refine CH.out.mono ?_
            rintro e w1 ⟨rfl, rfl⟩
            by_cases hS0 : S = 0
            · have hS0' : ((S : Int) != 0) = false := by simp; omega
              have hg := HG2.out
              rw [if_neg (by simp [hS0])] at hg
              have HG3 := Lib.hid hg
              clear hg HG2
              have HS0 := Lib.hid hS0
              clear hS0
              go_wp2_with (fail)
              refine CR.out.mono ?_
              rintro e w1 ⟨rfl, rfl⟩
              cases O with
              | false =>
                have HG := Lib.hid (show readHM l wh = (Hd.zero, [], 5) by rw [HG3.out, if_pos rfl])
                go_wp2_with (first
                  | (refine wpList_st rfl _ (.tmp 4) _ rfl w.heap.size 0 rfl (hcs Hd.zero none 0 0) _ rfl rfl (infH _ _ _ _) 34 _ HZ.out (by rw [hcs_len]; omega) (hcs_one _ _ _ _) ?_; intro w9 hb9 hk9 hz9)
                  | fail)
                have h4 : HB w9 w.heap.size 34 Hd.zero none 0 0 := HB.of_all hb9
                refine bodyPost_ret (res_cell2 Tryd.results19 rfl rfl rfl h4.all Tryd.underlying34 rfl (infH _ _ _ _)) rfl ⟨by rw [HG.out]; exact RdIs.none _ _, ?_⟩
                exact HK.out.fresh hk9 (fun i hi => by cases hi; exact Nat.le_refl _)
              | true =>
                have hg := HG3.out
                rw [if_neg (by simp)] at hg
                have HG4 := Lib.hid hg
                clear hg HG3
                go_wp2_with (fail)
                refine CQ.out.mono ?_
                rintro e w1 ⟨rfl, rfl⟩
                obtain ⟨bt, hbt⟩ : ∃ x, numM ((l.drop 6).take 2) = x := ⟨_, rfl⟩
                rw [hbt] at hq6 ⊢
                have HBT := Lib.hid hbt
                clear hbt
                obtain ⟨id, hid⟩ : ∃ x, numM ((l.take 6).drop 4) = x := ⟨_, rfl⟩
                have hid6 : id < 65536 := by rw [← hid]; exact numL_le (n := 2) (by simp; omega)
                have HID := Lib.hid hid
                clear hid
                have hwI : IntKind.wrap .u16 (id : Int) = (id : Int) := by rw [IntKind.wrap_u16]; omega
                have hbm : (bt : Int) % 8192 = ((bt % 8192 : Nat) : Int) := by omega
                go_wp2_with (fail)
                refine wp_region_own3 Nil (fun _ => none) (fun _ => (hcs Hd.zero none 0 0).toArray) 16 (fun i => undef) (by kernel_rfl) (by kernel_rfl) (by kernel_rfl) ⟨Kept.refl _ _, fun _ _ _ _ h => by cases h⟩ ?_
                apply Exists.intro
                refine And.intro ?hqa ?hta
                case hqa =>
                  intro V hV
                  have hYV := HY.out.kept hV (fun _ _ hf => hf)
                  have y1 := fun d os => byt_ge (hYV.kept (kept_grown' V d os) (fun _ _ hf => hf)) 1 x1 HX1.out
                  have y8 := fun d os => byt_ge (hYV.kept (kept_grown' V d os) (fun _ _ hf => hf)) 8 x8 HX8.out
                  have y9 := fun d os => byt_ge (hYV.kept (kept_grown' V d os) (fun _ _ hf => hf)) 9 x9 HX9.out
                  have hIV := HBI.out.kept hV (fun _ _ hf => hf)
                  have qI := fun d os => gnum_yes _ _ _ _ (grow (redrawn V d) os) (hIV.kept (kept_grown' V d os) (fun _ _ hf => hf)) (by decide)
                  rw [HID.out] at qI
                  have n1 : 1 < n := by omega
                  have n8 : 8 < n := by omega
                  have n9 : 9 < n := by omega
                  clear hYV hIV
                  dsimp only [List.take]
                  iterate 15 (go_big_quiet_step (first | with_reducible exact quietS (qI _ _)))
                  refine wpQuiet_bd rfl _ _ rfl #[(0, .int .u8 (x1.toNat : Int)), (1, .int .u8 (x8.toNat : Int)), (2, .int .u8 (x9.toNat : Int)), (3, .int .u16 (id : Int)), (7, .int .i64 ((bt % 8192 : Nat) : Int))] rfl (.agg (hcs ⟨x1, x8, x9, id, false, false, false, ((bt % 8192 : Nat) : Int), 0, 0, []⟩ none 0 0).toArray) (fun w => build5 _ _ _ _ _ w) ?_
                  exact wpQuiet_nil rfl
                case hta =>
                  intro vt hvt
                  dsimp only [List.drop]
                  refine sLex_alloc 34 rfl rfl (fun _ _ => by kernel_rfl) ?_
                  intro g7 hg7 hL7
                  refine sLex_store 34 (.tmp 10) (.tmp 74) rfl rfl rfl g7 (hcs Hd.zero none 0 0).toArray (hcs ⟨x1, x8, x9, id, false, false, false, ((bt % 8192 : Nat) : Int), 0, 0, []⟩ none 0 0).toArray (by rfl) (by simp [upd]) (by rfl) (by rfl) (by rw [List.size_toArray]; exact infH _ _ _ _) (by simpa using hcs_one ⟨x1, x8, x9, id, false, false, false, ((bt % 8192 : Nat) : Int), 0, 0, []⟩ none 0 0) ?_
                  simp only [Act.put, List.setIfInBounds_toArray, List.set_cons_succ, List.set_cons_zero]
                  intro w5 hh
                  have hq5 : HB w5 g7 34 ⟨x1, x8, x9, id, false, false, false, ((bt % 8192 : Nat) : Int), 0, 0, []⟩ none 0 0 := (hh.own g7 true _ 34 (by simp [upd])).2
                  have hk35 := hh.kept
                  have hgW : w.heap.size + 1 ≤ g7 := by have h1 := HS.out; omega
                  have HH := Lib.hid hq5
                  have HZ5 := Lib.hid (HZ.out.kept hk35 (fun hf => hf))
                  have HY5 := Lib.hid (HY.out.kept hk35 (fun _ _ hf => hf))
                  have HK5 := Lib.hid (HK.out.then hk35)
                  clear hq5 hk35 hh hvt hg7 hL7 HZ HY HK HBS HBG HBR CP CQ CR CH HBI HBH
                  have HH5 := HH
                  clear HH
                  go_upto_region 18 with (first
                    | (refine wpList_st rfl _ _ _ rfl g7 4 rfl [.bool (decide ((32768 : Int) ≤ (bt : Int)))] _ rfl rfl infBo 34 _ HH5.out (by rw [hcs_len, List.length_singleton]; omega) (by intro u hu; simp at hu; subst hu; rfl) ?_; intro w6 hb6 hk6 hz6)
                    | fail)
                  try simp only [Act.put]
                  have HH6 := Lib.hid (show HB w6 g7 34 ⟨x1, x8, x9, id, (decide ((32768 : Int) ≤ (bt : Int))), false, false, ((bt % 8192 : Nat) : Int), 0, 0, []⟩ none 0 0 from hb6)
                  have HZ6 := Lib.hid (HZ5.out.kept hk6 (fun hf => by unfold One at hf; omega))
                  have HY6 := Lib.hid (HY5.out.kept hk6 (fun i hi hf => by have := HBL.out i hi; unfold One at hf; omega))
                  have HK6 := Lib.hid (HK5.out.fresh hk6 (fun i hi => by unfold One at hi; omega))
                  clear hb6 hk6 hz6 HH5 HZ5 HY5 HK5
                  go_upto_region 19 with (first
                    | (refine wpList_st rfl _ _ _ rfl g7 5 rfl [.bool _] _ rfl rfl infBo 34 _ HH6.out (by rw [hcs_len, List.length_singleton]; omega) (by intro u hu; simp at hu; subst hu; rfl) ?_; intro w7 hb7 hk7 hz7)
                    | fail)
                  try simp only [Act.put]
                  have HH7 := Lib.hid (show HB w7 g7 34 ⟨x1, x8, x9, id, (decide ((32768 : Int) ≤ (bt : Int))), ((bt : Int) / 16384 % 2 == 1), false, ((bt % 8192 : Nat) : Int), 0, 0, []⟩ none 0 0 from hb7)
                  have HZ7 := Lib.hid (HZ6.out.kept hk7 (fun hf => by unfold One at hf; omega))
                  have HY7 := Lib.hid (HY6.out.kept hk7 (fun i hi hf => by have := HBL.out i hi; unfold One at hf; omega))
                  have HK7 := Lib.hid (HK6.out.fresh hk7 (fun i hi => by unfold One at hi; omega))
                  clear hb7 hk7 hz7 HH6 HZ6 HY6 HK6
                  go_upto_region 20 with (first
                    | (refine wpList_st rfl _ _ _ rfl g7 6 rfl [.bool _] _ rfl rfl infBo 34 _ HH7.out (by rw [hcs_len, List.length_singleton]; omega) (by intro u hu; simp at hu; subst hu; rfl) ?_; intro w8 hb8 hk8 hz8)
                    | fail)
                  try simp only [Act.put]
                  have HH8 := Lib.hid (show HB w8 g7 34 ⟨x1, x8, x9, id, (decide ((32768 : Int) ≤ (bt : Int))), ((bt : Int) / 16384 % 2 == 1), ((bt : Int) / 8192 % 2 == 1), ((bt % 8192 : Nat) : Int), 0, 0, []⟩ none 0 0 from hb8)
                  have HZ8 := Lib.hid (HZ7.out.kept hk8 (fun hf => by unfold One at hf; omega))
                  have HY8 := Lib.hid (HY7.out.kept hk8 (fun i hi hf => by have := HBL.out i hi; unfold One at hf; omega))
                  have HK8 := Lib.hid (HK7.out.fresh hk8 (fun i hi => by unfold One at hi; omega))
                  clear hb8 hk8 hz8 HH7 HZ7 HY7 HK7
                  obtain ⟨vs, hvs⟩ : ∃ x, numM ((l.take 16).drop 12) = x := ⟨_, rfl⟩
                  have hvs4 : vs < 4294967296 := by rw [← hvs]; exact numL_le (n := 4) (by simp; omega)
                  have Hvs := Lib.hid hvs
                  have hwvs : IntKind.wrap .u32 (vs : Int) = (vs : Int) := by rw [IntKind.wrap_u32]; omega
                  have hbS := HY8.out.cut (lo := 12) (hi := 16) (by omega) (by omega)
                  rw [hAS, hcS] at hbS
                  have qS := gnum_yes _ _ _ _ _ hbS (by decide)
                  rw [hvs] at qS
                  have QS := Lib.hid qS
                  clear hbS qS hvs
                  go_wp2_with (fail)
                  refine QS.out.mono ?_
                  rintro e w1 ⟨rfl, rfl⟩
                  dsimp only
                  go_upto_region 21 with (first
                    | (refine wpList_st rfl _ _ _ rfl g7 8 rfl [.int .u32 (vs : Int)] _ rfl rfl infU4 34 _ HH8.out (by rw [hcs_len, List.length_singleton]; omega) (by intro u hu; simp at hu; subst hu; rfl) ?_; intro w9 hb9 hk9 hz9)
                    | fail)
                  try simp only [Act.put]
                  have HH9 := Lib.hid (show HB w9 g7 34 ⟨x1, x8, x9, id, (decide ((32768 : Int) ≤ (bt : Int))), ((bt : Int) / 16384 % 2 == 1), ((bt : Int) / 8192 % 2 == 1), ((bt % 8192 : Nat) : Int), vs, 0, []⟩ none 0 0 from hb9)
                  have HZ9 := Lib.hid (HZ8.out.kept hk9 (fun hf => by unfold One at hf; omega))
                  have HY9 := Lib.hid (HY8.out.kept hk9 (fun i hi hf => by have := HBL.out i hi; unfold One at hf; omega))
                  have HK9 := Lib.hid (HK8.out.fresh hk9 (fun i hi => by unfold One at hi; omega))
                  clear hb9 hk9 hz9 HH8 HZ8 HY8 HK8
                  obtain ⟨vg, hvg⟩ : ∃ x, numM ((l.take 20).drop 16) = x := ⟨_, rfl⟩
                  have hvg4 : vg < 4294967296 := by rw [← hvg]; exact numL_le (n := 4) (by simp; omega)
                  have Hvg := Lib.hid hvg
                  have hwvg : IntKind.wrap .u32 (vg : Int) = (vg : Int) := by rw [IntKind.wrap_u32]; omega
                  have hbG := HY9.out.cut (lo := 16) (hi := 20) (by omega) (by omega)
                  rw [hAG, hcG] at hbG
                  have qG := gnum_yes _ _ _ _ _ hbG (by decide)
                  rw [hvg] at qG
                  have QG := Lib.hid qG
                  clear hbG qG hvg
                  go_wp2_with (fail)
                  refine QG.out.mono ?_
                  rintro e w1 ⟨rfl, rfl⟩
                  dsimp only
                  go_upto_region 22 with (first
                    | (refine wpList_st rfl _ _ _ rfl g7 9 rfl [.int .u32 (vg : Int)] _ rfl rfl infU4 34 _ HH9.out (by rw [hcs_len, List.length_singleton]; omega) (by intro u hu; simp at hu; subst hu; rfl) ?_; intro w10 hb10 hk10 hz10)
                    | fail)
                  try simp only [Act.put]
                  have HH10 := Lib.hid (show HB w10 g7 34 ⟨x1, x8, x9, id, (decide ((32768 : Int) ≤ (bt : Int))), ((bt : Int) / 16384 % 2 == 1), ((bt : Int) / 8192 % 2 == 1), ((bt % 8192 : Nat) : Int), vs, vg, []⟩ none 0 0 from hb10)
                  have HZ10 := Lib.hid (HZ9.out.kept hk10 (fun hf => by unfold One at hf; omega))
                  have HY10 := Lib.hid (HY9.out.kept hk10 (fun i hi hf => by have := HBL.out i hi; unfold One at hf; omega))
                  have HK10 := Lib.hid (HK9.out.fresh hk10 (fun i hi => by unfold One at hi; omega))
                  clear hb10 hk10 hz10 HH9 HZ9 HY9 HK9
                  go_upto_region 23 with (first
                    | (refine wpList_st rfl _ _ _ rfl g7 10 rfl [.slice AR (N - 20) cR] _ rfl rfl infSl 34 _ HH10.out (by rw [hcs_len, List.length_singleton]; omega) (by intro u hu; simp at hu; subst hu; rfl) ?_; intro w11 hb11 hk11 hz11)
                    | fail)
                  try simp only [Act.put]
                  have HH11 := Lib.hid (show HB w11 g7 34 ⟨x1, x8, x9, id, (decide ((32768 : Int) ≤ (bt : Int))), ((bt : Int) / 16384 % 2 == 1), ((bt : Int) / 8192 % 2 == 1), ((bt % 8192 : Nat) : Int), vs, vg, []⟩ AR (N - 20) cR from hb11)
                  have HZ11 := Lib.hid (HZ10.out.kept hk11 (fun hf => by unfold One at hf; omega))
                  have HY11 := Lib.hid (HY10.out.kept hk11 (fun i hi hf => by have := HBL.out i hi; unfold One at hf; omega))
                  have HK11 := Lib.hid (HK10.out.fresh hk11 (fun i hi => by unfold One at hi; omega))
                  clear hb11 hk11 hz11 HH10 HZ10 HY10 HK10

                  have HX := Lib.hid (hd_is HN.out HX1.out HX8.out HX9.out HID.out HBT.out Hvs.out Hvg.out)
                  have HHO := Lib.hid (show HB w11 g7 34 ⟨x1, x8, x9, id, decide ((32768 : Int) ≤ (bt : Int)), ((bt : Int) / 16384 % 2 == 1), ((bt : Int) / 8192 % 2 == 1), ((bt % 8192 : Nat) : Int), vs, vg, (l.take N).drop 20⟩ AR (N - 20) cR from HH11.out)
                  have hbo : (0 : Int) ≤ ((bt % 8192 : Nat) : Int) ∧ ((bt % 8192 : Nat) : Int) ≤ 8191 := by omega
                  generalize hHd : (⟨x1, x8, x9, id, decide ((32768 : Int) ≤ (bt : Int)), ((bt : Int) / 16384 % 2 == 1), ((bt : Int) / 8192 % 2 == 1), ((bt % 8192 : Nat) : Int), vs, vg, (l.take N).drop 20⟩ : Hd) = H at HX HHO
                  have hHo : 0 ≤ H.o ∧ H.o ≤ 8191 := by rw [← hHd]; exact hbo
                  have HHX := Lib.hid (show H.x = (l.take N).drop 20 by rw [← hHd])
                  have hg := HG4.out
                  rw [HX.out] at hg
                  have HG5 := Lib.hid hg
                  clear hHd hbo hg HG4 HH11
                  refine wp_nameE (fun U => HB U g7 34 H AR (N - 20) cR ∧ HB U w.heap.size 34 Hd.zero none 0 0 ∧ Byt U (some ⟨b, o, none⟩) n c l ∧ Kept Nil w U) ⟨HHO.out, HZ11.out, HY11.out, HK11.out⟩ ?_
                  clear HHO HZ11 HY11 HK11
                  rintro U ⟨u1, u2, u3, u4⟩
                  have HHO := Lib.hid u1
                  have HZ := Lib.hid u2
                  have HY := Lib.hid u3
                  have HK := Lib.hid u4
                  clear u1 u2 u3 u4
                  have hNn : N ≤ n := by omega
                  have hln := HLN.out
                  by_cases haL : a ≤ n
                  · have haL' : (a : Int) ≤ (n : Int) := by omega
                    have hg := HG5.out
                    rw [if_pos (by rw [hln]; exact haL)] at hg
                    have hcut := fun (lo hi : Nat) (x y : Int) (hx : x = (lo : Int)) (hy : y = (hi : Int)) (h1 : lo ≤ hi) (h2 : hi ≤ c) => run_cut (P := Tryd.prog) Tryd.underlying25 inf5.1 inf5.2 (some ⟨b, o, none⟩) n c lo hi x y hx hy h1 h2
                    obtain ⟨AB, hAB⟩ : ∃ B, cutA (some ⟨b, o, none⟩) c N = B := ⟨_, rfl⟩
                    obtain ⟨cB, hcB⟩ : ∃ k, c - N = k := ⟨_, rfl⟩
                    obtain ⟨m, hm⟩ : ∃ k, a - N = k := ⟨_, rfl⟩
                    have hsB : ∀ w, (Instr.slice 25 (.slice (some ⟨b, o, none⟩) n c) (some (.int .i64 (N : Int))) (some (.int .i64 (a : Int))) none).run Tryd.prog w = .ok (.slice AB m cB) w := fun w => by
                      have := hcut N a N a rfl rfl (by omega) (by omega) w
                      rw [hAB, hcB, hm] at this
                      exact this
                    have hbl : ((l.take a).drop N).length = m := by simp; omega
                    rw [hm] at hg
                    clear hcut HG5
                    cases wh with
                    | true =>
                      obtain ⟨f, hf⟩ : ∃ f, fitsM H m = f := ⟨_, rfl⟩
                      rw [hf] at hg
                      go_wp2_with (first
                        | (refine wpList_ld rfl _ _ rfl g7 0 rfl (hcs H AR (N - 20) cR) HHO.out.all _ Tryd.underlying34 rfl (infH _ _ _ _) ?_; simp only [Act.put, List.setIfInBounds_toArray, List.set_cons_succ, List.set_cons_zero])
                        | fail)
                      refine (gfits_yes H AR (N - 20) cR m hHo (by omega) _).mono ?_
                      rintro e w3 ⟨rfl, hk3⟩
                      rw [hf]
                      have HHP := Lib.hid (HHO.out.kept hk3 (fun hf => hf))
                      have HZP := Lib.hid (HZ.out.kept hk3 (fun hf => hf))
                      have HYP := Lib.hid (HY.out.kept hk3 (fun _ _ hf => hf))
                      have HKP := Lib.hid (HK.out.then hk3)
                      clear hk3 HHO HZ HY HK hf
                      have HHO := HHP
                      have HZ := HZP
                      have HY := HYP
                      have HK := HKP
                      clear HHP HZP HYP HKP
                      cases f with
                      | false =>
                        have HG := Lib.hid (show readHM l true = (Hd.zero, [], 5) by rw [hg, if_pos (by simp)])
                        clear hg
                        dsimp only
                        go_wp2_with (first
                          | (refine wpList_st rfl _ (.tmp 4) _ rfl w.heap.size 0 rfl (hcs Hd.zero none 0 0) _ rfl rfl (infH _ _ _ _) 34 _ HZ.out (by rw [hcs_len]; omega) (hcs_one _ _ _ _) ?_; intro w9 hb9 hk9 hz9; simp only [Act.put])
                          | fail)
                        have h4 : HB w9 w.heap.size 34 Hd.zero none 0 0 := HB.of_all hb9
                        refine bodyPost_ret (res_cell2 Tryd.results19 rfl rfl rfl h4.all Tryd.underlying34 rfl (infH _ _ _ _)) rfl ⟨by rw [HG.out]; exact RdIs.none _ _, ?_⟩
                        exact HK.out.fresh hk9 (fun i hi => by cases hi; exact Nat.le_refl _)
                      | true =>
                        have HG := Lib.hid (show readHM l true = (H, (l.take a).drop N, 0) by rw [hg, if_neg (by simp)])
                        clear hg
                        dsimp only
                        go_wp2_with (first
                          | (refine wpList_ld rfl _ _ rfl g7 0 rfl (hcs H AR (N - 20) cR) HHO.out.all _ Tryd.underlying34 rfl (infH _ _ _ _) ?_; simp only [Act.put, List.setIfInBounds_toArray, List.set_cons_succ, List.set_cons_zero])
                          | (refine wpList_st rfl _ (.tmp 4) _ rfl w.heap.size 0 rfl (hcs H AR (N - 20) cR) _ rfl rfl (infH _ _ _ _) 34 _ HZ.out (by rw [hcs_len, hcs_len]; omega) (hcs_one _ _ _ _) ?_; intro w9 hb9 hk9 hz9; simp only [Act.put])
                          | fail)
                        have h4 : HB w9 w.heap.size 34 H AR (N - 20) cR := HB.of_all hb9
                        have hy9 := HY.out.kept hk9 (fun i hi hf => by have := HBL.out i hi; unfold One at hf; omega)
                        have hr9 := hy9.cut (lo := 20) (hi := N) (by omega) (by omega)
                        have hq9 := hy9.cut (lo := N) (hi := a) (by omega) (by omega)
                        rw [hAR, hcR] at hr9
                        rw [hAB, hcB, hm] at hq9
                        refine bodyPost_ret (res_cell2 Tryd.results19 rfl rfl rfl h4.all Tryd.underlying34 rfl (infH _ _ _ _)) rfl ⟨by rw [HG.out]; exact ⟨_, _, _, _, _, _, rfl, by rw [HHX.out]; exact hr9, hq9⟩, ?_⟩
                        exact HK.out.fresh hk9 (fun i hi => by cases hi; exact Nat.le_refl _)
                    | false =>
                      have HG := Lib.hid (show readHM l false = (H, (l.take a).drop N, 0) by rw [hg, if_neg (by simp)])
                      clear hg
                      go_wp2_with (first
                        | (refine wpList_ld rfl _ _ rfl g7 0 rfl (hcs H AR (N - 20) cR) HHO.out.all _ Tryd.underlying34 rfl (infH _ _ _ _) ?_; simp only [Act.put, List.setIfInBounds_toArray, List.set_cons_succ, List.set_cons_zero])
                        | (refine wpList_st rfl _ (.tmp 4) _ rfl w.heap.size 0 rfl (hcs H AR (N - 20) cR) _ rfl rfl (infH _ _ _ _) 34 _ HZ.out (by rw [hcs_len, hcs_len]; omega) (hcs_one _ _ _ _) ?_; intro w9 hb9 hk9 hz9; simp only [Act.put])
                        | fail)
                      have h4 : HB w9 w.heap.size 34 H AR (N - 20) cR := HB.of_all hb9
                      have hy9 := HY.out.kept hk9 (fun i hi hf => by have := HBL.out i hi; unfold One at hf; omega)
                      have hr9 := hy9.cut (lo := 20) (hi := N) (by omega) (by omega)
                      have hq9 := hy9.cut (lo := N) (hi := a) (by omega) (by omega)
                      rw [hAR, hcR] at hr9
                      rw [hAB, hcB, hm] at hq9
                      refine bodyPost_ret (res_cell2 Tryd.results19 rfl rfl rfl h4.all Tryd.underlying34 rfl (infH _ _ _ _)) rfl ⟨by rw [HG.out]; exact ⟨_, _, _, _, _, _, rfl, by rw [HHX.out]; exact hr9, hq9⟩, ?_⟩
                      exact HK.out.fresh hk9 (fun i hi => by cases hi; exact Nat.le_refl _)
                  · have haL' : ¬ (a : Int) ≤ (n : Int) := by omega
                    have hg := HG5.out
                    rw [if_neg (by rw [hln]; exact haL)] at hg
                    clear HG5
                    cases wh with
                    | true =>
                      have HG := Lib.hid (show readHM l true = (Hd.zero, [], 4) by rw [hg, if_pos rfl])
                      clear hg
                      go_wp2_with (first
                        | (refine wpList_st rfl _ (.tmp 4) _ rfl w.heap.size 0 rfl (hcs Hd.zero none 0 0) _ rfl rfl (infH _ _ _ _) 34 _ HZ.out (by rw [hcs_len]; omega) (hcs_one _ _ _ _) ?_; intro w9 hb9 hk9 hz9; simp only [Act.put])
                        | fail)
                      have h4 : HB w9 w.heap.size 34 Hd.zero none 0 0 := HB.of_all hb9
                      refine bodyPost_ret (res_cell2 Tryd.results19 rfl rfl rfl h4.all Tryd.underlying34 rfl (infH _ _ _ _)) rfl ⟨by rw [HG.out]; exact RdIs.none _ _, ?_⟩
                      exact HK.out.fresh hk9 (fun i hi => by cases hi; exact Nat.le_refl _)
                    | false =>
                      have HG := Lib.hid (show readHM l false = (H, l.drop N, 0) by rw [hg, if_neg (by simp)])
                      clear hg
                      obtain ⟨AB, hAB⟩ : ∃ B, cutA (some ⟨b, o, none⟩) c N = B := ⟨_, rfl⟩
                      obtain ⟨cB, hcB⟩ : ∃ k, c - N = k := ⟨_, rfl⟩
                      obtain ⟨m, hm⟩ : ∃ k, n - N = k := ⟨_, rfl⟩
                      have hsB : ∀ w, (Instr.slice 25 (.slice (some ⟨b, o, none⟩) n c) (some (.int .i64 (N : Int))) none none).run Tryd.prog w = .ok (.slice AB m cB) w := fun w => by
                        have := run_cut_lo (P := Tryd.prog) Tryd.underlying25 inf5.1 inf5.2 (some ⟨b, o, none⟩) n c N (N : Int) rfl (by omega) w
                        rw [hAB, hcB, hm] at this
                        exact this
                      have ng : g7 ≠ w.heap.size := by have := HHO.out.lt; omega
                      go_wp2_with (fail)
                      refine wp_region_own3 (One w.heap.size) (upd noOwn w.heap.size (false, (hcs Hd.zero none 0 0).toArray, 34)) (fun _ => #[]) 4 (fun i => if i = 5 then .slice AB m cB else .int .i64 0) (by kernel_rfl) (by kernel_rfl) (by kernel_rfl) (holds_one HZ.out) ?_
                      apply Exists.intro
                      refine And.intro ?hqb ?htb
                      case hqb =>
                        intro V hV
                        have HQ := Lib.hid (HHO.out.kept hV (fun hf => ng hf))
                        dsimp only [List.take]
                        refine wpQuiet_ld rfl _ _ rfl g7 0 rfl (hcs H AR (N - 20) cR) (fun w1 hw => row_grown HQ.out.all hw) _ Tryd.underlying34 rfl (infH _ _ _ _) ?_
                        simp only [Act.put, List.setIfInBounds_toArray, List.set_cons_succ, List.set_cons_zero]
                        iterate 3 (go_big_quiet_step (fail))
                        exact wpQuiet_nil rfl
                      case htb =>
                        intro vt hvt
                        dsimp only [List.drop]
                        refine sLex_store 34 (.tmp 4) (.tmp 123) rfl rfl rfl w.heap.size (hcs Hd.zero none 0 0).toArray (hcs H AR (N - 20) cR).toArray (by rfl) (by simp [upd]) (by rfl) (by rfl) (by rw [List.size_toArray]; exact infH _ _ _ _) (by simpa using hcs_one H AR (N - 20) cR) ?_
                        refine sLex_assign (.tmp 126) rfl rfl (hvt _ (by simp)) ?_
                        refine sLex_assign (.const (.int .i64 0)) rfl rfl (hvt _ (by simp)) ?_
                        simp only [Act.put, List.setIfInBounds_toArray, List.set_cons_succ, List.set_cons_zero]
                        intro w9 hh
                        have hb9 : HB w9 w.heap.size 34 H AR (N - 20) cR := (hh.own w.heap.size true _ 34 (by simp [upd])).2
                        have hk9 := hh.kept
                        have hy9 := HY.out.kept hk9 (fun i hi hf => by have := HBL.out i hi; unfold One at hf; omega)
                        have hr9 := hy9.cut (lo := 20) (hi := N) (by omega) (by omega)
                        have hq9 := hy9.cut (lo := N) (hi := n) (by omega) (Nat.le_refl _)
                        rw [hAR, hcR] at hr9
                        rw [hAB, hcB, hm, ← hln, List.take_length] at hq9
                        clear hh hy9
                        go_wp2_with (fail)
                        refine bodyPost_ret (res_cell2 Tryd.results19 rfl rfl rfl hb9.all Tryd.underlying34 rfl (infH _ _ _ _)) rfl ⟨by rw [HG.out]; exact ⟨_, _, _, _, _, _, rfl, by rw [HHX.out]; exact hr9, hq9⟩, ?_⟩
                        exact HK.out.fresh hk9 (fun i hi => by cases hi; exact Nat.le_refl _)
            · have hS0' : ((S : Int) != 0) = true := by simp; omega
              have HG := Lib.hid (show readHM l wh = (Hd.zero, [], 21) by rw [HG2.out, if_pos hS0])
              go_wp2_with (first
                | (refine wpList_st rfl _ (.tmp 4) _ rfl w.heap.size 0 rfl (hcs Hd.zero none 0 0) _ rfl rfl (infH _ _ _ _) 34 _ HZ.out (by rw [hcs_len]; omega) (hcs_one _ _ _ _) ?_; intro w9 hb9 hk9 hz9)
                | fail)
              have h4 : HB w9 w.heap.size 34 Hd.zero none 0 0 := HB.of_all hb9
              refine bodyPost_ret (res_cell2 Tryd.results19 rfl rfl rfl h4.all Tryd.underlying34 rfl (infH _ _ _ _)) rfl ⟨by rw [HG.out]; exact RdIs.none _ _, ?_⟩
              exact HK.out.fresh hk9 (fun i hi => by cases hi; exact Nat.le_refl _)
    · have h4' : ((X : Int) / 16 != 4) = true := by simp; omega
      have HG := Lib.hid (HFORM.out (.inl h4))
      clear hN1
      go_wp2_with (first
        | (refine wpList_st rfl _ (.tmp 4) _ rfl w.heap.size 0 rfl (hcs Hd.zero none 0 0) _ rfl rfl (infH _ _ _ _) 34 _ HZ.out (by rw [hcs_len]; omega) (hcs_one _ _ _ _) ?_; intro w9 hb9 hk9 hz9)
        | fail)
      have h4 : HB w9 w.heap.size 34 Hd.zero none 0 0 := HB.of_all hb9
      refine bodyPost_ret (res_cell2 Tryd.results19 rfl rfl rfl h4.all Tryd.underlying34 rfl (infH _ _ _ _)) rfl ⟨by rw [HG.out]; exact RdIs.none _ _, ?_⟩
      exact HK.out.fresh hk9 (fun i hi => by cases hi; exact Nat.le_refl _)
end Go.Proofs.YtflhbidmjlfjkaaDoor
