/- tollref07: contract of Parse. -/
import Derived.Test.YthjbabkmjmfmjaaDoorRtI
import Derived.Test.YthjbabkmjmfmjaaDoorMg3
namespace Go.Proofs.YthjbabkmjmfmjaaDoor
open Go.RowKit Go.Sort
set_option linter.unusedVariables false

theorem idxS (s : ByteArray) (k : Nat) (c : UInt8) (h : s.data.toList[k]? = some c) (w : World) : (Instr.index 9 (.string s) (.int .i64 (k : Int))).run Tryd.prog w = .ok (.int .u8 (c.toNat : Int)) w := by
  have hk : k < s.size := by
    have := (List.getElem?_eq_some_iff.1 h).1
    rw [Lib.size_eq]
    exact this
  have hc : s[k]'hk = c := by
    have h2 := (List.getElem?_eq_some_iff.1 h).2
    rw [← h2]
    rfl
  simp [Instr.index, asIntOf, run_underlying Tryd.underlying9, hk, hc]
theorem sliceS (s : ByteArray) (a j : Nat) (h : a ≤ j) (hj : j ≤ s.size) (w : World) : (Instr.slice 9 (.string s) (some (.int .i64 (a : Int))) (some (.int .i64 (j : Int))) none).run Tryd.prog w = .ok (.string (s.extract a j)) w := by
  have g1 : (Instr.sliceBound (.int .i64 (j : Int)) s.size .sliceAlen).run Tryd.prog w = .ok j w := by simp [Instr.sliceBound, asIntOf, hj]
  have g2 : (Instr.sliceBound (.int .i64 (a : Int)) j .sliceB).run Tryd.prog w = .ok a w := by simp [Instr.sliceBound, asIntOf, h]
  simp [Instr.slice, run_underlying Tryd.underlying9, Instr.sliceBounds, g1, g2]
theorem infI1 : (Tryd.prog.info? 3).map (·.size) = some 1 := by kernel_rfl
def cntV (ix : List Nat) : List Value := (List.range 8).map fun k => .int .i64 (ix.count k : Int)
theorem cntV_nil : cntV [] = [.int .i64 0, .int .i64 0, .int .i64 0, .int .i64 0, .int .i64 0, .int .i64 0, .int .i64 0, .int .i64 0] := rfl
theorem cntV_len (ix : List Nat) : (cntV ix).length = 8 := by simp [cntV]
theorem cnt_cell {w : World} {g k : Nat} {ix : List Nat} (h : Blo w g 110 (cntV ix).toArray) (hk : k < 8) : w.cell? ⟨g, k, none⟩ = some (.int .i64 (ix.count k : Int)) := by
  rw [h.cell]
  unfold cntV
  simp [hk]
theorem cnt_set (ix : List Nat) (t : Nat) (ht : t < 8) : (cntV ix).take t ++ [Value.int .i64 ((ix.count t : Int) + 1)] ++ (cntV ix).drop (t + 1) = cntV (ix ++ [t]) := by
  apply List.ext_getElem?
  intro k
  rw [List.append_assoc, List.getElem?_append, List.length_take, cntV_len, Nat.min_eq_left (by omega)]
  by_cases h1 : k < t
  · rw [if_pos h1, List.getElem?_take, if_pos h1]
    unfold cntV
    simp only [List.getElem?_map, List.getElem?_range (show k < 8 by omega), Option.map_some, List.count_append, List.count_singleton]
    rw [show (t == k) = false by simp; omega]
    simp
  · rw [if_neg h1]
    by_cases h2 : k = t
    · subst h2
      rw [Nat.sub_self]
      unfold cntV
      simp only [List.cons_append, List.getElem?_cons_zero, List.getElem?_map, List.getElem?_range ht, Option.map_some, List.count_append, List.count_singleton]
      rw [show (k == k) = true by simp]
      simp
    · rw [show k - t = (k - t - 1) + 1 by omega, List.singleton_append, List.getElem?_cons_succ, List.getElem?_drop, show t + 1 + (k - t - 1) = k by omega]
      unfold cntV
      rw [List.getElem?_map, List.getElem?_map]
      by_cases h3 : k < 8
      · simp only [List.getElem?_range h3, Option.map_some, List.count_append, List.count_singleton]
        rw [show (t == k) = false by simp; omega]
        simp
      · rw [List.getElem?_eq_none (by simp; omega)]
        rfl
/-- Where a piece was found among the first names. -/
def atV (P : List UInt8) (m : Nat) : Int := match findF P with | some j => if j < m then (j : Int) else -1 | none => -1
theorem atV_zero (P : List UInt8) : atV P 0 = -1 := by unfold atV; cases findF P <;> simp
theorem atV_hit (P : List UInt8) (m : Nat) (hm : m < 8) (h : flagAt m = P) : atV P (m + 1) = m := by
  unfold atV
  rw [← h, find_is m hm]
  simp
theorem atV_miss (P : List UInt8) (m : Nat) (hm : m < 8) (h : flagAt m ≠ P) : atV P (m + 1) = atV P m := by
  unfold atV
  cases hf : findF P with
  | none => rfl
  | some j =>
    have hj := find_at P j hf
    have : j ≠ m := fun e => h (by rw [← e]; exact hj.2)
    simp only
    by_cases h1 : j < m
    · rw [if_pos h1, if_pos (by omega)]
    · rw [if_neg h1, if_neg (by omega)]
theorem atV_all (P : List UInt8) : (findF P = none → atV P 8 = -1) ∧ ∀ t, findF P = some t → t < 8 ∧ atV P 8 = t := by
  unfold atV
  refine ⟨fun h => by rw [h], fun t h => ⟨(find_at P t h).1, ?_⟩⟩
  rw [h]
  simp [(find_at P t h).1]
/-- Where the reading stands. -/
structure QR (S : List UInt8) (a j : Nat) (ix : List Nat) : Prop where
  len : ix.length ≤ j
  ale : a ≤ j
  go : j ≤ S.length → (44 : UInt8) ∉ (S.take j).drop a ∧ flagIx (splitC 44 S) = (flagIx (splitC 44 (S.drop a))).map (ix ++ ·)
  done : S.length < j → flagIx (splitC 44 S) = some ix
theorem QR.start (S : List UInt8) : QR S 0 0 [] := ⟨by simp, Nat.le_refl _, fun _ => ⟨by simp, by rw [List.drop_zero]; cases flagIx (splitC 44 S) <;> simp⟩, fun h => absurd h (by omega)⟩
theorem QR.next {S : List UInt8} {a j : Nat} {ix : List Nat} (h : QR S a j ix) (x : UInt8) (hx : S[j]? = some x) (h44 : x ≠ 44) : QR S a (j + 1) ix := by
  have hj := (List.getElem?_eq_some_iff.1 hx).1
  have hg := h.go (by omega)
  refine ⟨by have := h.len; omega, by have := h.ale; omega, fun _ => ⟨?_, hg.2⟩, fun h' => absurd h' (by omega)⟩
  rw [List.take_succ_eq_append_getElem hj, List.drop_append_of_le_length (by rw [List.length_take]; have := h.ale; omega)]
  rw [List.getElem?_eq_getElem hj] at hx
  simp only [Option.some.injEq] at hx
  simp only [List.mem_append, List.mem_singleton, not_or, hx]
  exact ⟨hg.1, Ne.symm h44⟩
theorem QR.piece {S : List UInt8} {a j : Nat} {ix : List Nat} (h : QR S a j ix) (hx : S[j]? = some 44) (P : List UInt8) (hP : (S.take j).drop a = P) : (findF P = none → flagIx (splitC 44 S) = none) ∧ ∀ t, findF P = some t → QR S (j + 1) (j + 1) (ix ++ [t]) := by
  have hj := (List.getElem?_eq_some_iff.1 hx).1
  have hg := h.go (by omega)
  have he : S.drop a = P ++ 44 :: S.drop (j + 1) := by
    rw [← hP]
    have h1 : S = S.take j ++ S.drop j := (List.take_append_drop j S).symm
    conv => lhs; rw [h1]
    rw [List.drop_append_of_le_length (by rw [List.length_take]; have := h.ale; omega), List.drop_eq_getElem_cons hj]
    rw [List.getElem?_eq_getElem hj] at hx
    simp only [Option.some.injEq] at hx
    rw [hx]
  rw [hP] at hg
  have h2 := ix_piece S P (S.drop (j + 1)) ix (by rw [← he]; exact hg.2) hg.1
  refine ⟨h2.1, fun t ht => ⟨by rw [List.length_append]; have := h.len; simp; omega, Nat.le_refl _, fun _ => ⟨by rw [List.drop_eq_nil_of_le (by simp; omega)]; simp, h2.2 t ht⟩, fun h' => absurd h' (by omega)⟩⟩
theorem QR.last {S : List UInt8} {a j : Nat} {ix : List Nat} (h : QR S a j ix) (hj : j = S.length) (P : List UInt8) (hP : (S.take j).drop a = P) : (findF P = none → flagIx (splitC 44 S) = none) ∧ ∀ t, findF P = some t → QR S (j + 1) (j + 1) (ix ++ [t]) := by
  have hg := h.go (by omega)
  have he : S.drop a = P := by rw [← hP, List.take_of_length_le (by omega)]
  rw [hP] at hg
  have h2 := ix_last S P ix (by rw [← he]; exact hg.2) hg.1
  refine ⟨h2.1, fun t ht => ⟨by rw [List.length_append]; have := h.len; simp; omega, Nat.le_refl _, fun h' => absurd h' (by omega), fun _ => h2.2 t ht⟩⟩
def hornF (ix : List Nat) : Nat → Nat
  | 0 => 0
  | m + 1 => 2 * hornF ix m + ix.count (7 - m)
theorem horn_cnt (ix : List Nat) : hornF ix 8 = cntF ix := by
  simp only [hornF, cntF, List.range_succ, List.range_zero, List.nil_append, List.cons_append, List.map_cons, List.map_nil, List.sum_cons, List.sum_nil]
  simp
  omega
set_option maxRecDepth 100000 in
set_option maxHeartbeats 16000000 in
theorem qparse_yes (s : ByteArray) (hm : s.size ≤ 1000000) (w : World) : Calls Tryd.prog 31 #[.string s] w fun e w' => e = .returned (.tuple #[.int .i64 ((flagP s.data.toList).1 : Int), .int .i64 (flagP s.data.toList).2]) ∧ Kept Nil w w' := by
  obtain ⟨S, hS⟩ : ∃ S, s.data.toList = S := ⟨_, rfl⟩
  have hl : S.length = s.size := by rw [← hS, Lib.size_eq]
  by_cases h0 : S = [45]
  · have hs : (s.toList == [45]) = true := by rw [Lib.toList_data, hS, h0]; rfl
    have HR := Lib.hid (show flagP s.data.toList = (0, 0) by rw [hS, h0]; rfl)
    clear h0 hS hl
    go_enter Tryd.func31, Tryd.ntmps31
    go_wp2
    go_ret2
    exact ⟨by rw [HR.out]; rfl, Kept.refl _ _⟩
  · have hs : (s.toList == [45]) = false := by rw [Lib.toList_data, hS]; simpa using h0
    have HSS := Lib.hid hS
    rw [hS]
    have HD := Lib.hid (flagP_done S h0)
    have HB := Lib.hid (flagP_bad S h0)
    have HC := Lib.hid (qnames_yes w)
    have HLL := Lib.hid hl
    obtain ⟨n, hn⟩ : ∃ n, s.size = n := ⟨_, rfl⟩
    have HN := Lib.hid hn
    have hm6 : n ≤ 1000000 := by omega
    clear h0 hS hl hm
    go_enter Tryd.func31, Tryd.ntmps31
    go_wp2_with (fail)
    clear hs
    refine (HC.out).mono ?_
    rintro e w1 ⟨rfl, hb, hk⟩
    obtain ⟨gN, hgN⟩ : ∃ g, w.heap.size = g := ⟨_, rfl⟩
    rw [hgN] at hb ⊢
    have HBN := Lib.hid hb
    have HK1 := Lib.hid hk
    have HG := Lib.hid (show w.heap.size ≤ w1.heap.size from hk.size)
    have hbn := hb.alloc (.cells (cntV []).toArray 110)
    have hbb := Blo.new w1 110 (cntV []).toArray
    have hkk := hk.alloc (.cells (cntV []).toArray 110)
    have HLT := Lib.hid hb.lt
    clear hb hk HC hgN
    go_upto_region 5 with (fail)
    obtain ⟨gB, hgB⟩ : ∃ g, w1.heap.size = g := ⟨_, rfl⟩
    have HGB := Lib.hid (show w.heap.size ≤ gB ∧ gN ≠ gB by have := HG.out; have := HLT.out; omega)
    rw [hgB] at hbb
    refine wp_nameE (fun W => Blo W gN 9 namesV.toArray ∧ Blo W gB 110 (cntV []).toArray ∧ Kept Nil w W) ⟨hbn, hbb, hkk⟩ ?_
    clear hbn hbb hkk HBN HK1 HG HLT
    rintro W ⟨hb1, hb2, hk⟩
    rw [hgB]
    have HB1 := Lib.hid hb1
    have HB2 := Lib.hid hb2
    have HK := Lib.hid hk
    clear hb1 hb2 hk hgB
    go_wp2_with (fail)
    go_loopw [6, 7] (fun fr i wr => ∃ (a j : Nat) (ix : List Nat), fr = .int .i64 (a : Int) ∧ i = .int .i64 (j : Int) ∧ j ≤ n + 1 ∧ Hid (QR S a j ix) ∧ Hid (Blo wr gN 9 namesV.toArray) ∧ Hid (Blo wr gB 110 (cntV ix).toArray) ∧ Hid (Kept Nil w wr)) (fun _ i _ => n + 1 - (intOf i).toNat)
    case atStart => exact ⟨0, 0, [], rfl, rfl, by omega, Lib.hid (QR.start S), HB1, HB2, HK⟩
    case round =>
      clear HB1 HB2 HK
      obtain ⟨a, j, ix, rfl, rfl, hj, HQ, HB1, HB2, HK⟩ := hrel
      by_cases hjn : j ≤ n
      · by_cases hlt : j < n
        · obtain ⟨x, hx⟩ : ∃ x, S[j]? = some x := ⟨_, List.getElem?_eq_getElem (by rw [HLL.out, HN.out]; exact hlt)⟩
          have hidx := idxS s j x (by rw [HSS.out]; exact hx)
          have hszj : (j : Int) < (n : Int) := by omega
          have hxl := x.toNat_lt
          have hln := HN.out
          by_cases h44 : x = 44
          · subst h44
            have HQP := HQ.out.piece hx
            have h44' : (((44 : UInt8).toNat : Int) != 44) = false := rfl
            clear hx
            obtain ⟨P, hP⟩ : ∃ P, (S.take j).drop a = P := ⟨_, rfl⟩
            have HPI := Lib.hid (HQP P hP)
            have HPD := Lib.hid (show (s.extract a j).data.toList = P by rw [Lib.extract_data, HSS.out, ← List.drop_take]; exact hP)
            have hil := HQ.out.len
            have haj := HQ.out.ale
            have hsl : ∀ w, (Instr.slice 9 (.string s) (some (.int .i64 (a : Int))) (some (.int .i64 (j : Int))) none).run Tryd.prog w = .ok (.string (s.extract a j)) w := fun w => sliceS s a j haj (by rw [HN.out]; omega) w
            obtain ⟨p, hp⟩ : ∃ p, s.extract a j = p := ⟨_, rfl⟩
            rw [hp] at HPD hsl
            clear hP hp HQP HQ
            go_wp2_with (fail)
            go_loopw [8, 9] (fun at_ k wr => ∃ m : Nat, m ≤ 8 ∧ k = .int .i64 (m : Int) ∧ at_ = .int .i64 (atV P m) ∧ Hid (Blo wr gN 9 namesV.toArray) ∧ Hid (Blo wr gB 110 (cntV ix).toArray) ∧ Hid (Kept Nil w wr)) (fun _ k _ => 8 - (intOf k).toNat)
            case atStart => exact ⟨0, by omega, rfl, by rw [atV_zero], HB1, HB2, HK⟩
            case round =>
              clear HB1 HB2 HK
              obtain ⟨m, hm8, rfl, rfl, HB1, HB2, HK⟩ := hrel
              by_cases hlt : m < 8
              · have hc := fun d os => nm_cell (HB1.out.kept (kept_grown' wr d os) (fun hf => hf)) hlt
                by_cases he : flagAt m = P
                · have hs1 : ((nmS m).toList == p.toList) = true := by rw [str_beq, HPD.out]; exact decide_eq_true he
                  have HV := Lib.hid (atV_hit P m hlt he)
                  clear he
                  go_wp2_with (fail)
                  refine wp_region_quiet_below (by kernel_rfl) (by kernel_rfl) ?_
                  repeat (go_big_quiet_step (fail))
                  refine wpQuiet_nil ?_
                  rintro wy ⟨nq, hw⟩
                  have hky : Kept Nil wr wy := by rw [hw]; exact kept_grown _ _
                  have HB1y := Lib.hid (HB1.out.kept hky (fun hf => hf))
                  have HB2y := Lib.hid (HB2.out.kept hky (fun hf => hf))
                  have HKy := Lib.hid (HK.out.then hky)
                  clear hky hw hc
                  go_wp2
                  go_roundw
                  case rel => exact ⟨m + 1, by omega, by go_num, by rw [HV.out], HB1y, HB2y, HKy⟩
                  case measure => simp [intOf]; omega
                · have hs1 : ((nmS m).toList == p.toList) = false := by rw [str_beq, HPD.out]; exact decide_eq_false he
                  have HV := Lib.hid (atV_miss P m hlt he)
                  clear he
                  go_wp2_with (fail)
                  refine wp_region_quiet_below (by kernel_rfl) (by kernel_rfl) ?_
                  repeat (go_big_quiet_step (fail))
                  refine wpQuiet_nil ?_
                  rintro wy ⟨nq, hw⟩
                  have hky : Kept Nil wr wy := by rw [hw]; exact kept_grown _ _
                  have HB1y := Lib.hid (HB1.out.kept hky (fun hf => hf))
                  have HB2y := Lib.hid (HB2.out.kept hky (fun hf => hf))
                  have HKy := Lib.hid (HK.out.then hky)
                  clear hky hw hc
                  go_wp2
                  go_roundw
                  case rel => exact ⟨m + 1, by omega, by go_num, by rw [HV.out], HB1y, HB2y, HKy⟩
                  case measure => simp [intOf]; omega
              · obtain rfl : m = 8 := by omega
                have hat := atV_all P
                cases hf : findF P with
                | none =>
                  have hv := hat.1 hf
                  have HR := Lib.hid (show flagP S = (0, 23) from HB.out (HPI.out.1 hf))
                  rw [hv]
                  clear hf hat hv
                  go_wp2
                  go_ret2
                  exact ⟨by rw [HR.out]; rfl, HK.out⟩
                | some t =>
                  obtain ⟨ht8, hv⟩ := hat.2 t hf
                  have HQN := Lib.hid (HPI.out.2 t hf)
                  rw [hv]
                  have ht0 : ¬ (t : Int) < 0 := by omega
                  have hct : ix.count t ≤ n + 1 := Nat.le_trans List.count_le_length (by omega)
                  have hcc := cnt_cell HB2.out ht8
                  have HST := Lib.hid (cnt_set ix t ht8)
                  obtain ⟨C, hC⟩ : ∃ C, ix.count t = C := ⟨_, rfl⟩
                  rw [hC] at hcc hct HST
                  clear hf hat hv hC
                  go_wp2_with (first
                    | (refine wpList_st rfl _ _ _ rfl gB t rfl [.int .i64 ((C : Int) + 1)] _ rfl rfl infI1 110 _ HB2.out (by rw [cntV_len, List.length_singleton]; omega) (by intro u hu; simp at hu; subst hu; rfl) ?_; intro wy hb hk hz; simp only [Act.put]; have HB2y := Lib.hid (show Blo wy gB 110 (cntV (ix ++ [t])).toArray by rw [← HST.out]; exact hb); have HB1y := Lib.hid (HB1.out.kept hk (fun hf => HGB.out.2 hf)); have HKy := Lib.hid (HK.out.fresh hk (fun i hi => by cases hi; exact HGB.out.1)); clear hb hk hz)
                    | fail)
                  go_roundw
                  case rel => exact ⟨j + 1, j + 1, ix ++ [t], by go_num, by go_num, by omega, HQN, HB1y, HB2y, HKy⟩
                  case measure => simp [intOf]; omega
          · have h44' : ((x.toNat : Int) != 44) = true := by
              rw [bne_iff_ne]
              intro e
              exact h44 (UInt8.toNat_inj.1 (by show x.toNat = 44; omega))
            have HQN := Lib.hid (HQ.out.next x hx h44)
            clear hx h44 HQ
            go_wp2
            go_roundw
            case rel => exact ⟨a, j + 1, ix, rfl, by go_num, by omega, HQN, HB1, HB2, HK⟩
            case measure => simp [intOf]; omega
        · have HQP := HQ.out.last (by rw [HLL.out, HN.out]; omega)
          have hszj : ¬ (j : Int) < (n : Int) := by omega
          have hln := HN.out
          obtain ⟨P, hP⟩ : ∃ P, (S.take j).drop a = P := ⟨_, rfl⟩
          have HPI := Lib.hid (HQP P hP)
          have HPD := Lib.hid (show (s.extract a j).data.toList = P by rw [Lib.extract_data, HSS.out, ← List.drop_take]; exact hP)
          have hil := HQ.out.len
          have haj := HQ.out.ale
          have hsl : ∀ w, (Instr.slice 9 (.string s) (some (.int .i64 (a : Int))) (some (.int .i64 (j : Int))) none).run Tryd.prog w = .ok (.string (s.extract a j)) w := fun w => sliceS s a j haj (by rw [HN.out]; omega) w
          obtain ⟨p, hp⟩ : ∃ p, s.extract a j = p := ⟨_, rfl⟩
          rw [hp] at HPD hsl
          clear hP hp HQP HQ
          go_wp2_with (fail)
          go_loopw [8, 9] (fun at_ k wr => ∃ m : Nat, m ≤ 8 ∧ k = .int .i64 (m : Int) ∧ at_ = .int .i64 (atV P m) ∧ Hid (Blo wr gN 9 namesV.toArray) ∧ Hid (Blo wr gB 110 (cntV ix).toArray) ∧ Hid (Kept Nil w wr)) (fun _ k _ => 8 - (intOf k).toNat)
          case atStart => exact ⟨0, by omega, rfl, by rw [atV_zero], HB1, HB2, HK⟩
          case round =>
            clear HB1 HB2 HK
            obtain ⟨m, hm8, rfl, rfl, HB1, HB2, HK⟩ := hrel
            by_cases hlt : m < 8
            · have hc := fun d os => nm_cell (HB1.out.kept (kept_grown' wr d os) (fun hf => hf)) hlt
              by_cases he : flagAt m = P
              · have hs1 : ((nmS m).toList == p.toList) = true := by rw [str_beq, HPD.out]; exact decide_eq_true he
                have HV := Lib.hid (atV_hit P m hlt he)
                clear he
                go_wp2_with (fail)
                refine wp_region_quiet_below (by kernel_rfl) (by kernel_rfl) ?_
                repeat (go_big_quiet_step (fail))
                refine wpQuiet_nil ?_
                rintro wy ⟨nq, hw⟩
                have hky : Kept Nil wr wy := by rw [hw]; exact kept_grown _ _
                have HB1y := Lib.hid (HB1.out.kept hky (fun hf => hf))
                have HB2y := Lib.hid (HB2.out.kept hky (fun hf => hf))
                have HKy := Lib.hid (HK.out.then hky)
                clear hky hw hc
                go_wp2
                go_roundw
                case rel => exact ⟨m + 1, by omega, by go_num, by rw [HV.out], HB1y, HB2y, HKy⟩
                case measure => simp [intOf]; omega
              · have hs1 : ((nmS m).toList == p.toList) = false := by rw [str_beq, HPD.out]; exact decide_eq_false he
                have HV := Lib.hid (atV_miss P m hlt he)
                clear he
                go_wp2_with (fail)
                refine wp_region_quiet_below (by kernel_rfl) (by kernel_rfl) ?_
                repeat (go_big_quiet_step (fail))
                refine wpQuiet_nil ?_
                rintro wy ⟨nq, hw⟩
                have hky : Kept Nil wr wy := by rw [hw]; exact kept_grown _ _
                have HB1y := Lib.hid (HB1.out.kept hky (fun hf => hf))
                have HB2y := Lib.hid (HB2.out.kept hky (fun hf => hf))
                have HKy := Lib.hid (HK.out.then hky)
                clear hky hw hc
                go_wp2
                go_roundw
                case rel => exact ⟨m + 1, by omega, by go_num, by rw [HV.out], HB1y, HB2y, HKy⟩
                case measure => simp [intOf]; omega
            · obtain rfl : m = 8 := by omega
              have hat := atV_all P
              cases hf : findF P with
              | none =>
                have hv := hat.1 hf
                have HR := Lib.hid (show flagP S = (0, 23) from HB.out (HPI.out.1 hf))
                rw [hv]
                clear hf hat hv
                go_wp2
                go_ret2
                exact ⟨by rw [HR.out]; rfl, HK.out⟩
              | some t =>
                obtain ⟨ht8, hv⟩ := hat.2 t hf
                have HQN := Lib.hid (HPI.out.2 t hf)
                rw [hv]
                have ht0 : ¬ (t : Int) < 0 := by omega
                have hct : ix.count t ≤ n + 1 := Nat.le_trans List.count_le_length (by omega)
                have hcc := cnt_cell HB2.out ht8
                have HST := Lib.hid (cnt_set ix t ht8)
                obtain ⟨C, hC⟩ : ∃ C, ix.count t = C := ⟨_, rfl⟩
                rw [hC] at hcc hct HST
                clear hf hat hv hC
                go_wp2_with (first
                  | (refine wpList_st rfl _ _ _ rfl gB t rfl [.int .i64 ((C : Int) + 1)] _ rfl rfl infI1 110 _ HB2.out (by rw [cntV_len, List.length_singleton]; omega) (by intro u hu; simp at hu; subst hu; rfl) ?_; intro wy hb hk hz; simp only [Act.put]; have HB2y := Lib.hid (show Blo wy gB 110 (cntV (ix ++ [t])).toArray by rw [← HST.out]; exact hb); have HB1y := Lib.hid (HB1.out.kept hk (fun hf => HGB.out.2 hf)); have HKy := Lib.hid (HK.out.fresh hk (fun i hi => by cases hi; exact HGB.out.1)); clear hb hk hz)
                  | fail)
                go_roundw
                case rel => exact ⟨j + 1, j + 1, ix ++ [t], by go_num, by go_num, by omega, HQN, HB1y, HB2y, HKy⟩
                case measure => simp [intOf]; omega
      · obtain rfl : j = n + 1 := by omega
        have HIX := Lib.hid (HQ.out.done (by rw [HLL.out, HN.out]; omega))
        have hil := HQ.out.len
        clear HQ
        go_wp2_with (fail)
        go_loop [10, 11] (fun F k => ∃ m : Nat, m ≤ 8 ∧ k = .int .i64 (7 - (m : Int)) ∧ F = .int .i64 (hornF ix m : Int) ∧ Hid (∀ t, 8 - m ≤ t → t < 8 → ix.count t ≤ 1) ∧ Hid (hornF ix m < 2 ^ m)) (fun _ k => (intOf k + 1).toNat)
        case atStart => exact ⟨0, by omega, rfl, rfl, Lib.hid (fun t h1 h2 => absurd h1 (by omega)), Lib.hid (show 0 < 1 by omega)⟩
        case round =>
          obtain ⟨m, hm8, rfl, rfl, HO, HH⟩ := hrel
          by_cases hlt : m < 8
          · have hi : (7 - (m : Int)) = ((7 - m : Nat) : Int) := by omega
            have hc := cnt_cell HB2.out (k := 7 - m) (by omega)
            have hF := HH.out
            have hF2 : hornF ix m < 256 := Nat.lt_of_lt_of_le hF (Nat.le_trans (Nat.pow_le_pow_right (by decide) hm8) (by decide))
            have HS := Lib.hid (show hornF ix (m + 1) = 2 * hornF ix m + ix.count (7 - m) from rfl)
            have hct : ix.count (7 - m) ≤ n + 1 := Nat.le_trans List.count_le_length hil
            rw [hi]
            obtain ⟨z, hz⟩ : ∃ z, 7 - m = z := ⟨_, rfl⟩
            have HZ := Lib.hid hz
            have hz8 : z < 8 := by omega
            rw [hz] at hc HS hct ⊢
            obtain ⟨C, hC⟩ : ∃ C, ix.count z = C := ⟨_, rfl⟩
            have HCC := Lib.hid hC
            rw [hC] at hc HS hct
            obtain ⟨F, hFF⟩ : ∃ F, hornF ix m = F := ⟨_, rfl⟩
            have HFF := Lib.hid hFF
            rw [hFF] at hF hF2 HS ⊢
            have HF := Lib.hid hF
            clear hi hz hC hFF hF
            by_cases h1 : 1 < C
            · have h1' : (1 : Int) < (C : Int) := by omega
              have HR := Lib.hid (show flagP S = (0, 9) by
                rw [HD.out ix HIX.out, if_pos]
                exact List.any_eq_true.2 ⟨z, List.mem_range.2 hz8, by rw [HCC.out]; simpa using h1⟩)
              go_wp2
              go_ret2
              exact ⟨by rw [HR.out]; rfl, HK.out⟩
            · have h1' : ¬ (1 : Int) < (C : Int) := by omega
              go_wp2
              go_round
              case rel => exact ⟨m + 1, by omega, by have := HZ.out; go_num, by rw [HS.out]; go_num, Lib.hid (fun t h2 h3 => by
                by_cases e : t = z
                · subst e; rw [HCC.out]; omega
                · exact HO.out t (by have := HZ.out; omega) h3), Lib.hid (by rw [HS.out, Nat.pow_succ]; have := HF.out; omega)⟩
              case measure => first | (simp [intOf]; done) | (simp [intOf]; omega)
          · obtain rfl : m = 8 := by omega
            have HR := Lib.hid (show flagP S = (hornF ix 8, 0) by
              rw [HD.out ix HIX.out, if_neg, horn_cnt]
              intro hmany
              obtain ⟨t, ht, h2⟩ := List.any_eq_true.1 hmany
              have := HO.out t (by omega) (List.mem_range.1 ht)
              simp only [decide_eq_true_eq] at h2
              omega)
            have hF2 : hornF ix 8 < 256 := HH.out
            obtain ⟨F, hFF⟩ : ∃ F, hornF ix 8 = F := ⟨_, rfl⟩
            rw [hFF] at HR hF2 ⊢
            clear hFF
            go_wp2
            go_ret2
            exact ⟨by rw [HR.out]; rfl, HK.out⟩
end Go.Proofs.YthjbabkmjmfmjaaDoor
