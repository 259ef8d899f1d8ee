/- The library's Grow of nothing and Concat, of bytes. -/
import Derived.Test.YthjfeanmgaidcaaMg23
import Derived.Test.YthjfeanmgaidcaaMg20
import Derived.Test.YthjfeanmgaidcaaMg3
import Derived.Lib.AppendZeros
namespace Go.Proofs.Ythjfeanmgaidcaa
open Go.RowKit Go.Sort
set_option linter.unusedVariables false

set_option maxRecDepth 100000 in
theorem grow_b (n : Nat) (hn : n ≤ 140737488355328) (w : World) : Calls Try.prog 75 #[.slice none 0 0, .int .i64 (n : Int)] w fun e w' => ∃ v, e = .returned v ∧ w'.ownsRow w.heap.size 5 1 v 0 [] ∧ Kept Nil w w' := by
  obtain ⟨i0, hi, hz0, hz1, hz2⟩ := info_parts Try.infb
  by_cases h0 : n = 0
  · subst h0
    go_enter Try.func75, Try.ntmps75
    go_wp2
    go_ret
    exact ⟨_, rfl, World.ownsRow_nil _ _ _ _, Kept.refl _ _⟩
  · have hpos : (0 : Int) < (n : Int) := by omega
    have hrun := Lib.run_append_nil_zeros (P := Try.prog) w 31 3 31 5 i0 (.int .u8 0) .i64 .i64 Try.underlying31 Try.underlying3 hi hz0 n (by omega) (by omega) (by omega) (by rw [hz2]; omega)
    have hcap := grownCap_ge w n 0 5
    have hcm := grownCap_le_maxLen w n 0 5 (by unfold maxLen; omega)
    have hsz : (Builtin.zeroCells (Value.int .u8 0).cells n ++ Builtin.zeroCells (Value.int .u8 0).cells (grownCap w n 0 5 - n)).size = grownCap w n 0 5 := by
      rw [Array.size_append, size_zeroCells, size_zeroCells]; simp [Value.cells]; omega
    generalize (Builtin.zeroCells (Value.int .u8 0).cells n ++ Builtin.zeroCells (Value.int .u8 0).cells (grownCap w n 0 5 - n)) = Z at *
    generalize grownCap w n 0 5 = C at *
    have HR := Lib.hid hrun
    have HS := Lib.hid hsz
    have HM := Lib.hid hcm
    have hcm' : C ≤ 9223372036854775807 := by unfold maxLen at hcm; omega
    clear hrun hsz hcm hcap h0
    go_enter Try.func75, Try.ntmps75
    go_wp2_with (at_builtin; refine Lib.wpList_append_run _ rfl _ _ 31 3 rfl _ _ rfl rfl _ _ HR.out ?_)
    go_ret
    refine ⟨_, rfl, World.ownsRow_made w.drew Z C (by simp) HM.out (by rw [HS.out]; simp), ?_⟩
    exact ((Kept.refl Nil w).drew).alloc _
theorem own_block_ge' {w : World} {B e size n : Nat} {v : Value} {xs : List Value} (h : w.ownsRow B e size v n xs) : ∀ i, v.ownBlock = some i → B ≤ i := fun i hi => (h.lt i hi).1
theorem flat_take {α : Type} (ls : List (List α)) (k : Nat) (hk : k < ls.length) : (ls.take (k + 1)).flatten = (ls.take k).flatten ++ ls[k] := by
  rw [List.take_succ_eq_append_getElem hk, List.flatten_append, List.flatten_cons, List.flatten_nil, List.append_nil]
theorem flat_le {α : Type} (ls : List (List α)) (k : Nat) : (ls.take k).flatten.length ≤ ls.flatten.length := by
  have := congrArg List.length (congrArg List.flatten (List.take_append_drop k ls))
  rw [List.flatten_append, List.length_append] at this
  omega
set_option maxRecDepth 100000 in
set_option maxHeartbeats 2000000 in
theorem concat_b (g m : Nat) (T : TypeId) (vs : List Value) (ls : List (List UInt8)) (w : World) (hB : Blo w g T vs.toArray) (hv : vs.length = m) (hl : ls.length = m) (hm : m ≤ 1000)
    (h : ∀ i (h1 : i < vs.length) (h2 : i < ls.length), ∃ A n c, vs[i] = .slice A n c ∧ Byt w A n c ls[i]) (htot : ls.flatten.length ≤ 1099511627776) :
    Calls Try.prog 50 #[.slice (some ⟨g, 0, none⟩) m m] w fun e w' => ∃ v, e = .returned v ∧ Made w w' v ls.flatten := by
  obtain ⟨i0, hi, hz0, hz1, hz2⟩ := info_parts Try.infb
  have HB := Lib.hid hB
  have HV := Lib.hid hv
  have HL := Lib.hid hl
  have HH := Lib.hid h
  have HT := Lib.hid htot
  have cell : ∀ wr, Kept Nil w wr → ∀ k, k < m → ∃ A n c, wr.cell? ⟨g, k, none⟩ = some (.slice A n c) ∧ ∃ hk : k < ls.length, Byt wr A n c ls[k] := by
    intro wr hk k hkm
    obtain ⟨A, n, c, e1, e2⟩ := HH.out k (by rw [HV.out]; exact hkm) (by rw [HL.out]; exact hkm)
    have := HB.out.cell k
    rw [List.getElem?_toArray, List.getElem?_eq_getElem (by rw [HV.out]; exact hkm), e1] at this
    exact ⟨A, n, c, hk.cell this (fun hf => hf), by rw [HL.out]; exact hkm, e2.kept hk (fun _ _ hf => hf)⟩
  have HC := Lib.hid cell
  clear hB hv hl h htot cell
  go_enter Try.func50, Try.ntmps50
  go_wp2
  go_loopw [3, 11] (fun z i wr => ∃ k : Nat, k ≤ m ∧ i = .int .i64 (k : Int) ∧ z = .int .i64 ((ls.take k).flatten.length : Int) ∧ Kept Nil w wr) (fun _ i _ => m - (intOf i).toNat)
  case atStart => exact ⟨0, Nat.zero_le _, rfl, by simp, Kept.refl _ _⟩
  case round =>
    obtain ⟨k, hk, rfl, rfl, hkp⟩ := hrel
    by_cases hlt : k < m
    · obtain ⟨A, n, c, hc, hkl, hb⟩ := HC.out _ hkp k hlt
      have hn : ls[k].length = n := hb.1
      have hsum : ((ls.take (k + 1)).flatten.length : Int) = ((ls.take k).flatten.length : Int) + (n : Int) := by rw [flat_take ls k hkl, List.length_append, hn]; omega
      have hle := flat_le ls (k + 1)
      have hle2 := HT.out
      obtain ⟨s1, hs1⟩ : ∃ s : Nat, (ls.take (k + 1)).flatten.length = s := ⟨_, rfl⟩
      obtain ⟨s0, hs0⟩ : ∃ s : Nat, (ls.take k).flatten.length = s := ⟨_, rfl⟩
      rw [hs1] at hsum hle
      rw [hs0] at hsum ⊢
      have HK := Lib.hid hkp
      have HS1 := Lib.hid hs1
      have hb1 : s1 ≤ 1099511627776 := by omega
      have HSUM := Lib.hid hsum
      clear hkp hb hn hle hle2 hs1 hs0 hsum
      have hw : IntKind.wrap .i64 ((s0 : Int) + (n : Int)) = (s1 : Int) := by rw [← HSUM.out, IntKind.wrap_i64]; omega
      go_wp2
      go_roundw
      case rel => exact ⟨k + 1, by omega, by go_num, by rw [HS1.out], HK.out⟩
      case measure => simp [intOf]; omega
    · obtain rfl : k = m := by omega
      have e1 : ls.take k = ls := List.take_of_length_le (by rw [HL.out]; exact Nat.le_refl _)
      rw [e1]
      have HK := Lib.hid hkp
      have hbn : ls.flatten.length ≤ 140737488355328 := by have := HT.out; omega
      obtain ⟨s1, hs1⟩ : ∃ s : Nat, ls.flatten.length = s := ⟨_, rfl⟩
      rw [hs1] at hbn ⊢
      have HS1 := Lib.hid hs1
      clear hkp e1 hs1
      go_wp2_with fail
      refine (grow_b s1 hbn _).mono ?_
      rintro e w1 ⟨v, rfl, ho, hk1⟩
      have HO := Lib.hid (own_mono ho HK.out.size)
      have HK1 := Lib.hid (HK.out.then hk1)
      clear ho hk1
      go_wp2
      go_loopw [6, 27] (fun v i wr => ∃ j : Nat, j ≤ k ∧ i = .int .i64 (j : Int) ∧ wr.ownsRow w.heap.size 5 1 v (ls.take j).flatten.length (bys (ls.take j).flatten) ∧ Kept Nil w wr) (fun _ i _ => k - (intOf i).toNat)
      case atStart => exact ⟨0, Nat.zero_le _, rfl, HO.out, HK1.out⟩
      case round =>
        obtain ⟨j, hj, rfl, ho, hkp⟩ := hrel
        by_cases hlt : j < k
        · obtain ⟨A, n, c, hc, hkl, hb⟩ := HC.out _ hkp j hlt
          have hft := flat_take ls j hkl
          have hsum : (ls.take (j + 1)).flatten.length = (ls.take j).flatten.length + n := by rw [hft, List.length_append, hb.1]
          have hle := flat_le ls (j + 1)
          have hle2 := HT.out
          have hbd : (ls.take j).flatten.length + n ≤ 140737488355328 := by omega
          have HO2 := Lib.hid ho
          have HB2 := Lib.hid hb
          have HK2 := Lib.hid hkp
          have HF := Lib.hid hft
          have HSUM := Lib.hid hsum
          have HBD := Lib.hid hbd
          have hsz := hkp.size
          have HSZ := Lib.hid hsz
          obtain ⟨Aw, cw, rfl⟩ := own_form ho
          clear ho hb hkp hft hsum hle hle2 hbd hsz
          go_wp2_with (at_builtin; refine wpList_any rfl _ _ 31 rfl w.heap.size 5 i0 (.int .u8 0) Try.underlying31 hi hz0 hz1 hz2 rfl _ _ _ rfl HO2.out A n c _ rfl HB2.out HBD.out HSZ.out ?_; intro v' w2 hown' hgrow _)
          have hk2 : Kept Nil w w2 := HK2.out.grown hgrow (fun i hi hi' => absurd hi' (Nat.not_lt.2 (own_block_ge' HO2.out i hi)))
          rw [← bys_app, ← HF.out, ← HSUM.out] at hown'
          have HO3 := Lib.hid hown'
          have HK3 := Lib.hid hk2
          clear hown' hgrow hk2
          go_wp2
          go_roundw
          case rel => exact ⟨j + 1, by omega, by go_num, HO3.out, HK3.out⟩
          case measure => simp [intOf]; omega
        · obtain rfl : j = k := by omega
          have e1 : ls.take j = ls := List.take_of_length_le (by rw [HL.out]; exact Nat.le_refl _)
          rw [e1] at ho
          have HO2 := Lib.hid ho
          have HK2 := Lib.hid hkp
          clear ho hkp e1
          go_wp2
          go_ret
          exact ⟨_, rfl, HO2.out, HK2.out⟩
set_option maxRecDepth 100000 in
theorem grow_t (n : Nat) (hn : n ≤ 1099511627776) (w : World) : Calls Try.prog 87 #[.slice none 0 0, .int .i64 (n : Int)] w fun e w' => ∃ v, e = .returned v ∧ w'.ownsRow w.heap.size 67 4 v 0 [] ∧ Kept Nil w w' := by
  obtain ⟨i0, hi, hz0, hz1, hz2⟩ := info_parts Try.inft
  by_cases h0 : n = 0
  · subst h0
    go_enter Try.func87, Try.ntmps87
    go_wp2
    go_ret
    exact ⟨_, rfl, World.ownsRow_nil _ _ _ _, Kept.refl _ _⟩
  · have hpos : (0 : Int) < (n : Int) := by omega
    have hrun := Lib.run_append_nil_zeros (P := Try.prog) w 54 3 54 67 i0 (tgv ⟨0, 0, false, 0⟩) .i64 .i64 Try.underlying54 Try.underlying3 hi hz0 n (by omega) (by rw [hz1]; decide) (by omega) (by rw [hz2]; omega)
    have hcap := grownCap_ge w n 0 67
    have hcm := grownCap_le_maxLen w n 0 67 (by unfold maxLen; omega)
    have hsz : (Builtin.zeroCells (tgv ⟨0, 0, false, 0⟩).cells n ++ Builtin.zeroCells (tgv ⟨0, 0, false, 0⟩).cells (grownCap w n 0 67 - n)).size = grownCap w n 0 67 * 4 := by
      rw [Array.size_append, size_zeroCells, size_zeroCells]; simp [tgv, Value.cells]; omega
    generalize (Builtin.zeroCells (tgv ⟨0, 0, false, 0⟩).cells n ++ Builtin.zeroCells (tgv ⟨0, 0, false, 0⟩).cells (grownCap w n 0 67 - n)) = Z at *
    generalize grownCap w n 0 67 = C at *
    have HR := Lib.hid hrun
    have HS := Lib.hid hsz
    have HM := Lib.hid hcm
    have hcm' : C ≤ 9223372036854775807 := by unfold maxLen at hcm; omega
    clear hrun hsz hcm hcap h0
    go_enter Try.func87, Try.ntmps87
    go_wp2_with (at_builtin; refine Lib.wpList_append_run _ rfl _ _ 54 3 rfl _ _ rfl rfl _ _ HR.out ?_)
    go_ret
    refine ⟨_, rfl, World.ownsRow_made w.drew Z C (by simp) HM.out HS.out, ?_⟩
    exact ((Kept.refl Nil w).drew).alloc _
set_option maxRecDepth 100000 in
set_option maxHeartbeats 2000000 in
theorem concat_t (g m : Nat) (T : TypeId) (vs : List Value) (ls : List (List Tg)) (w : World) (hB : Blo w g T vs.toArray) (hv : vs.length = m) (hl : ls.length = m) (hm : m ≤ 1000)
    (h : ∀ i (h1 : i < vs.length) (h2 : i < ls.length), ∃ A n c, vs[i] = .slice A n c ∧ Tags w A n c ls[i]) (htot : ls.flatten.length ≤ 1099511627) :
    Calls Try.prog 83 #[.slice (some ⟨g, 0, none⟩) m m] w fun e w' => ∃ v, e = .returned v ∧ MadeT w w' v ls.flatten := by
  obtain ⟨i0, hi, hz0, hz1, hz2⟩ := info_parts Try.inft
  have HB := Lib.hid hB
  have HV := Lib.hid hv
  have HL := Lib.hid hl
  have HH := Lib.hid h
  have HT := Lib.hid htot
  have cell : ∀ wr, Kept Nil w wr → ∀ k, k < m → ∃ A n c, wr.cell? ⟨g, k, none⟩ = some (.slice A n c) ∧ ∃ hk : k < ls.length, Tags wr A n c ls[k] := by
    intro wr hk k hkm
    obtain ⟨A, n, c, e1, e2⟩ := HH.out k (by rw [HV.out]; exact hkm) (by rw [HL.out]; exact hkm)
    have := HB.out.cell k
    rw [List.getElem?_toArray, List.getElem?_eq_getElem (by rw [HV.out]; exact hkm), e1] at this
    exact ⟨A, n, c, hk.cell this (fun hf => hf), by rw [HL.out]; exact hkm, e2.kept hk (fun _ _ hf => hf)⟩
  have HC := Lib.hid cell
  clear hB hv hl h htot cell
  go_enter Try.func83, Try.ntmps83
  go_wp2
  go_loopw [3, 11] (fun z i wr => ∃ k : Nat, k ≤ m ∧ i = .int .i64 (k : Int) ∧ z = .int .i64 ((ls.take k).flatten.length : Int) ∧ Kept Nil w wr) (fun _ i _ => m - (intOf i).toNat)
  case atStart => exact ⟨0, Nat.zero_le _, rfl, by simp, Kept.refl _ _⟩
  case round =>
    obtain ⟨k, hk, rfl, rfl, hkp⟩ := hrel
    by_cases hlt : k < m
    · obtain ⟨A, n, c, hc, hkl, hb⟩ := HC.out _ hkp k hlt
      have hn : ls[k].length = n := hb.len
      have hsum : ((ls.take (k + 1)).flatten.length : Int) = ((ls.take k).flatten.length : Int) + (n : Int) := by rw [flat_take ls k hkl, List.length_append, hn]; omega
      have hle := flat_le ls (k + 1)
      have hle2 := HT.out
      obtain ⟨s1, hs1⟩ : ∃ s : Nat, (ls.take (k + 1)).flatten.length = s := ⟨_, rfl⟩
      obtain ⟨s0, hs0⟩ : ∃ s : Nat, (ls.take k).flatten.length = s := ⟨_, rfl⟩
      rw [hs1] at hsum hle
      rw [hs0] at hsum ⊢
      have HK := Lib.hid hkp
      have HS1 := Lib.hid hs1
      have hb1 : s1 ≤ 1099511627 := by omega
      have HSUM := Lib.hid hsum
      clear hkp hb hn hle hle2 hs1 hs0 hsum
      have hw : IntKind.wrap .i64 ((s0 : Int) + (n : Int)) = (s1 : Int) := by rw [← HSUM.out, IntKind.wrap_i64]; omega
      go_wp2
      go_roundw
      case rel => exact ⟨k + 1, by omega, by go_num, by rw [HS1.out], HK.out⟩
      case measure => simp [intOf]; omega
    · obtain rfl : k = m := by omega
      have e1 : ls.take k = ls := List.take_of_length_le (by rw [HL.out]; exact Nat.le_refl _)
      rw [e1]
      have HK := Lib.hid hkp
      have hbn : ls.flatten.length ≤ 1099511627776 := by have := HT.out; omega
      obtain ⟨s1, hs1⟩ : ∃ s : Nat, ls.flatten.length = s := ⟨_, rfl⟩
      rw [hs1] at hbn ⊢
      have HS1 := Lib.hid hs1
      clear hkp e1 hs1
      go_wp2_with fail
      refine (grow_t s1 hbn _).mono ?_
      rintro e w1 ⟨v, rfl, ho, hk1⟩
      have HO := Lib.hid (own_mono ho HK.out.size)
      have HK1 := Lib.hid (HK.out.then hk1)
      clear ho hk1
      go_wp2
      go_loopw [6, 27] (fun v i wr => ∃ j : Nat, j ≤ k ∧ i = .int .i64 (j : Int) ∧ wr.ownsRow w.heap.size 67 4 v (ls.take j).flatten.length ((ls.take j).flatten.map tgc).flatten ∧ Kept Nil w wr) (fun _ i _ => k - (intOf i).toNat)
      case atStart => exact ⟨0, Nat.zero_le _, rfl, HO.out, HK1.out⟩
      case round =>
        obtain ⟨j, hj, rfl, ho, hkp⟩ := hrel
        by_cases hlt : j < k
        · obtain ⟨A, n, c, hc, hkl, hb⟩ := HC.out _ hkp j hlt
          have hft := flat_take ls j hkl
          have hsum : (ls.take (j + 1)).flatten.length = (ls.take j).flatten.length + n := by rw [hft, List.length_append, hb.len]
          have hle := flat_le ls (j + 1)
          have hle2 := HT.out
          have hbd : (ls.take j).flatten.length + n ≤ 1099511627776 := by omega
          have HO2 := Lib.hid ho
          have HB2 := Lib.hid hb
          have HK2 := Lib.hid hkp
          have HF := Lib.hid hft
          have HSUM := Lib.hid hsum
          have HBD := Lib.hid hbd
          have hsz := hkp.size
          have HSZ := Lib.hid hsz
          obtain ⟨Aw, cw, rfl⟩ := own_form ho
          clear ho hb hkp hft hsum hle hle2 hbd hsz
          go_wp2_with (at_builtin; refine wpList_appR rfl _ _ 54 rfl 4 w.heap.size 67 6 i0 (tgv ⟨0, 0, false, 0⟩) Try.underlying54 hi hz0 hz1 hz2 rfl (by decide) _ _ _ rfl HO2.out A n c (ls[j].map tgc) rfl HB2.out.1 (tgc_one _) (by have := HBD.out; unfold maxLen; omega) (by have := HBD.out; omega) HSZ.out ?_; intro v' w2 hown' hgrow _)
          have hk2 : Kept Nil w w2 := HK2.out.grown hgrow (fun i hi hi' => absurd hi' (Nat.not_lt.2 (own_block_ge' HO2.out i hi)))
          rw [← List.flatten_append, ← List.map_append, ← HF.out, ← HSUM.out] at hown'
          have HO3 := Lib.hid hown'
          have HK3 := Lib.hid hk2
          clear hown' hgrow hk2
          go_wp2
          go_roundw
          case rel => exact ⟨j + 1, by omega, by go_num, HO3.out, HK3.out⟩
          case measure => simp [intOf]; omega
        · obtain rfl : j = k := by omega
          have e1 : ls.take j = ls := List.take_of_length_le (by rw [HL.out]; exact Nat.le_refl _)
          rw [e1] at ho
          have HO2 := Lib.hid ho
          have HK2 := Lib.hid hkp
          clear ho hkp e1
          go_wp2
          go_ret
          exact ⟨_, rfl, HO2.out, HK2.out⟩
end Go.Proofs.Ythjfeanmgaidcaa
