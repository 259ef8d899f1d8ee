/- Texts that belong together, one behind the other: EthG, EthW. Conditions: those of each. -/
import Derived.Test.YtbkjobmjapbmpaaMg20
import Derived.Test.YtbkjobmjapbmpaaMg15
import Derived.Test.YtbkjobmjapbmpaaMg3
import Derived.Lib.AppendZeros
import Derived.Test.YtbkjobmjapbmpaaMg19
/- The library's Grow of nothing and Concat, of bytes. -/
namespace Go.Proofs.Ytbkjobmjapbmpaa
open Go.RowKit Go.Sort
set_option linter.unusedVariables false

set_option maxRecDepth 100000 in
theorem grow_b (n : Nat) (hn : n ≤ 140737488355328) (w : World) : Calls Try.prog 96 #[.slice none 0 0, .int .i64 (n : Int)] w fun e w' => ∃ v, e = .returned v ∧ w'.ownsRow w.heap.size 5 1 v 0 [] ∧ Kept Nil w w' := by
  obtain ⟨i0, hi, hz0, hz1, hz2⟩ := info_parts Try.infb
  by_cases h0 : n = 0
  · subst h0
    go_enter Try.func96, Try.ntmps96
    go_wp2
    go_ret
    exact ⟨_, rfl, World.ownsRow_nil _ _ _ _, Kept.refl _ _⟩
  · have hpos : (0 : Int) < (n : Int) := by omega
    have hrun := Lib.run_append_nil_zeros (P := Try.prog) w 31 3 31 5 i0 (.int .u8 0) .i64 .i64 Try.underlying31 Try.underlying3 hi hz0 n (by omega) (by omega) (by omega) (by rw [hz2]; omega)
    have hcap := grownCap_ge w n 0 5
    have hcm := grownCap_le_maxLen w n 0 5 (by unfold maxLen; omega)
    have hsz : (Builtin.zeroCells (Value.int .u8 0).cells n ++ Builtin.zeroCells (Value.int .u8 0).cells (grownCap w n 0 5 - n)).size = grownCap w n 0 5 := by
      rw [Array.size_append, size_zeroCells, size_zeroCells]; simp [Value.cells]; omega
    generalize (Builtin.zeroCells (Value.int .u8 0).cells n ++ Builtin.zeroCells (Value.int .u8 0).cells (grownCap w n 0 5 - n)) = Z at *
    generalize grownCap w n 0 5 = C at *
    have HR := Lib.hid hrun
    have HS := Lib.hid hsz
    have HM := Lib.hid hcm
    have hcm' : C ≤ 9223372036854775807 := by unfold maxLen at hcm; omega
    clear hrun hsz hcm hcap h0
    go_enter Try.func96, Try.ntmps96
    go_wp2_with (at_builtin; refine Lib.wpList_append_run _ rfl _ _ 31 3 rfl _ _ rfl rfl _ _ HR.out ?_)
    go_ret
    refine ⟨_, rfl, World.ownsRow_made w.drew Z C (by simp) HM.out (by rw [HS.out]; simp), ?_⟩
    exact ((Kept.refl Nil w).drew).alloc _
theorem own_block_ge' {w : World} {B e size n : Nat} {v : Value} {xs : List Value} (h : w.ownsRow B e size v n xs) : ∀ i, v.ownBlock = some i → B ≤ i := fun i hi => (h.lt i hi).1
theorem flat_take {α : Type} (ls : List (List α)) (k : Nat) (hk : k < ls.length) : (ls.take (k + 1)).flatten = (ls.take k).flatten ++ ls[k] := by
  rw [List.take_succ_eq_append_getElem hk, List.flatten_append, List.flatten_cons, List.flatten_nil, List.append_nil]
theorem flat_le {α : Type} (ls : List (List α)) (k : Nat) : (ls.take k).flatten.length ≤ ls.flatten.length := by
  have := congrArg List.length (congrArg List.flatten (List.take_append_drop k ls))
  rw [List.flatten_append, List.length_append] at this
  omega
set_option maxRecDepth 100000 in
set_option maxHeartbeats 2000000 in
theorem concat_b (g m : Nat) (T : TypeId) (vs : List Value) (ls : List (List UInt8)) (w : World) (hB : Blo w g T vs.toArray) (hv : vs.length = m) (hl : ls.length = m) (hm : m ≤ 1000)
    (h : ∀ i (h1 : i < vs.length) (h2 : i < ls.length), ∃ A n c, vs[i] = .slice A n c ∧ Byt w A n c ls[i]) (htot : ls.flatten.length ≤ 1099511627776) :
    Calls Try.prog 65 #[.slice (some ⟨g, 0, none⟩) m m] w fun e w' => ∃ v, e = .returned v ∧ Made w w' v ls.flatten := by
  obtain ⟨i0, hi, hz0, hz1, hz2⟩ := info_parts Try.infb
  have HB := Lib.hid hB
  have HV := Lib.hid hv
  have HL := Lib.hid hl
  have HH := Lib.hid h
  have HT := Lib.hid htot
  have cell : ∀ wr, Kept Nil w wr → ∀ k, k < m → ∃ A n c, wr.cell? ⟨g, k, none⟩ = some (.slice A n c) ∧ ∃ hk : k < ls.length, Byt wr A n c ls[k] := by
    intro wr hk k hkm
    obtain ⟨A, n, c, e1, e2⟩ := HH.out k (by rw [HV.out]; exact hkm) (by rw [HL.out]; exact hkm)
    have := HB.out.cell k
    rw [List.getElem?_toArray, List.getElem?_eq_getElem (by rw [HV.out]; exact hkm), e1] at this
    exact ⟨A, n, c, hk.cell this (fun hf => hf), by rw [HL.out]; exact hkm, e2.kept hk (fun _ _ hf => hf)⟩
  have HC := Lib.hid cell
  clear hB hv hl h htot cell
  go_enter Try.func65, Try.ntmps65
  go_wp2
  go_loopw [3, 11] (fun z i wr => ∃ k : Nat, k ≤ m ∧ i = .int .i64 (k : Int) ∧ z = .int .i64 ((ls.take k).flatten.length : Int) ∧ Kept Nil w wr) (fun _ i _ => m - (intOf i).toNat)
  case atStart => exact ⟨0, Nat.zero_le _, rfl, by simp, Kept.refl _ _⟩
  case round =>
    obtain ⟨k, hk, rfl, rfl, hkp⟩ := hrel
    by_cases hlt : k < m
    · obtain ⟨A, n, c, hc, hkl, hb⟩ := HC.out _ hkp k hlt
      have hn : ls[k].length = n := hb.1
      have hsum : ((ls.take (k + 1)).flatten.length : Int) = ((ls.take k).flatten.length : Int) + (n : Int) := by rw [flat_take ls k hkl, List.length_append, hn]; omega
      have hle := flat_le ls (k + 1)
      have hle2 := HT.out
      obtain ⟨s1, hs1⟩ : ∃ s : Nat, (ls.take (k + 1)).flatten.length = s := ⟨_, rfl⟩
      obtain ⟨s0, hs0⟩ : ∃ s : Nat, (ls.take k).flatten.length = s := ⟨_, rfl⟩
      rw [hs1] at hsum hle
      rw [hs0] at hsum ⊢
      have HK := Lib.hid hkp
      have HS1 := Lib.hid hs1
      have hb1 : s1 ≤ 1099511627776 := by omega
      have HSUM := Lib.hid hsum
      clear hkp hb hn hle hle2 hs1 hs0 hsum
      have hw : IntKind.wrap .i64 ((s0 : Int) + (n : Int)) = (s1 : Int) := by rw [← HSUM.out, IntKind.wrap_i64]; omega
      go_wp2
      go_roundw
      case rel => exact ⟨k + 1, by omega, by go_num, by rw [HS1.out], HK.out⟩
      case measure => simp [intOf]; omega
    · obtain rfl : k = m := by omega
      have e1 : ls.take k = ls := List.take_of_length_le (by rw [HL.out]; exact Nat.le_refl _)
      rw [e1]
      have HK := Lib.hid hkp
      have hbn : ls.flatten.length ≤ 140737488355328 := by have := HT.out; omega
      obtain ⟨s1, hs1⟩ : ∃ s : Nat, ls.flatten.length = s := ⟨_, rfl⟩
      rw [hs1] at hbn ⊢
      have HS1 := Lib.hid hs1
      clear hkp e1 hs1
      go_wp2_with fail
      refine (grow_b s1 hbn _).mono ?_
      rintro e w1 ⟨v, rfl, ho, hk1⟩
      have HO := Lib.hid (own_mono ho HK.out.size)
      have HK1 := Lib.hid (HK.out.then hk1)
      clear ho hk1
      go_wp2
      go_loopw [6, 27] (fun v i wr => ∃ j : Nat, j ≤ k ∧ i = .int .i64 (j : Int) ∧ wr.ownsRow w.heap.size 5 1 v (ls.take j).flatten.length (bys (ls.take j).flatten) ∧ Kept Nil w wr) (fun _ i _ => k - (intOf i).toNat)
      case atStart => exact ⟨0, Nat.zero_le _, rfl, HO.out, HK1.out⟩
      case round =>
        obtain ⟨j, hj, rfl, ho, hkp⟩ := hrel
        by_cases hlt : j < k
        · obtain ⟨A, n, c, hc, hkl, hb⟩ := HC.out _ hkp j hlt
          have hft := flat_take ls j hkl
          have hsum : (ls.take (j + 1)).flatten.length = (ls.take j).flatten.length + n := by rw [hft, List.length_append, hb.1]
          have hle := flat_le ls (j + 1)
          have hle2 := HT.out
          have hbd : (ls.take j).flatten.length + n ≤ 140737488355328 := by omega
          have HO2 := Lib.hid ho
          have HB2 := Lib.hid hb
          have HK2 := Lib.hid hkp
          have HF := Lib.hid hft
          have HSUM := Lib.hid hsum
          have HBD := Lib.hid hbd
          have hsz := hkp.size
          have HSZ := Lib.hid hsz
          obtain ⟨Aw, cw, rfl⟩ := own_form ho
          clear ho hb hkp hft hsum hle hle2 hbd hsz
          go_wp2_with (at_builtin; refine wpList_any rfl _ _ 31 rfl w.heap.size 5 i0 (.int .u8 0) Try.underlying31 hi hz0 hz1 hz2 rfl _ _ _ rfl HO2.out A n c _ rfl HB2.out HBD.out HSZ.out ?_; intro v' w2 hown' hgrow _)
          have hk2 : Kept Nil w w2 := HK2.out.grown hgrow (fun i hi hi' => absurd hi' (Nat.not_lt.2 (own_block_ge' HO2.out i hi)))
          rw [← bys_app, ← HF.out, ← HSUM.out] at hown'
          have HO3 := Lib.hid hown'
          have HK3 := Lib.hid hk2
          clear hown' hgrow hk2
          go_wp2
          go_roundw
          case rel => exact ⟨j + 1, by omega, by go_num, HO3.out, HK3.out⟩
          case measure => simp [intOf]; omega
        · obtain rfl : j = k := by omega
          have e1 : ls.take j = ls := List.take_of_length_le (by rw [HL.out]; exact Nat.le_refl _)
          rw [e1] at ho
          have HO2 := Lib.hid ho
          have HK2 := Lib.hid hkp
          clear ho hkp e1
          go_wp2
          go_ret
          exact ⟨_, rfl, HO2.out, HK2.out⟩
set_option maxRecDepth 100000 in
theorem grow_t (n : Nat) (hn : n ≤ 1099511627776) (w : World) : Calls Try.prog 114 #[.slice none 0 0, .int .i64 (n : Int)] w fun e w' => ∃ v, e = .returned v ∧ w'.ownsRow w.heap.size 63 4 v 0 [] ∧ Kept Nil w w' := by
  obtain ⟨i0, hi, hz0, hz1, hz2⟩ := info_parts Try.inft
  by_cases h0 : n = 0
  · subst h0
    go_enter Try.func114, Try.ntmps114
    go_wp2
    go_ret
    exact ⟨_, rfl, World.ownsRow_nil _ _ _ _, Kept.refl _ _⟩
  · have hpos : (0 : Int) < (n : Int) := by omega
    have hrun := Lib.run_append_nil_zeros (P := Try.prog) w 29 3 29 63 i0 (tgv ⟨0, 0, false, 0⟩) .i64 .i64 Try.underlying29 Try.underlying3 hi hz0 n (by omega) (by rw [hz1]; decide) (by omega) (by rw [hz2]; omega)
    have hcap := grownCap_ge w n 0 63
    have hcm := grownCap_le_maxLen w n 0 63 (by unfold maxLen; omega)
    have hsz : (Builtin.zeroCells (tgv ⟨0, 0, false, 0⟩).cells n ++ Builtin.zeroCells (tgv ⟨0, 0, false, 0⟩).cells (grownCap w n 0 63 - n)).size = grownCap w n 0 63 * 4 := by
      rw [Array.size_append, size_zeroCells, size_zeroCells]; simp [tgv, Value.cells]; omega
    generalize (Builtin.zeroCells (tgv ⟨0, 0, false, 0⟩).cells n ++ Builtin.zeroCells (tgv ⟨0, 0, false, 0⟩).cells (grownCap w n 0 63 - n)) = Z at *
    generalize grownCap w n 0 63 = C at *
    have HR := Lib.hid hrun
    have HS := Lib.hid hsz
    have HM := Lib.hid hcm
    have hcm' : C ≤ 9223372036854775807 := by unfold maxLen at hcm; omega
    clear hrun hsz hcm hcap h0
    go_enter Try.func114, Try.ntmps114
    go_wp2_with (at_builtin; refine Lib.wpList_append_run _ rfl _ _ 29 3 rfl _ _ rfl rfl _ _ HR.out ?_)
    go_ret
    refine ⟨_, rfl, World.ownsRow_made w.drew Z C (by simp) HM.out HS.out, ?_⟩
    exact ((Kept.refl Nil w).drew).alloc _
set_option maxRecDepth 100000 in
set_option maxHeartbeats 2000000 in
theorem concat_t (g m : Nat) (T : TypeId) (vs : List Value) (ls : List (List Tg)) (w : World) (hB : Blo w g T vs.toArray) (hv : vs.length = m) (hl : ls.length = m) (hm : m ≤ 1000)
    (h : ∀ i (h1 : i < vs.length) (h2 : i < ls.length), ∃ A n c, vs[i] = .slice A n c ∧ Tags w A n c ls[i]) (htot : ls.flatten.length ≤ 1099511627) :
    Calls Try.prog 109 #[.slice (some ⟨g, 0, none⟩) m m] w fun e w' => ∃ v, e = .returned v ∧ MadeT w w' v ls.flatten := by
  obtain ⟨i0, hi, hz0, hz1, hz2⟩ := info_parts Try.inft
  have HB := Lib.hid hB
  have HV := Lib.hid hv
  have HL := Lib.hid hl
  have HH := Lib.hid h
  have HT := Lib.hid htot
  have cell : ∀ wr, Kept Nil w wr → ∀ k, k < m → ∃ A n c, wr.cell? ⟨g, k, none⟩ = some (.slice A n c) ∧ ∃ hk : k < ls.length, Tags wr A n c ls[k] := by
    intro wr hk k hkm
    obtain ⟨A, n, c, e1, e2⟩ := HH.out k (by rw [HV.out]; exact hkm) (by rw [HL.out]; exact hkm)
    have := HB.out.cell k
    rw [List.getElem?_toArray, List.getElem?_eq_getElem (by rw [HV.out]; exact hkm), e1] at this
    exact ⟨A, n, c, hk.cell this (fun hf => hf), by rw [HL.out]; exact hkm, e2.kept hk (fun _ _ hf => hf)⟩
  have HC := Lib.hid cell
  clear hB hv hl h htot cell
  go_enter Try.func109, Try.ntmps109
  go_wp2
  go_loopw [3, 11] (fun z i wr => ∃ k : Nat, k ≤ m ∧ i = .int .i64 (k : Int) ∧ z = .int .i64 ((ls.take k).flatten.length : Int) ∧ Kept Nil w wr) (fun _ i _ => m - (intOf i).toNat)
  case atStart => exact ⟨0, Nat.zero_le _, rfl, by simp, Kept.refl _ _⟩
  case round =>
    obtain ⟨k, hk, rfl, rfl, hkp⟩ := hrel
    by_cases hlt : k < m
    · obtain ⟨A, n, c, hc, hkl, hb⟩ := HC.out _ hkp k hlt
      have hn : ls[k].length = n := hb.len
      have hsum : ((ls.take (k + 1)).flatten.length : Int) = ((ls.take k).flatten.length : Int) + (n : Int) := by rw [flat_take ls k hkl, List.length_append, hn]; omega
      have hle := flat_le ls (k + 1)
      have hle2 := HT.out
      obtain ⟨s1, hs1⟩ : ∃ s : Nat, (ls.take (k + 1)).flatten.length = s := ⟨_, rfl⟩
      obtain ⟨s0, hs0⟩ : ∃ s : Nat, (ls.take k).flatten.length = s := ⟨_, rfl⟩
      rw [hs1] at hsum hle
      rw [hs0] at hsum ⊢
      have HK := Lib.hid hkp
      have HS1 := Lib.hid hs1
      have hb1 : s1 ≤ 1099511627 := by omega
      have HSUM := Lib.hid hsum
      clear hkp hb hn hle hle2 hs1 hs0 hsum
      have hw : IntKind.wrap .i64 ((s0 : Int) + (n : Int)) = (s1 : Int) := by rw [← HSUM.out, IntKind.wrap_i64]; omega
      go_wp2
      go_roundw
      case rel => exact ⟨k + 1, by omega, by go_num, by rw [HS1.out], HK.out⟩
      case measure => simp [intOf]; omega
    · obtain rfl : k = m := by omega
      have e1 : ls.take k = ls := List.take_of_length_le (by rw [HL.out]; exact Nat.le_refl _)
      rw [e1]
      have HK := Lib.hid hkp
      have hbn : ls.flatten.length ≤ 1099511627776 := by have := HT.out; omega
      obtain ⟨s1, hs1⟩ : ∃ s : Nat, ls.flatten.length = s := ⟨_, rfl⟩
      rw [hs1] at hbn ⊢
      have HS1 := Lib.hid hs1
      clear hkp e1 hs1
      go_wp2_with fail
      refine (grow_t s1 hbn _).mono ?_
      rintro e w1 ⟨v, rfl, ho, hk1⟩
      have HO := Lib.hid (own_mono ho HK.out.size)
      have HK1 := Lib.hid (HK.out.then hk1)
      clear ho hk1
      go_wp2
      go_loopw [6, 27] (fun v i wr => ∃ j : Nat, j ≤ k ∧ i = .int .i64 (j : Int) ∧ wr.ownsRow w.heap.size 63 4 v (ls.take j).flatten.length ((ls.take j).flatten.map tgc).flatten ∧ Kept Nil w wr) (fun _ i _ => k - (intOf i).toNat)
      case atStart => exact ⟨0, Nat.zero_le _, rfl, HO.out, HK1.out⟩
      case round =>
        obtain ⟨j, hj, rfl, ho, hkp⟩ := hrel
        by_cases hlt : j < k
        · obtain ⟨A, n, c, hc, hkl, hb⟩ := HC.out _ hkp j hlt
          have hft := flat_take ls j hkl
          have hsum : (ls.take (j + 1)).flatten.length = (ls.take j).flatten.length + n := by rw [hft, List.length_append, hb.len]
          have hle := flat_le ls (j + 1)
          have hle2 := HT.out
          have hbd : (ls.take j).flatten.length + n ≤ 1099511627776 := by omega
          have HO2 := Lib.hid ho
          have HB2 := Lib.hid hb
          have HK2 := Lib.hid hkp
          have HF := Lib.hid hft
          have HSUM := Lib.hid hsum
          have HBD := Lib.hid hbd
          have hsz := hkp.size
          have HSZ := Lib.hid hsz
          obtain ⟨Aw, cw, rfl⟩ := own_form ho
          clear ho hb hkp hft hsum hle hle2 hbd hsz
          go_wp2_with (at_builtin; refine wpList_appR rfl _ _ 29 rfl 4 w.heap.size 63 6 i0 (tgv ⟨0, 0, false, 0⟩) Try.underlying29 hi hz0 hz1 hz2 rfl (by decide) _ _ _ rfl HO2.out A n c (ls[j].map tgc) rfl HB2.out.1 (tgc_one _) (by have := HBD.out; unfold maxLen; omega) (by have := HBD.out; omega) HSZ.out ?_; intro v' w2 hown' hgrow _)
          have hk2 : Kept Nil w w2 := HK2.out.grown hgrow (fun i hi hi' => absurd hi' (Nat.not_lt.2 (own_block_ge' HO2.out i hi)))
          rw [← List.flatten_append, ← List.map_append, ← HF.out, ← HSUM.out] at hown'
          have HO3 := Lib.hid hown'
          have HK3 := Lib.hid hk2
          clear hown' hgrow hk2
          go_wp2
          go_roundw
          case rel => exact ⟨j + 1, by omega, by go_num, HO3.out, HK3.out⟩
          case measure => simp [intOf]; omega
        · obtain rfl : j = k := by omega
          have e1 : ls.take j = ls := List.take_of_length_le (by rw [HL.out]; exact Nat.le_refl _)
          rw [e1] at ho
          have HO2 := Lib.hid ho
          have HK2 := Lib.hid hkp
          clear ho hkp e1
          go_wp2
          go_ret
          exact ⟨_, rfl, HO2.out, HK2.out⟩
end Go.Proofs.Ytbkjobmjapbmpaa
/- Package ether: contract of With. -/
namespace Go.Proofs.Ytbkjobmjapbmpaa
open Go.RowKit Go.Sort
set_option linter.unusedVariables false

/-- What With's calls have made. -/
def withI (n0 : Nat) (l1 l2 : List UInt8) (D : Nat → Prop) (s : List Value) (u : World) : Prop := n0 ≤ u.heap.size ∧ match s with
  | [] => True
  | [v] => u.ownsRow n0 5 1 v l1.length (bys l1)
  | _ :: v :: _ => u.ownsRow n0 5 1 v l2.length (bys l2)
theorem withI_keeps (n0 : Nat) (l1 l2 : List UInt8) : Keeps (withI n0 l1 l2) where
  quiet := fun D s u u' ⟨h1, h2⟩ hk => ⟨Nat.le_trans h1 hk.size, by
    match s, h2 with
    | [], _ => trivial
    | [v], h2 => exact own_kept h2 hk (fun _ _ hf => hf)
    | _ :: v :: _, h2 => exact own_kept h2 hk (fun _ _ hf => hf)⟩
  make := fun D s u o ⟨h1, h2⟩ => ⟨by simp; omega, by
    match s, h2 with
    | [], _ => trivial
    | [v], h2 => exact own_kept h2 ((Kept.refl Nil u).alloc o) (fun _ _ hf => hf)
    | _ :: v :: _, h2 => exact own_kept h2 ((Kept.refl Nil u).alloc o) (fun _ _ hf => hf)⟩
theorem bytesM_le (l : List Tg) : (bytesM l).length ≤ l.length * 4 := by
  unfold bytesM
  split
  · rw [bytTs_len]; exact Nat.le_refl _
  · simp
def withM (d s : List UInt8) (t : List Tg) (b : List UInt8) : List UInt8 := d ++ s ++ bytesM t ++ b
set_option maxRecDepth 100000 in
set_option maxHeartbeats 4000000 in
theorem with_yes (d s : List UInt8) (hd : d.length = 6) (hs : s.length = 6) (A : Option Addr) (n c : Nat) (t : List Tg) (A' : Option Addr) (n' c' : Nat) (b : List UInt8) (w : World) (ht : Tags w A n c t) (hb : Byt w A' n' c' b) (hn : n ≤ 1000) (hbl : n' ≤ 1000000000) :
    Calls Try.prog 63 #[.agg (bys d).toArray, .agg (bys s).toArray, .slice A n c, .slice A' n' c'] w fun e w' => ∃ v, e = .returned v ∧ Made w w' v (withM d s t b) := by
  have hk0 : Kept Nil w ((w.alloc (.cells (bys d).toArray 28)).alloc (.cells (bys s).toArray 28)) := ((Kept.refl Nil w).alloc _).alloc _
  have hbd : Byt ((w.alloc (.cells (bys d).toArray 28)).alloc (.cells (bys s).toArray 28)) (some ⟨w.heap.size, 0, none⟩) 6 6 d := by
    have := (Byt.lit w d 28 (by omega)).kept ((Kept.refl Nil _).alloc (.cells (bys s).toArray 28)) (fun _ _ hf => hf)
    rwa [hd] at this
  have hbs : Byt ((w.alloc (.cells (bys d).toArray 28)).alloc (.cells (bys s).toArray 28)) (some ⟨w.heap.size + 1, 0, none⟩) 6 6 s := by
    have := Byt.lit (w.alloc (.cells (bys d).toArray 28)) s 28 (by omega)
    rw [hs, World.size_alloc] at this
    exact this
  have htl := ht.len
  have hbln := hb.1
  have hlen1 := bytesM_le t
  have HT := Lib.hid (ht.kept hk0 (fun _ _ hf => hf))
  have HBB := Lib.hid (hb.kept hk0 (fun _ _ hf => hf))
  have HBD := Lib.hid hbd
  have HBS := Lib.hid hbs
  have HK0 := Lib.hid hk0
  have HTOT := Lib.hid (show [d, s, bytesM t, b].flatten.length ≤ 1099511627776 by simp; omega)
  have HFL := Lib.hid (show [d, s, bytesM t, b].flatten = withM d s t b by simp [withM])
  have HSZ0 := Lib.hid (show w.heap.size ≤ ((w.alloc (.cells (bys d).toArray 28)).alloc (.cells (bys s).toArray 28)).heap.size by simp; omega)
  clear ht hb hk0 hbd hbs htl hbln hlen1
  go_enter Try.func63, Try.ntmps63
  go_wp2
  refine wp_region_acts Nil [3, 6] (fun i vl => (vl.toArray, 31)) (fun i => undef) (withI w.heap.size (bytesM t) (withM d s t b)) (fun i v => ∃ A n c, v = .slice A n c) 7 (by kernel_rfl) (by kernel_rfl) (withI_keeps _ _ _) ⟨HSZ0.out, trivial⟩ ?_
  simp only [List.take_succ_cons, List.take_zero, List.drop_succ_cons, List.drop_zero]
  refine tLex_quiets 3 rfl (by kernel_rfl) ?_
  simp only [List.take_succ_cons, List.take_zero, List.drop_succ_cons, List.drop_zero]
  apply Exists.intro
  refine ⟨?hq, ?hv, ?ht⟩
  case hq =>
    intro V hV
    clear hV
    repeat (go_big_quiet_step (fail))
    exact wpQuiet_nil rfl
  case hv => exact ⟨trivial, trivial, trivial, trivial⟩
  case ht =>
    refine tLex_act 95 #[.slice A n c] (fun u => ?he) rfl rfl (.slice none 0 0) ⟨_, _, _, rfl⟩ ?hc ?_
    case he => simp [execOp, go_sem]
    case hc =>
      intro D u hu hI hd
      refine (bytes_yes A n c t u (HT.out.kept hu (fun _ _ hf => hf)) (by omega)).mono ?_
      rintro e w' ⟨v, rfl, hm⟩
      obtain ⟨A3, c3, hv3⟩ := own_form hm.1
      exact ⟨v, rfl, ⟨A3, _, c3, hv3⟩, hu.then hm.2, ⟨Nat.le_trans hI.1 hm.2.size, own_mono hm.1 hI.1⟩, hm.2.size, fun k _ hk => hm.2.block k hk (fun hf => hf)⟩
    rintro v ⟨A3, n3, c3, rfl⟩
    simp only [Act.put, List.setIfInBounds_toArray, List.set_cons_succ, List.set_cons_zero]
    refine tLex_quiets 1 rfl (by kernel_rfl) ?_
    simp only [List.take_succ_cons, List.take_zero, List.drop_succ_cons, List.drop_zero]
    apply Exists.intro
    refine ⟨?hq1, ?hv1, ?ht1⟩
    case hq1 =>
      intro V hV
      clear hV
      repeat (go_big_quiet_step (fail))
      exact wpQuiet_nil rfl
    case hv1 => exact ⟨trivial, trivial⟩
    case ht1 =>
      refine tLex_make (#[.slice (some ⟨w.heap.size, 0, none⟩) 6 6, .slice (some ⟨w.heap.size + 1, 0, none⟩) 6 6, .slice A3 n3 c3, .slice A' n' c'], 31) rfl rfl rfl rfl (fun u => ?hm) ?_
      case hm => simp [execOp, mkVal, Instr.buildSlice, go_sem]
      intro g hg hL
      simp only [Act.put, mkVal, List.setIfInBounds_toArray, List.set_cons_succ, List.set_cons_zero]
      refine tLex_act 65 #[.slice (some ⟨g, 0, none⟩) 4 4] (fun u => ?he2) rfl rfl (.slice none 0 0) ⟨_, _, _, rfl⟩ ?hc2 ?_
      case he2 => simp [execOp, go_sem, mkVal]
      case hc2 =>
        intro D u hu hI hdd
        obtain ⟨d1, d2⟩ := hdd g _ ⟨_, List.mem_cons_of_mem _ (List.mem_cons_self ..), rfl⟩ (mput_same _ _ _)
        obtain ⟨hI1, hI2⟩ := hI
        have hI2' : u.ownsRow w.heap.size 5 1 (.slice A3 n3 c3) (bytesM t).length (bys (bytesM t)) := hI2
        obtain ⟨A4, c4, e4, hy4, _⟩ := Byt.of_own hI2'
        cases e4
        refine (concat_b g 4 31 [.slice (some ⟨w.heap.size, 0, none⟩) 6 6, .slice (some ⟨w.heap.size + 1, 0, none⟩) 6 6, .slice A3 (bytesM t).length c3, .slice A' n' c'] [d, s, bytesM t, b] u d2 rfl rfl (by decide) ?_ HTOT.out).mono ?_
        · intro i h1 h2
          match i, h1 with
          | 0, _ => exact ⟨_, _, _, rfl, HBD.out.kept hu (fun _ _ hf => hf)⟩
          | 1, _ => exact ⟨_, _, _, rfl, HBS.out.kept hu (fun _ _ hf => hf)⟩
          | 2, _ => exact ⟨_, _, _, rfl, hy4⟩
          | 3, _ => exact ⟨_, _, _, rfl, HBB.out.kept hu (fun _ _ hf => hf)⟩
        · rintro e w' ⟨v, rfl, hm⟩
          rw [HFL.out] at hm
          obtain ⟨A5, c5, hv5⟩ := own_form hm.1
          exact ⟨v, rfl, ⟨A5, _, c5, hv5⟩, hu.then hm.2, ⟨Nat.le_trans hI1 hm.2.size, own_mono hm.1 hI1⟩, hm.2.size, fun k _ hk => hm.2.block k hk (fun hf => hf)⟩
      rintro v ⟨A5, n5, c5, rfl⟩
      simp only [Act.put, List.setIfInBounds_toArray, List.set_cons_succ, List.set_cons_zero]
      intro w3 hs
      have HO := Lib.hid hs.know.2
      have HK := Lib.hid (HK0.out.then hs.kept)
      clear hs
      go_wp2
      go_ret
      exact ⟨_, rfl, HO.out, HK.out⟩
end Go.Proofs.Ytbkjobmjapbmpaa
