/- Package dhcp: contracts of Number, Wanted, Lease, Type. -/
import Derived.Test.YtbkjobmjapbmpaaDhV
import Derived.Test.YtbkjobmjapbmpaaCutC
namespace Go.Proofs.Ytbkjobmjapbmpaa
open Go.RowKit Go.Sort
set_option linter.unusedVariables false

theorem valD_le (cd : UInt8) (os : List Opn) : (valD cd os).1.length ≤ totM os := by
  unfold valD
  split
  · exact valM_le cd os
  · simp
set_option maxRecDepth 100000 in
set_option maxHeartbeats 4000000 in
theorem number_yes (D : Nat → Prop) (h : Dh) (vo vb : Value) (cd : UInt8) (w : World) (hI : DhIn D w h vo vb) (ht : totM h.os ≤ 1099511627776) : Calls Try.prog 75 #[dhv h vo vb, .int .u8 (cd.toNat : Int)] w fun e w' => e = .returned (.tuple #[.int .u32 ((numD cd h.os).1 : Int), .bool (numD cd h.os).2]) ∧ Kept Nil w w' := by
  have hP := DB.new w 73 h vo vb
  have hk := (Kept.refl Nil w).alloc (.cells (dcs h vo vb).toArray 73)
  go_enter Try.func75, Try.ntmps75
  go_upto_region 1 with (fail)
  refine wp_nameE (fun W => DB W w.heap.size 73 h vo vb ∧ Kept Nil w W) ⟨hP, hk⟩ ?_
  clear hP hk
  rintro W ⟨hP, hk⟩
  have HI := Lib.hid (hI.nil hk)
  have HS := Lib.hid hI.ok.s6
  have HR := Lib.hid hP.all
  have HK := Lib.hid hk
  have HT := Lib.hid ht
  clear hP hk hI ht
  go_wp2_with (first | (refine wpList_ld rfl _ _ rfl w.heap.size 0 rfl (dcs h vo vb) HR.out _ Try.underlying73 rfl (infDh h HS.out vo vb) ?_) | fail)
  refine (value_yes D h vo vb cd _ HI.out HT.out).mono ?_
  rintro e w1 ⟨v, rfl, hm⟩
  obtain ⟨A, c, rfl, hy, -⟩ := byt_own hm
  have HY := Lib.hid hy
  have HK1 := Lib.hid (HK.out.then hm.2)
  have HLE := Lib.hid (Nat.le_trans (valD_le cd h.os) HT.out)
  clear hm hy
  have HN := Lib.hid (show numD cd h.os = if (valD cd h.os).1.length = 4 then (numM (valD cd h.os).1, true) else (0, false) from rfl)
  generalize (valD cd h.os).1 = l at *
  obtain ⟨m, hm⟩ : ∃ m, l.length = m := ⟨_, rfl⟩
  rw [hm] at HN HY HLE ⊢
  have HM := Lib.hid hm
  clear hm
  by_cases h4 : m = 4
  · subst h4
    have HN' := Lib.hid (show numD cd h.os = (numM l, true) by rw [HN.out]; rfl)
    clear HN
    go_wp2_with (fail)
    refine (new_yes A 4 c l _ HY.out (by decide)).mono ?_
    rintro e w2 ⟨g, A', c', rfl, hc, hk, hg, hA⟩
    have HC := Lib.hid hc
    have HK2 := Lib.hid (HK1.out.then hk)
    have HG := Lib.hid (show w.heap.size ≤ g from Nat.le_trans HK1.out.size hg)
    clear hc hk hg hA
    go_wp2_with (fail)
    refine (Four_yes g A' 4 c' _ _ HC.out).mono ?_
    rintro e w3 ⟨rfl, hc, hk⟩
    have HK3 := Lib.hid (HK2.out.fresh hk (fun i hi => by have := HG.out; cases hi; omega))
    have ht : takeM ⟨l, 0, 0⟩ 4 = (l, ⟨l, 4, 0⟩) := by
      have := HM.out
      have h9 := List.take_of_length_le (Nat.le_of_eq this)
      simp [takeM, this, h9]
    rw [ht]
    clear hc hk ht
    go_wp2
    go_ret2
    exact ⟨by rw [HN'.out]; rfl, HK3.out⟩
  · have hb : ((m : Int) != 4) = true := by simp; omega
    have HN' := Lib.hid (show numD cd h.os = (0, false) by rw [HN.out, if_neg h4])
    clear HN h4
    go_wp2
    go_ret2
    exact ⟨by rw [HN'.out]; rfl, HK1.out⟩
set_option maxRecDepth 100000 in
theorem wanted_yes (D : Nat → Prop) (h : Dh) (vo vb : Value) (w : World) (hI : DhIn D w h vo vb) (ht : totM h.os ≤ 1099511627776) : Calls Try.prog 36 #[dhv h vo vb] w fun e w' => e = .returned (.tuple #[.int .u32 ((numD 50 h.os).1 : Int), .bool (numD 50 h.os).2]) ∧ Kept Nil w w' := by
  have hP := DB.new w 73 h vo vb
  have hk := (Kept.refl Nil w).alloc (.cells (dcs h vo vb).toArray 73)
  go_enter Try.func36, Try.ntmps36
  go_upto_region 1 with (fail)
  refine wp_nameE (fun W => DB W w.heap.size 73 h vo vb ∧ Kept Nil w W) ⟨hP, hk⟩ ?_
  clear hP hk
  rintro W ⟨hP, hk⟩
  have HI := Lib.hid (hI.nil hk)
  have HS := Lib.hid hI.ok.s6
  have HR := Lib.hid hP.all
  have HK := Lib.hid hk
  have HT := Lib.hid ht
  clear hP hk hI ht
  go_wp2_with (first | (refine wpList_ld rfl _ _ rfl w.heap.size 0 rfl (dcs h vo vb) HR.out _ Try.underlying73 rfl (infDh h HS.out vo vb) ?_) | fail)
  refine (number_yes D h vo vb 50 _ HI.out HT.out).mono ?_
  rintro e w1 ⟨rfl, hk1⟩
  have HK1 := Lib.hid (HK.out.then hk1)
  clear hk1
  generalize hR : numD 50 h.os = R at *
  have HRR := Lib.hid hR
  clear hR
  go_wp2
  go_ret2
  exact ⟨by rw [HRR.out]; rfl, HK1.out⟩
set_option maxRecDepth 100000 in
theorem lease_yes (D : Nat → Prop) (h : Dh) (vo vb : Value) (w : World) (hI : DhIn D w h vo vb) (ht : totM h.os ≤ 1099511627776) : Calls Try.prog 35 #[dhv h vo vb] w fun e w' => e = .returned (.tuple #[.int .u32 ((numD 51 h.os).1 : Int), .bool (numD 51 h.os).2]) ∧ Kept Nil w w' := by
  have hP := DB.new w 73 h vo vb
  have hk := (Kept.refl Nil w).alloc (.cells (dcs h vo vb).toArray 73)
  go_enter Try.func35, Try.ntmps35
  go_upto_region 1 with (fail)
  refine wp_nameE (fun W => DB W w.heap.size 73 h vo vb ∧ Kept Nil w W) ⟨hP, hk⟩ ?_
  clear hP hk
  rintro W ⟨hP, hk⟩
  have HI := Lib.hid (hI.nil hk)
  have HS := Lib.hid hI.ok.s6
  have HR := Lib.hid hP.all
  have HK := Lib.hid hk
  have HT := Lib.hid ht
  clear hP hk hI ht
  go_wp2_with (first | (refine wpList_ld rfl _ _ rfl w.heap.size 0 rfl (dcs h vo vb) HR.out _ Try.underlying73 rfl (infDh h HS.out vo vb) ?_) | fail)
  refine (number_yes D h vo vb 51 _ HI.out HT.out).mono ?_
  rintro e w1 ⟨rfl, hk1⟩
  have HK1 := Lib.hid (HK.out.then hk1)
  clear hk1
  generalize hR : numD 51 h.os = R at *
  have HRR := Lib.hid hR
  clear hR
  go_wp2
  go_ret2
  exact ⟨by rw [HRR.out]; rfl, HK1.out⟩
theorem one_of (l : List UInt8) (h : l.length = 1) : ∃ b, l = [b] := by
  match l, h with
  | [b], _ => exact ⟨b, rfl⟩
theorem typL_not (l : List UInt8) (h : l.length ≠ 1) : typL l = 0 := by
  unfold typL
  split
  · simp at h
  · rfl
set_option maxRecDepth 100000 in
set_option maxHeartbeats 4000000 in
theorem type_yes (D : Nat → Prop) (h : Dh) (vo vb : Value) (w : World) (hI : DhIn D w h vo vb) (ht : totM h.os ≤ 1099511627776) : Calls Try.prog 39 #[dhv h vo vb] w fun e w' => e = .returned (.int .i64 (typD h.os : Int)) ∧ Kept Nil w w' := by
  have hP := DB.new w 73 h vo vb
  have hk := (Kept.refl Nil w).alloc (.cells (dcs h vo vb).toArray 73)
  go_enter Try.func39, Try.ntmps39
  go_upto_region 1 with (fail)
  refine wp_nameE (fun W => DB W w.heap.size 73 h vo vb ∧ Kept Nil w W) ⟨hP, hk⟩ ?_
  clear hP hk
  rintro W ⟨hP, hk⟩
  have HI := Lib.hid (hI.nil hk)
  have HS := Lib.hid hI.ok.s6
  have HR := Lib.hid hP.all
  have HK := Lib.hid hk
  have HT := Lib.hid ht
  clear hP hk hI ht
  go_wp2_with (first | (refine wpList_ld rfl _ _ rfl w.heap.size 0 rfl (dcs h vo vb) HR.out _ Try.underlying73 rfl (infDh h HS.out vo vb) ?_) | fail)
  refine (value_yes D h vo vb 53 _ HI.out HT.out).mono ?_
  rintro e w1 ⟨v, rfl, hm⟩
  obtain ⟨A, c, rfl, hy, -⟩ := byt_own hm
  have HY := Lib.hid hy
  have HK1 := Lib.hid (HK.out.then hm.2)
  clear hm hy
  have HN := Lib.hid (show typD h.os = typL (valD 53 h.os).1 from rfl)
  generalize (valD 53 h.os).1 = l at *
  obtain ⟨m, hm⟩ : ∃ m, l.length = m := ⟨_, rfl⟩
  rw [hm] at HY ⊢
  have HM := Lib.hid hm
  clear hm
  by_cases h1 : m = 1
  · subst h1
    obtain ⟨b, rfl⟩ := one_of l HM.out
    obtain ⟨g, o, rfl, hc⟩ := HY.out.at (i := 0) (show 0 < 1 by omega)
    have q0 : w1.cell? ⟨g, o, none⟩ = some (.int .u8 (b.toNat : Int)) := hc
    have hb := b.toNat_lt
    have hw64 : wrap64 (b.toNat : Int) = (b.toNat : Int) := by unfold wrap64; omega
    have HB := Lib.hid hb
    clear hc hb HM HY
    by_cases hlo : b.toNat < 1
    · have e1 : decide ((b.toNat : Int) < 1) = true := by simp; omega
      have e1' : (b.toNat : Int) < 1 := by omega
      have HN' := Lib.hid (show typD h.os = 0 by rw [HN.out]; unfold typL; simp only; rw [if_neg (by omega)])
      clear hlo HN
      go_wp2
      go_ret
      exact ⟨by rw [HN'.out]; rfl, HK1.out⟩
    · have e1 : decide ((b.toNat : Int) < 1) = false := by simp; omega
      have e1' : ¬ (b.toNat : Int) < 1 := by omega
      by_cases hhi : 8 < b.toNat
      · have e2 : decide ((8 : Int) < (b.toNat : Int)) = true := by simp; omega
        have e2' : (8 : Int) < (b.toNat : Int) := by omega
        have HN' := Lib.hid (show typD h.os = 0 by rw [HN.out]; unfold typL; simp only; rw [if_neg (by omega)])
        clear hlo hhi HN
        go_wp2
        go_ret
        exact ⟨by rw [HN'.out]; rfl, HK1.out⟩
      · have e2 : decide ((8 : Int) < (b.toNat : Int)) = false := by simp; omega
        have e2' : ¬ (8 : Int) < (b.toNat : Int) := by omega
        have HN' := Lib.hid (show typD h.os = b.toNat by rw [HN.out]; unfold typL; simp only; rw [if_pos (by omega)])
        clear hlo hhi HN
        go_wp2
        go_ret
        exact ⟨by rw [HN'.out]; rfl, HK1.out⟩
  · have hb : ((m : Int) != 1) = true := by simp; omega
    have HN' := Lib.hid (show typD h.os = 0 by rw [HN.out]; exact typL_not l (by rw [HM.out]; exact h1))
    clear HN h1
    go_wp2
    go_ret
    exact ⟨by rw [HN'.out]; rfl, HK1.out⟩
end Go.Proofs.Ytbkjobmjapbmpaa
