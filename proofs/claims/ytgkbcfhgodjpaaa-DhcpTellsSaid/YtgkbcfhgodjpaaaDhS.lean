/- tollref09: contracts of Number, Wide, Type. -/
import Derived.Test.YtgkbcfhgodjpaaaDhR
namespace Go.Proofs.Ytgkbcfhgodjpaaa
open Go.RowKit Go.Sort
set_option linter.unusedVariables false

set_option maxRecDepth 100000 in
set_option maxHeartbeats 4000000 in
theorem rnumber_yes (A : Option Addr) (c : Nat) (l : List UInt8) (w : World) (h : Byt w A 4 c l) : Calls Try.prog 38 #[.slice A 4 c, .int .i64 0] w fun e w' => e = .returned (.int .u32 (numM l : Int)) ∧ Kept Nil w w' := by
  obtain ⟨x0, x1, x2, x3, rfl⟩ := four_list l h.1
  obtain ⟨b, o, rfl, hcell⟩ := h.2.2.2 (by decide)
  have q0 := fun (d : Nat) (os : Array Obj) => (kept_grown' w d os).cell (hcell 0 (by simp)) (fun hf => hf)
  have q1 := fun (d : Nat) (os : Array Obj) => (kept_grown' w d os).cell (hcell 1 (by simp)) (fun hf => hf)
  have q2 := fun (d : Nat) (os : Array Obj) => (kept_grown' w d os).cell (hcell 2 (by simp)) (fun hf => hf)
  have q3 := fun (d : Nat) (os : Array Obj) => (kept_grown' w d os).cell (hcell 3 (by simp)) (fun hf => hf)
  simp only [List.getElem_cons_zero, List.getElem_cons_succ, Nat.add_zero] at q0 q1 q2 q3
  clear h hcell
  go_enter Try.func38, Try.ntmps38
  go_upto_region 1 with (fail)
  refine wp_region_quiet_below (by kernel_rfl) (by kernel_rfl) ?_
  repeat (go_big_quiet_step (fail))
  refine wpQuiet_nil ?_
  rintro wz ⟨nq, hw⟩
  have hk : Kept Nil w wz := by rw [hw]; exact kept_grown _ _
  have HKZ := Lib.hid hk
  clear hw hk q0 q1 q2 q3
  go_wp2
  go_ret
  refine ⟨?_, HKZ.out⟩
  refine congrArg (fun z => Ending.returned (.int .u32 z)) ?_
  have h0 := x0.toNat_lt
  have h1 := x1.toNat_lt
  have h2 := x2.toNat_lt
  have h3 := x3.toNat_lt
  show _ = ((numM [x0, x1, x2, x3] : Nat) : Int)
  have e : numM [x0, x1, x2, x3] = x0.toNat * 16777216 + x1.toNat * 65536 + x2.toNat * 256 + x3.toNat := by simp only [numM, List.foldl_cons, List.foldl_nil]; omega
  rw [e]
  omega
set_option maxRecDepth 100000 in
set_option maxHeartbeats 4000000 in
theorem rwide_yes (h : Dh) (vh vo vb : Value) (cd : UInt8) (w : World) (hI : RfIn w h vh vo vb) (ht : totM h.os ≤ 1099511627776) : Calls Try.prog 14 #[rfv vh vo vb, .int .i64 (cd.toNat : Int)] w fun e w' => e = .returned (.tuple #[.int .u32 ((numD cd h.os).1 : Int), .bool (numD cd h.os).2]) ∧ Kept Nil w w' := by
  have hP := Blo.new w 37 #[vh, vo, vb]
  have hk := (Kept.refl Nil w).alloc (.cells #[vh, vo, vb] 37)
  go_enter Try.func14, Try.ntmps14
  go_upto_region 1 with (fail)
  refine wp_nameE (fun W => Blo W w.heap.size 37 #[vh, vo, vb] ∧ Kept Nil w W) ⟨hP, hk⟩ ?_
  clear hP hk
  rintro W ⟨hP, hk⟩
  have HI := Lib.hid (hI.nil hk)
  have HR := Lib.hid (Blo.row [] [vh, vo, vb] [] (w := W) (g := w.heap.size) (t := 37) hP)
  have HK := Lib.hid hk
  have HT := Lib.hid ht
  clear hP hk hI ht
  go_wp2_with (first | (refine wpList_ld rfl _ _ rfl w.heap.size 0 rfl [vh, vo, vb] HR.out _ Try.underlying37 rfl (infRf _ _ _) ?_) | fail)
  refine (rvalue_yes h vh vo vb cd _ HI.out HT.out).mono ?_
  rintro e w1 ⟨v, rfl, hm⟩
  obtain ⟨A, c, rfl, hy, -⟩ := byt_own hm
  have HY := Lib.hid hy
  have HK1 := Lib.hid (HK.out.then hm.2)
  clear hm hy
  have HN := Lib.hid (show numD cd h.os = if (valD cd h.os).1.length = 4 then (numM (valD cd h.os).1, true) else (0, false) from rfl)
  generalize (valD cd h.os).1 = l at *
  obtain ⟨m, hm⟩ : ∃ m, l.length = m := ⟨_, rfl⟩
  rw [hm] at HN HY ⊢
  have HM := Lib.hid hm
  clear hm
  by_cases h4 : m = 4
  · subst h4
    have HN' := Lib.hid (show numD cd h.os = (numM l, true) by rw [HN.out]; rfl)
    clear HN
    go_wp2_with (fail)
    refine (rnumber_yes A c l _ HY.out).mono ?_
    rintro e w2 ⟨rfl, hk⟩
    have HK2 := Lib.hid (HK1.out.then hk)
    clear hk
    go_wp2
    go_ret2
    exact ⟨by rw [HN'.out]; rfl, HK2.out⟩
  · have hb : ((m : Int) != 4) = true := by simp; omega
    have HN' := Lib.hid (show numD cd h.os = (0, false) by rw [HN.out, if_neg h4])
    clear HN h4
    go_wp2
    go_ret2
    exact ⟨by rw [HN'.out]; rfl, HK1.out⟩
set_option maxRecDepth 100000 in
set_option maxHeartbeats 4000000 in
theorem rtype_yes (h : Dh) (vh vo vb : Value) (w : World) (hI : RfIn w h vh vo vb) (ht : totM h.os ≤ 1099511627776) : Calls Try.prog 19 #[rfv vh vo vb] w fun e w' => e = .returned (.int .i64 (typD h.os : Int)) ∧ Kept Nil w w' := by
  have hP := Blo.new w 37 #[vh, vo, vb]
  have hk := (Kept.refl Nil w).alloc (.cells #[vh, vo, vb] 37)
  go_enter Try.func19, Try.ntmps19
  go_upto_region 1 with (fail)
  refine wp_nameE (fun W => Blo W w.heap.size 37 #[vh, vo, vb] ∧ Kept Nil w W) ⟨hP, hk⟩ ?_
  clear hP hk
  rintro W ⟨hP, hk⟩
  have HI := Lib.hid (hI.nil hk)
  have HR := Lib.hid (Blo.row [] [vh, vo, vb] [] (w := W) (g := w.heap.size) (t := 37) hP)
  have HK := Lib.hid hk
  have HT := Lib.hid ht
  clear hP hk hI ht
  go_wp2_with (first | (refine wpList_ld rfl _ _ rfl w.heap.size 0 rfl [vh, vo, vb] HR.out _ Try.underlying37 rfl (infRf _ _ _) ?_) | fail)
  refine (rvalue_yes h vh vo vb 53 _ HI.out HT.out).mono ?_
  rintro e w1 ⟨v, rfl, hm⟩
  obtain ⟨A, c, rfl, hy, -⟩ := byt_own hm
  have HY := Lib.hid hy
  have HK1 := Lib.hid (HK.out.then hm.2)
  clear hm hy
  have HN := Lib.hid (show typD h.os = typL (valD 53 h.os).1 from rfl)
  generalize (valD 53 h.os).1 = l at *
  obtain ⟨m, hm⟩ : ∃ m, l.length = m := ⟨_, rfl⟩
  rw [hm] at HY ⊢
  have HM := Lib.hid hm
  clear hm
  by_cases h1 : m = 1
  · subst h1
    obtain ⟨b, rfl⟩ := one_of l HM.out
    obtain ⟨g, o, rfl, hc⟩ := HY.out.at (i := 0) (show 0 < 1 by omega)
    have q0 : w1.cell? ⟨g, o, none⟩ = some (.int .u8 (b.toNat : Int)) := hc
    have hb := b.toNat_lt
    have hw64 : wrap64 (b.toNat : Int) = (b.toNat : Int) := by unfold wrap64; omega
    clear hc hb HM HY
    by_cases hlo : 1 ≤ b.toNat
    · have e1 : decide ((1 : Int) ≤ (b.toNat : Int)) = true := by simp; omega
      have e1' : (1 : Int) ≤ (b.toNat : Int) := by omega
      by_cases hhi : b.toNat ≤ 8
      · have e2 : decide ((b.toNat : Int) ≤ 8) = true := by simp; omega
        have e2' : (b.toNat : Int) ≤ 8 := by omega
        have HN' := Lib.hid (show typD h.os = b.toNat by rw [HN.out]; unfold typL; simp only; rw [if_pos (by omega)])
        clear hlo hhi HN
        go_wp2
        go_ret
        exact ⟨by rw [HN'.out]; rfl, HK1.out⟩
      · have e2 : decide ((b.toNat : Int) ≤ 8) = false := by simp; omega
        have e2' : ¬ (b.toNat : Int) ≤ 8 := by omega
        have HN' := Lib.hid (show typD h.os = 0 by rw [HN.out]; unfold typL; simp only; rw [if_neg (by omega)])
        clear hlo hhi HN
        go_wp2
        go_ret
        exact ⟨by rw [HN'.out]; rfl, HK1.out⟩
    · have e1 : decide ((1 : Int) ≤ (b.toNat : Int)) = false := by simp; omega
      have e1' : ¬ (1 : Int) ≤ (b.toNat : Int) := by omega
      have HN' := Lib.hid (show typD h.os = 0 by rw [HN.out]; unfold typL; simp only; rw [if_neg (by omega)])
      clear hlo HN
      go_wp2
      go_ret
      exact ⟨by rw [HN'.out]; rfl, HK1.out⟩
  · have hb : ((m : Int) == 1) = false := by simp; omega
    have HN' := Lib.hid (show typD h.os = 0 by rw [HN.out]; exact typL_not l (by rw [HM.out]; exact h1))
    clear HN h1
    go_wp2
    go_ret
    exact ⟨by rw [HN'.out]; rfl, HK1.out⟩
end Go.Proofs.Ytgkbcfhgodjpaaa
