/- Package icmp: isOfPair. -/
import Derived.Test.YtkpelaojjfcpfaaIcB
namespace Go.Proofs.Ytkpelaojjfcpfaa
open Go.RowKit Go.Sort
open Go.Maps (Keyed int_keyed keyOf_int_mk)
set_option linter.unusedVariables false

set_option maxRecDepth 100000 in
set_option maxHeartbeats 8000000 in
theorem pair_yes (m : Ms) (A : Option Addr) (n c : Nat) (w : World) : Calls Try.prog 34 #[msv m A n c] w fun e w' => e = .returned (.bool (pairB m.t.toNat)) ∧ Kept Nil w w' := by
  have hP := MB.new w 25 m A n c
  have hk := (Kept.refl Nil w).alloc (.cells (ics m A n c).toArray 25)
  have HKI := Lib.hid (fun u => kind_yes m A n c u)
  have HPB := Lib.hid (show pairB m.t.toNat = decide (kindN m.t.toNat = 2 ∨ kindN m.t.toNat = 3) from rfl)
  generalize pairB m.t.toNat = pb at *
  generalize kindN m.t.toNat = kn at *
  unfold msv at HKI ⊢
  go_enter Try.func34, Try.ntmps34
  go_upto_region 1 with (fail)
  refine wp_nameE (fun W => MB W w.heap.size 25 m A n c ∧ Kept Nil w W) ⟨hP, hk⟩ ?_
  clear hP hk
  rintro W ⟨hP, hk⟩
  have HP := Lib.hid hP
  have HK := Lib.hid hk
  obtain ⟨g, hg⟩ : ∃ g, w.heap.size = g := ⟨_, rfl⟩
  rw [hg] at HP ⊢
  clear hP hk hg
  go_wp2_with (first
    | (refine wpList_ld rfl _ _ rfl g 0 rfl (ics m A n c) HP.out.all _ Try.underlying25 rfl (infMs _ _ _ _) ?_; simp only [Act.put, List.setIfInBounds_toArray, List.set_cons_succ, List.set_cons_zero])
    | fail)
  refine (HKI.out _).mono ?_
  rintro e w1 ⟨rfl, hk⟩
  have HP1 := Lib.hid (HP.out.kept hk (fun hf => hf))
  have HK1 := Lib.hid (HK.out.then hk)
  clear hk HP HK
  by_cases h2 : kn = 2
  · have HB := Lib.hid (show pb = true by rw [HPB.out]; simp [h2])
    subst h2
    clear HPB
    go_wp2
    go_ret
    exact ⟨by rw [HB.out]; rfl, HK1.out⟩
  · have h2' : ((kn : Int) == 2) = false := by simp; omega
    have HB := Lib.hid (show pb = decide (kn = 3) by rw [HPB.out]; simp [h2])
    clear h2 HPB
    go_wp2_with (first
      | (refine wpList_ld rfl _ _ rfl g 0 rfl (ics m A n c) HP1.out.all _ Try.underlying25 rfl (infMs _ _ _ _) ?_; simp only [Act.put, List.setIfInBounds_toArray, List.set_cons_succ, List.set_cons_zero])
      | fail)
    refine (HKI.out _).mono ?_
    rintro e w2 ⟨rfl, hk⟩
    have HK2 := Lib.hid (HK1.out.then hk)
    clear hk HP1 HK1
    have h3 : ((kn : Int) == 3) = decide (kn = 3) := by rw [Bool.eq_iff_iff]; simp; omega
    rw [← HB.out] at h3
    clear HB
    go_wp2
    go_ret
    exact ⟨rfl, HK2.out⟩
end Go.Proofs.Ytkpelaojjfcpfaa
