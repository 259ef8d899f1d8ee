/- tolllaw08.IcmpTypes: the walk. -/
import Derived.Test.YtkpelaojjfcpfaaIcF
import Derived.Test.YtkpelaojjfcpfaaFrameA
namespace Go.Proofs.Ytkpelaojjfcpfaa
open Go.RowKit Go.Sort
set_option linter.unusedVariables false

theorem ty_all : ∀ t : Fin 256, (kindN t.val = 0 ∧ pairB t.val = false ∧ backN t.val = 0) ∨ (kindN t.val = 1 ∧ pairB t.val = false ∧ backN t.val = 0) ∨
    (kindN t.val = 2 ∧ pairB t.val = true ∧ kindN (backN t.val) = 3 ∧ pairB (backN t.val) = true ∧ backN (backN t.val) = t.val) ∨
    (kindN t.val = 3 ∧ pairB t.val = true ∧ kindN (backN t.val) = 2 ∧ pairB (backN t.val) = true ∧ backN (backN t.val) = t.val) := by decide +kernel
/-- A fresh message of a type alone, stored. -/
theorem mT_cells (T : UInt8) : Value.cells (.agg #[.int .u8 (T.toNat : Int), .int .u8 0, .int .u8 0, .int .u8 0, .int .u8 0, .int .u8 0, .slice none 0 0]) = (ics (mT T) none 0 0).toArray := rfl
set_option maxRecDepth 100000 in
set_option maxHeartbeats 8000000 in
theorem itypes_yes (t : Int) (w : World) (ht : (Lit.int .u8 t).wf = true) :
    Calls Try.prog 5 #[.int .u8 t] w fun e w' => e = .returned (.bool true) ∧ Below w.heap.size w w' := by
  have hb8 := wfu8 t ht
  obtain ⟨k, rfl⟩ := Int.eq_ofNat_of_zero_le hb8.1
  have hk8 : k < 256 := by omega
  obtain ⟨T, hT⟩ : ∃ T : UInt8, T.toNat = k := ⟨UInt8.ofNat k, by simp; omega⟩
  have HC := ty_all ⟨k, hk8⟩
  dsimp only at HC
  subst hT
  have hBU := back_le T.toNat
  obtain ⟨U, hU⟩ : ∃ U : UInt8, U.toNat = backN T.toNat := ⟨UInt8.ofNat (backN T.toNat), by simp; omega⟩
  rw [← hU] at HC
  have B1 := Lib.hid (show ∀ u, Calls Try.prog 13 #[.agg (ics (mT T) none 0 0).toArray] u fun e w' => e = .returned (.tuple #[.int .u8 (U.toNat : Int), .bool (pairB T.toNat)]) ∧ Kept Nil u w' from fun u => by
    have := back_yes (mT T) none 0 0 u
    rw [show (mT T).t = T from rfl, ← hU] at this
    exact this)
  have K1 := Lib.hid (show ∀ u, Calls Try.prog 14 #[.agg (ics (mT T) none 0 0).toArray] u fun e w' => e = .returned (.int .i64 (kindN T.toNat : Int)) ∧ Kept Nil u w' from fun u => kind_yes (mT T) none 0 0 u)
  have B2 := Lib.hid (show ∀ u, Calls Try.prog 13 #[.agg (ics (mT U) none 0 0).toArray] u fun e w' => e = .returned (.tuple #[.int .u8 (backN U.toNat : Int), .bool (pairB U.toNat)]) ∧ Kept Nil u w' from fun u => back_yes (mT U) none 0 0 u)
  have K2 := Lib.hid (show ∀ u, Calls Try.prog 14 #[.agg (ics (mT U) none 0 0).toArray] u fun e w' => e = .returned (.int .i64 (kindN U.toNat : Int)) ∧ Kept Nil u w' from fun u => kind_yes (mT U) none 0 0 u)
  generalize hkt : kindN T.toNat = kt at *
  generalize hpt : pairB T.toNat = pt at *
  generalize hku : kindN U.toNat = ku at *
  generalize hpu : pairB U.toNat = pu at *
  generalize hbu : backN U.toNat = bu at *
  clear hU hBU hkt hpt hku hpu hbu ht hb8 hk8
  have HZ := Lib.hid (MB.new w 25 Ms.zero none 0 0)
  go_enter Try.func5, Try.ntmps5
  go_upto_region 2 with (first
    | (refine wpList_st rfl _ (.tmp 3) _ rfl w.heap.size 0 rfl (ics (mT T) none 0 0) _ rfl rfl (infMs _ _ _ _) 25 _ HZ.out (by rw [ics_len, ics_len]; omega) (ics_one _ _ _ _) ?_; intro w1 hb hks hz; simp only [Act.put])
    | fail)
  have hks2 := ((Kept.refl Nil w).alloc (.cells (ics Ms.zero none 0 0).toArray 25)).fresh hks (fun i hi => by cases hi; exact Nat.le_refl _)
  obtain ⟨g, hg⟩ : ∃ g, w.heap.size = g := ⟨_, rfl⟩
  have HM := Lib.hid (show MB w1 w.heap.size 25 (mT T) none 0 0 from hb)
  have HK := Lib.hid hks2
  rw [hg] at HM
  rw [hg] at *
  clear hb hks hz hks2 HZ
  go_wp2_with (first
    | (refine wpList_ld rfl _ _ rfl g 0 rfl (ics (mT T) none 0 0) HM.out.all _ Try.underlying25 rfl (infMs _ _ _ _) ?_; simp only [Act.put, List.setIfInBounds_toArray, List.set_cons_succ, List.set_cons_zero])
    | fail)
  refine (B1.out _).mono ?_
  rintro e w2 ⟨rfl, hk⟩
  have HM2 := Lib.hid (HM.out.kept hk (fun hf => hf))
  have HK2 := Lib.hid (HK.out.then hk)
  clear hk HM HK B1
  go_wp2_with (first
    | (refine wpList_ld rfl _ _ rfl g 0 rfl (ics (mT T) none 0 0) HM2.out.all _ Try.underlying25 rfl (infMs _ _ _ _) ?_; simp only [Act.put, List.setIfInBounds_toArray, List.set_cons_succ, List.set_cons_zero])
    | fail)
  refine (K1.out _).mono ?_
  rintro e w3 ⟨rfl, hk⟩
  have HK3 := Lib.hid (HK2.out.then hk)
  clear hk HM2 HK2 K1
  rcases HC with ⟨rfl, rfl, hU⟩ | ⟨rfl, rfl, hU⟩ | ⟨rfl, rfl, rfl, rfl, hbk⟩ | ⟨rfl, rfl, rfl, rfl, hbk⟩
  · rw [hU]
    clear B2 K2 hU
    go_wp2_with (fail)
    refine (itells_yes _).mono ?_
    rintro e w4 ⟨rfl, hk⟩
    have HK4 := Lib.hid (HK3.out.then hk)
    clear hk HK3
    go_wp2
    go_ret
    exact ⟨rfl, HK4.out.below (by omega) (fun _ hf => hf.elim)⟩
  · rw [hU]
    clear B2 K2 hU
    go_wp2_with (fail)
    refine (itells_yes _).mono ?_
    rintro e w4 ⟨rfl, hk⟩
    have HK4 := Lib.hid (HK3.out.then hk)
    clear hk HK3
    go_wp2
    go_ret
    exact ⟨rfl, HK4.out.below (by omega) (fun _ hf => hf.elim)⟩
  · subst hbk
    have HZ := Lib.hid (MB.new w3 25 Ms.zero none 0 0)
    go_upto_region 9 with (first
      | (refine wpList_st rfl _ (.tmp 7) _ rfl w3.heap.size 0 rfl (ics (mT U) none 0 0) _ rfl rfl (infMs _ _ _ _) 25 _ HZ.out (by rw [ics_len, ics_len]; omega) (ics_one _ _ _ _) ?_; intro w4 hb hks hz; simp only [Act.put])
      | fail)
    have hks2 := ((Kept.refl Nil w3).alloc (.cells (ics Ms.zero none 0 0).toArray 25)).fresh hks (fun i hi => by cases hi; exact Nat.le_refl _)
    obtain ⟨g4, hg4⟩ : ∃ g, w3.heap.size = g := ⟨_, rfl⟩
    have HM4 := Lib.hid (show MB w4 w3.heap.size 25 (mT U) none 0 0 from hb)
    have HK4 := Lib.hid (HK3.out.then hks2)
    rw [hg4] at HM4 ⊢
    clear hb hks hz hks2 HZ HK3 hg4
    go_wp2_with (first
      | (refine wpList_ld rfl _ _ rfl g4 0 rfl (ics (mT U) none 0 0) HM4.out.all _ Try.underlying25 rfl (infMs _ _ _ _) ?_; simp only [Act.put, List.setIfInBounds_toArray, List.set_cons_succ, List.set_cons_zero])
      | fail)
    refine (B2.out _).mono ?_
    rintro e w5 ⟨rfl, hk⟩
    have HM5 := Lib.hid (HM4.out.kept hk (fun hf => hf))
    have HK5 := Lib.hid (HK4.out.then hk)
    clear hk HM4 HK4 B2
    go_wp2_with (first
      | (refine wpList_ld rfl _ _ rfl g4 0 rfl (ics (mT U) none 0 0) HM5.out.all _ Try.underlying25 rfl (infMs _ _ _ _) ?_; simp only [Act.put, List.setIfInBounds_toArray, List.set_cons_succ, List.set_cons_zero])
      | fail)
    refine (K2.out _).mono ?_
    rintro e w6 ⟨rfl, hk⟩
    have HK6 := Lib.hid (HK5.out.then hk)
    clear hk HM5 HK5 K2
    go_wp2_with (fail)
    refine (itells_yes _).mono ?_
    rintro e w7 ⟨rfl, hk⟩
    have HK7 := Lib.hid (HK6.out.then hk)
    clear hk HK6
    go_wp2
    go_ret
    exact ⟨rfl, HK7.out.below (by omega) (fun _ hf => hf.elim)⟩
  · subst hbk
    have HZ := Lib.hid (MB.new w3 25 Ms.zero none 0 0)
    go_upto_region 9 with (first
      | (refine wpList_st rfl _ (.tmp 7) _ rfl w3.heap.size 0 rfl (ics (mT U) none 0 0) _ rfl rfl (infMs _ _ _ _) 25 _ HZ.out (by rw [ics_len, ics_len]; omega) (ics_one _ _ _ _) ?_; intro w4 hb hks hz; simp only [Act.put])
      | fail)
    have hks2 := ((Kept.refl Nil w3).alloc (.cells (ics Ms.zero none 0 0).toArray 25)).fresh hks (fun i hi => by cases hi; exact Nat.le_refl _)
    obtain ⟨g4, hg4⟩ : ∃ g, w3.heap.size = g := ⟨_, rfl⟩
    have HM4 := Lib.hid (show MB w4 w3.heap.size 25 (mT U) none 0 0 from hb)
    have HK4 := Lib.hid (HK3.out.then hks2)
    rw [hg4] at HM4 ⊢
    clear hb hks hz hks2 HZ HK3 hg4
    go_wp2_with (first
      | (refine wpList_ld rfl _ _ rfl g4 0 rfl (ics (mT U) none 0 0) HM4.out.all _ Try.underlying25 rfl (infMs _ _ _ _) ?_; simp only [Act.put, List.setIfInBounds_toArray, List.set_cons_succ, List.set_cons_zero])
      | fail)
    refine (B2.out _).mono ?_
    rintro e w5 ⟨rfl, hk⟩
    have HM5 := Lib.hid (HM4.out.kept hk (fun hf => hf))
    have HK5 := Lib.hid (HK4.out.then hk)
    clear hk HM4 HK4 B2
    go_wp2_with (first
      | (refine wpList_ld rfl _ _ rfl g4 0 rfl (ics (mT U) none 0 0) HM5.out.all _ Try.underlying25 rfl (infMs _ _ _ _) ?_; simp only [Act.put, List.setIfInBounds_toArray, List.set_cons_succ, List.set_cons_zero])
      | fail)
    refine (K2.out _).mono ?_
    rintro e w6 ⟨rfl, hk⟩
    have HK6 := Lib.hid (HK5.out.then hk)
    clear hk HM5 HK5 K2
    go_wp2_with (fail)
    refine (itells_yes _).mono ?_
    rintro e w7 ⟨rfl, hk⟩
    have HK7 := Lib.hid (HK6.out.then hk)
    clear hk HK6
    go_wp2
    go_ret
    exact ⟨rfl, HK7.out.below (by omega) (fun _ hf => hf.elim)⟩
end Go.Proofs.Ytkpelaojjfcpfaa
