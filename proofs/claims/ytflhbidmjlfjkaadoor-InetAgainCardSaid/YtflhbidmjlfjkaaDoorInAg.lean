/- tolllaw06.InetAgain: the walk. -/
import Derived.Test.YtflhbidmjlfjkaaDoorInDf
import Derived.Test.YtflhbidmjlfjkaaDoorInO
import Derived.Test.YtflhbidmjlfjkaaDoorInQ
namespace Go.Proofs.YtflhbidmjlfjkaaDoor
open Go.RowKit Go.Sort
set_option linter.unusedVariables false

set_option maxRecDepth 100000 in
set_option maxHeartbeats 8000000 in
theorem again_yes (A : Option Addr) (n c : Nat) (bl : List UInt8) (w : World) (h : Byt w A n c bl) (hG : Gl w) :
    Calls Tryd.prog 7 #[.slice A n c] w fun e w' => e = .returned (.bool true) ∧ Below w.heap.size w w' := by
  have hnc := h.2.1
  have hcc := h.2.2.1
  obtain ⟨m, hm, hm1, hm2⟩ : ∃ m : Nat, (if (400 : Int) < (n : Int) then (400 : Int) else (n : Int)) = (m : Int) ∧ m ≤ n ∧ m ≤ 400 := ⟨min n 400, by split <;> omega, by omega, by omega⟩
  have hmn : min (n : Int) 400 = (m : Int) := by rw [← hm]; split <;> omega
  have hsl := run_cut_hi (P := Tryd.prog) Tryd.underlying25 inf5.1 A n c m (m : Int) rfl (by omega)
  have HBY := Lib.hid (h.pre hm1)
  have HM := Lib.hid (And.intro hm2 (show m ≤ c by omega))
  generalize bl.take m = l at *
  have hrc := read_cases l true
  have hpr := put_read l
  have cG := fun w hb => iget_yes A m c l w hb (by omega)
  generalize readHM l true = R at *
  obtain ⟨F, X, E⟩ := R
  simp only at hrc cG hpr
  have HRC := Lib.hid hrc
  have HPR := Lib.hid hpr
  have CG := Lib.hid cG
  clear h hm1 hm2 hnc hrc hpr cG
  have HGG := Lib.hid hG
  go_enter Tryd.func7, Tryd.ntmps7
  go_wp2_with (fail)
  refine (CG.out _ HBY.out).mono ?_
  rintro e w1 ⟨A1, n1, c1, A2, n2, c2, rfl, hn1, hn2, hk⟩
  dsimp only
  have HN1 := Lib.hid hn1.1
  have HN2 := Lib.hid hn2.1
  have HK1 := Lib.hid hk
  have HB1 := Lib.hid (HBY.out.kept hk (fun _ _ hf => hf))
  have HZ1 := Lib.hid (HB.new w1 27 Hd.zero none 0 0)
  clear hn1 hn2 hk HBY CG
  go_upto_region 3 with (first
    | (refine wpList_st rfl _ (.tmp 3) _ rfl w1.heap.size 0 rfl (hcs F A1 n1 c1) _ rfl rfl (infI _ _ _ _) 27 _ HZ1.out (by rw [hcs_len, hcs_len]; omega) (hcs_one _ _ _ _) ?_; intro w2 hb2 hk2 hz2; simp only [Act.put])
    | fail)
  have hk12 := ((Kept.refl Nil w1).alloc (.cells (hcs Hd.zero none 0 0).toArray 27)).fresh hk2 (fun i hi => by cases hi; exact Nat.le_refl _)
  have HF2 := Lib.hid (show HB w2 w1.heap.size 27 F A1 n1 c1 from HB.of_all hb2)
  have HN12 := Lib.hid (HN1.out.kept hk12 (fun _ _ hf => hf))
  have HN22 := Lib.hid (HN2.out.kept hk12 (fun _ _ hf => hf))
  have HB2 := Lib.hid (HB1.out.kept hk12 (fun _ _ hf => hf))
  have HK2 := Lib.hid (HK1.out.then hk12)
  clear hb2 hk2 hz2 hk12 HN1 HN2 HB1 HK1 HZ1
  by_cases hE : E = 0
  · subst hE
    obtain ⟨cb, hput, hlen, hle, h20, ht, hd, hs⟩ := HPR.out F X rfl
    obtain ⟨hok, hx60, hbl⟩ : F.ok ∧ F.x.length ≤ 60 ∧ X.length ≤ l.length := by
      rcases HRC.out with ⟨h1, _⟩ | ⟨_, h2⟩
      · exact absurd rfl h1
      · exact h2
    have hlm := HB2.out.1
    have hx1 : F.x.length = n1 := HN12.out.1
    have hx2 : X.length = n2 := HN22.out.1
    have hmm := HM.out
    have hdf : ∀ u B d, Byt u B cb.length d cb → Byt u A m c l → Calls Tryd.prog 32 #[.slice B cb.length d, .slice A cb.length c] u fun e w' => e = .returned (.bool true) ∧ Kept Nil u w' := by
      intro u B d h1 h2
      refine differ_yes B cb.length d A c cb (l.take cb.length) u h1 (h2.pre (by omega)) (by omega) (by omega) ?_ ?_ ?_
      · rw [ht, List.take_take, Nat.min_eq_left (by omega)]
      · rw [hd, hlen]
      · rw [List.drop_take, List.take_take, Nat.min_eq_left (by omega)]
        exact hs
    have HDF := Lib.hid hdf
    have hsl2 := run_cut_hi (P := Tryd.prog) Tryd.underlying25 inf5.1 A m c cb.length (cb.length : Int) rfl (by omega)
    have hle' : (cb.length : Int) ≤ (m : Int) := by omega
    have cP := iput_yes F hok A1 n1 c1 A2 n2 c2 X w2 HN12.out HN22.out (by omega) (by omega)
    rw [hput] at cP
    have CP := Lib.hid cP
    clear cP hdf ht hd hs hput hlen hle h20 hok hx60 hbl hx1 hx2 HRC HPR
    obtain ⟨L, hL⟩ : ∃ L, cb.length = L := ⟨_, rfl⟩
    rw [hL] at HDF hsl2 hle'
    go_wp2_with (first
      | (refine wpList_ld rfl _ _ rfl w1.heap.size 0 rfl (hcs F A1 n1 c1) HF2.out.all _ Tryd.underlying27 rfl (infI _ _ _ _) ?_; simp only [Act.put, List.setIfInBounds_toArray, List.set_cons_succ, List.set_cons_zero])
      | fail)
    refine CP.out.mono ?_
    rintro e w3 ⟨v, rfl, hmd⟩
    dsimp only
    obtain ⟨A3, c3, rfl, hy, -⟩ := byt_own hmd
    rw [hL] at hy ⊢
    have HY3 := Lib.hid hy
    have HB3 := Lib.hid (HB2.out.kept hmd.2 (fun _ _ hf => hf))
    have HK3 := Lib.hid (HK2.out.then hmd.2)
    clear hy hmd HB2 HK2 CP HN12 HN22 HF2
    go_wp2_with (fail)
    refine (HDF.out _ _ _ HY3.out HB3.out).mono ?_
    rintro e w4 ⟨rfl, hk4⟩
    dsimp only
    have HK4 := Lib.hid (HK3.out.then hk4)
    clear hk4
    go_wp2_with (fail)
    refine (tells_yes _ (HGG.out.kept HK4.out)).mono ?_
    rintro e w5 ⟨rfl, hk5⟩
    dsimp only
    have HK5 := Lib.hid (HK4.out.then hk5)
    clear hk5
    go_wp2
    go_ret
    exact ⟨rfl, HK5.out.below (Nat.le_refl _) (fun _ hf => hf.elim)⟩
  · obtain ⟨rfl, rfl⟩ : F = Hd.zero ∧ X = [] := by
      rcases HRC.out with ⟨_, h1, h2⟩ | ⟨h1, _⟩
      · exact ⟨h1, h2⟩
      · exact absurd h1 hE
    have hE' : (E != 0) = true := by simp [hE]
    have hn2 : n2 = 0 := HN22.out.1.symm
    subst hn2
    clear hE HRC HPR
    go_wp2_with (first
      | (refine wpList_ld rfl _ _ rfl w1.heap.size 0 rfl (hcs Hd.zero A1 n1 c1) HF2.out.all _ Tryd.underlying27 rfl (infI _ _ _ _) ?_; simp only [Act.put, List.setIfInBounds_toArray, List.set_cons_succ, List.set_cons_zero])
      | fail)
    refine (of_yes Hd.zero A1 n1 c1 _).mono ?_
    rintro e w3 ⟨rfl, hk3⟩
    dsimp only
    have HN13 := Lib.hid (HN12.out.kept hk3 (fun _ _ hf => hf))
    have HK3 := Lib.hid (HK2.out.then hk3)
    clear hk3 HN12 HK2 HF2 HN22
    go_wp2_with (fail)
    refine (of_yes Hd.zero none 0 0 _).mono ?_
    rintro e w4 ⟨rfl, hk4⟩
    dsimp only
    have HN14 := Lib.hid (HN13.out.kept hk4 (fun _ _ hf => hf))
    have HK4 := Lib.hid (HK3.out.then hk4)
    clear hk4 HN13 HK3
    go_wp2_with (fail)
    refine (same_yes Hd.zero A1 n1 c1 none 0 0 _ HN14.out (Byt.none _)).mono ?_
    rintro e w5 ⟨rfl, hk5⟩
    dsimp only
    have HK5 := Lib.hid (HK4.out.then hk5)
    clear hk5
    go_wp2_with (fail)
    refine (tells_yes _ (HGG.out.kept HK5.out)).mono ?_
    rintro e w6 ⟨rfl, hk6⟩
    dsimp only
    have HK6 := Lib.hid (HK5.out.then hk6)
    clear hk6
    go_wp2
    go_ret
    exact ⟨rfl, HK6.out.below (Nat.le_refl _) (fun _ hf => hf.elim)⟩
end Go.Proofs.YtflhbidmjlfjkaaDoor
