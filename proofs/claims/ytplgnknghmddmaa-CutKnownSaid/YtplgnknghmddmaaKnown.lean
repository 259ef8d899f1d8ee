/- tolllaw01.CutKnown: the walk. -/
import Derived.Test.YtplgnknghmddmaaNone
import Derived.Test.YtplgnknghmddmaaStays
namespace Go.Proofs.Ytplgnknghmddmaa
open Go.RowKit

theorem known_row (w : World) (s : Nat) (l : List UInt8) (h : l.length ≤ 1000) (t : TypeId) (hs : s = w.heap.size) : Rowz ((w.alloc (.cells (bys l).toArray t)).alloc (.cells #[.slice (some ⟨s, 0, none⟩) l.length l.length] 22)) (some ⟨s + 1, 0, none⟩) 1 1 [l] := by
  subst hs
  refine ⟨rfl, Nat.le_refl _, by omega, fun _ => ⟨w.heap.size + 1, 0, rfl, fun i hi => ?_⟩⟩
  have : i = 0 := by simp at hi; omega
  subst this
  refine ⟨_, l.length, l.length, ?_, (Byt.lit w l t (by omega)).kept ((Kept.refl Nil _).alloc _) (fun _ _ hf => hf)⟩
  have := (Blo.new (w.alloc (.cells (bys l).toArray t)) 22 #[.slice (some ⟨w.heap.size, 0, none⟩) l.length l.length]).cell 0
  rw [World.size_alloc] at this
  exact this

set_option maxRecDepth 100000 in
set_option maxHeartbeats 1000000 in
theorem known_walk (w : World) : Calls Try.prog 8 #[] w fun e w' => e = .returned (.bool true) ∧ Below w.heap.size w w' := by
  have nn : ∀ w, NoC w (.pointer none) := fun _ => .inl rfl
  have HN := Lib.hid nn
  obtain ⟨W, hW⟩ : ∃ W, W = (w.alloc (.cells #[.bool false, .slice none 0 0, .int .i64 0, .int .i64 0] 71)).alloc (.cells #[.bool false, .slice none 0 0] 73) := ⟨_, rfl⟩
  have hK : Kept Nil w W := by rw [hW]; exact ((Kept.refl _ _).alloc _).alloc _
  have hZ : NoC W (.pointer (some ⟨w.heap.size, 0, none⟩)) := by rw [hW]; exact .inr ⟨_, rfl, ((Blo.new w 71 _).alloc _).cell 0⟩
  have hE : NoC W (.pointer (some ⟨w.heap.size + 1, 0, none⟩)) := by
    rw [hW]
    refine .inr ⟨_, rfl, ?_⟩
    have := (Blo.new (w.alloc (.cells #[.bool false, .slice none 0 0, .int .i64 0, .int .i64 0] 71)) 73 #[.bool false, .slice none 0 0]).cell 0
    rw [World.size_alloc] at this
    exact this
  have HW := Lib.hid hW
  have K0 := Lib.hid hK
  have HZ := Lib.hid hZ
  have HE := Lib.hid hE
  clear nn hW hK hZ hE
  go_enter Try.func8, Try.ntmps8
  go_wp2_with fail
  rw [← HW.out]
  refine (fail_no _ _ _ (HN.out _)).mono ?_
  rintro e w' ⟨rfl, rfl⟩
  go_wp2_with fail
  refine (Skip_no _ _ _ HZ.out).mono ?_
  rintro e w' ⟨rfl, rfl⟩
  go_wp2_with fail
  refine (err_no _ _ (HN.out _)).mono ?_
  rintro e w' ⟨rfl, rfl⟩
  go_wp2_with fail
  refine (err_no _ _ HZ.out).mono ?_
  rintro e w' ⟨rfl, rfl⟩
  go_wp2_with fail
  refine (Byte_no _ _ (HN.out _)).mono ?_
  rintro e w' ⟨rfl, rfl⟩
  go_wp2_with fail
  refine (Two_no _ _ HZ.out).mono ?_
  rintro e w' ⟨rfl, rfl⟩
  go_wp2_with fail
  refine (left_no _ _ (HN.out _)).mono ?_
  rintro e w' ⟨rfl, rfl⟩
  go_wp2_with fail
  refine (at_no _ _ HZ.out).mono ?_
  rintro e w' ⟨rfl, rfl⟩
  go_wp2_with fail
  refine (Rest_no _ _ (HN.out _)).mono ?_
  rintro e w1 ⟨A1, c1, rfl, hk1⟩
  have K1 := Lib.hid (K0.out.then hk1)
  have HE1 := Lib.hid (HE.out.kept hk1 (fun _ _ hf => hf))
  clear hk1
  go_wp2_with fail
  refine (Len_no _ _ (HN.out _)).mono ?_
  rintro e w' ⟨rfl, rfl⟩
  go_wp2_with fail
  refine (Done_no _ _ HE1.out).mono ?_
  rintro e w' ⟨rfl, rfl⟩
  go_wp2_with fail
  refine (Fill_no _ _ _ _ (HN.out _)).mono ?_
  rintro e w' ⟨rfl, rfl⟩
  have HE2 := Lib.hid (HE1.out.kept ((Kept.refl Nil w1).alloc (.cells #[.int .u8 1] 5)) (fun _ _ hf => hf))
  have K2 := Lib.hid (K1.out.alloc (.cells #[.int .u8 1] 5))
  go_wp2_with fail
  refine (PByte_no _ _ _ HE2.out).mono ?_
  rintro e w' ⟨rfl, rfl⟩
  go_wp2_with fail
  refine (Len_no _ _ HE2.out).mono ?_
  rintro e w' ⟨rfl, rfl⟩
  go_wp2_with fail
  refine (PTwo_no _ _ _ (HN.out _)).mono ?_
  rintro e w' ⟨rfl, rfl⟩
  go_wp2_with fail
  refine (Done_no _ _ (HN.out _)).mono ?_
  rintro e w' ⟨rfl, rfl⟩
  have K3 := Lib.hid (K2.out.alloc (.cells #[.int .u16 7] 35))
  go_wp2_with fail
  refine (new_yes none 0 0 [] _ (Byt.none _) (by omega)).mono ?_
  rintro e w4 ⟨gx, Ax, cx, rfl, hx, hk4, hgx, hlx⟩
  have K4 := Lib.hid (K3.out.then hk4)
  have HGX : Hid (w.heap.size ≤ gx) := Nat.le_trans K3.out.size hgx
  have HX := Lib.hid hx
  clear hk4 hgx hlx hx
  have hb5 := Byt.lit w4 [9] 5 (by decide)
  go_wp2_with fail
  refine (new_yes _ 1 1 [9] _ (by exact hb5) (by omega)).mono ?_
  rintro e w5 ⟨gy, Ay, cy, rfl, hy, hk5, hgy, hly⟩
  have K5 := Lib.hid ((K4.out.alloc (.cells (bys [9]).toArray 5)).then hk5)
  have hxy : gx < w4.heap.size := HX.out.blo.lt
  have hgy4 : w4.heap.size < gy := by simp at hgy; omega
  have HX5 := Lib.hid (HX.out.kept (((Kept.refl Nil w4).alloc _).then hk5) (fun hf => hf) (fun _ _ hf => hf))
  have HLY : Hid (∀ i, Lies Ay 1 i → gx < i) := fun i hi => by have := hly i hi; simp at this; omega
  clear hb5 hk5 hly hgy
  go_wp2_with fail
  refine (Take_yes gy Ay 1 cy _ (-1) _ hy (by omega) (by omega)).mono ?_
  rintro e w6 ⟨v6, rfl, ho6, hy6, hk6⟩
  rw [show (takeM ⟨[9], 0, 0⟩ (-1)).2 = ⟨[9], 0, 1⟩ from rfl] at hy6
  have HX6 := Lib.hid (HX5.out.kept hk6 (fun hf => by cases hf; omega) (fun _ hi _ => absurd hi.1 (by omega)))
  have HY6 := Lib.hid hy6
  have K6 := Lib.hid (K5.out.fresh hk6 (fun i hi => by cases hi; have := HGX.out; omega))
  have hy6l : gy < w6.heap.size := hy6.blo.lt
  clear ho6 hy6 hk6 hy
  go_wp2_with fail
  refine (Lay_yes _).mono ?_
  rintro e w7 ⟨rfl, hp7, hk7⟩
  obtain ⟨s6, hs6⟩ : ∃ s6, s6 = w6.heap.size := ⟨_, rfl⟩
  rw [← hs6] at hp7 hy6l ⊢
  have HX7 := Lib.hid (HX6.out.kept hk7 (fun hf => hf) (fun _ _ hf => hf))
  have HY7 := Lib.hid (HY6.out.kept hk7 (fun hf => hf) (fun _ _ hf => hf))
  have K7 := Lib.hid (K6.out.then hk7)
  have hsz7 : s6 ≤ w7.heap.size := by rw [hs6]; exact hk7.size
  have Hs6 : Hid (w.heap.size ≤ s6) := by have := K6.out.size; unfold Hid; omega
  have hylt : ∀ i, Lies Ay 1 i → i < s6 := fun i hi => by rw [hs6]; exact HY6.out.byt.lt i hi
  have HYL := Lib.hid hylt
  have hgxs : gx < s6 := by have := hy6l; omega
  clear hk7 hs6 hylt
  go_wp2_with fail
  refine (PTwo_lit s6 s6 _ [] [0, 1] w7 _ hp7 hsz7 (by decide) (by decide)).mono ?_
  rintro e w8 ⟨v8, rfl, hp8, hk8, hn8⟩
  rw [show ([] ++ beAll 2 [0, 1] : List UInt8) = [0, 0, 0, 1] from by decide] at hp8
  have hf7 := hp7.foot_ge
  have HX8 := Lib.hid (HX7.out.kept hk8 (fun hf => by have := hf7 _ hf; omega) (fun _ hi _ => absurd hi.1 (by omega)))
  have HY8 := Lib.hid (HY7.out.kept hk8 (fun hf => by have := hf7 _ hf; omega) (fun i hi hf => by have := hf7 _ hf; have := HYL.out i hi; omega))
  have K8 := Lib.hid (K7.out.fresh hk8 (fun i hi => by have := hf7 _ hi; have := Hs6.out; omega))
  have hsz8 : s6 ≤ w8.heap.size := Nat.le_trans hsz7 hk8.size
  clear hp7 hk8 hn8 hf7
  go_wp2_with fail
  refine (PFour_lit s6 s6 _ _ [2] w8 _ hp8 hsz8 (by decide) (by decide)).mono ?_
  rintro e w9 ⟨v9, rfl, hp9, hk9, hn9⟩
  rw [show ([0, 0, 0, 1] ++ beAll 4 [2] : List UInt8) = [0, 0, 0, 1, 0, 0, 0, 2] from by decide] at hp9
  have hf8 := hp8.foot_ge
  have HX9 := Lib.hid (HX8.out.kept hk9 (fun hf => by have := hf8 _ hf; omega) (fun _ hi _ => absurd hi.1 (by omega)))
  have HY9 := Lib.hid (HY8.out.kept hk9 (fun hf => by have := hf8 _ hf; omega) (fun i hi hf => by have := hf8 _ hf; have := HYL.out i hi; omega))
  have K9 := Lib.hid (K8.out.fresh hk9 (fun i hi => by have := hf8 _ hi; have := Hs6.out; omega))
  have hsz9 : s6 ≤ w9.heap.size := Nat.le_trans hsz8 hk9.size
  clear hp8 hk9 hn9 hf8
  go_wp2_with fail
  refine (PMac_lit s6 s6 _ _ [3, 0, 0, 0, 0, 0] rfl w9 _ hp9 hsz9 (by decide)).mono ?_
  rintro e w10 ⟨v10, rfl, hp10, hk10, hn10⟩
  rw [show ([0, 0, 0, 1, 0, 0, 0, 2] ++ [3, 0, 0, 0, 0, 0] : List UInt8) = [0, 0, 0, 1, 0, 0, 0, 2, 3, 0, 0, 0, 0, 0] from by decide] at hp10
  have hf9 := hp9.foot_ge
  have hx10 := (HX9.out.kept hk10 (fun hf => by have := hf9 _ hf; omega) (fun _ hi _ => absurd hi.1 (by omega)))
  have HY10 := Lib.hid (HY9.out.kept hk10 (fun hf => by have := hf9 _ hf; omega) (fun i hi hf => by have := hf9 _ hf; have := HYL.out i hi; omega))
  have K10 := Lib.hid (K9.out.fresh hk10 (fun i hi => by have := hf9 _ hi; have := Hs6.out; omega))
  have HP10 := Lib.hid hp10
  clear hp9 hk10 hn10 hf9 hp10
  go_wp2_with fail
  refine (left_yes gx Ax 0 cx _ _ hx10).mono ?_
  rintro e w' ⟨rfl, q, rfl⟩
  rw [show leftM ⟨[], 0, 0⟩ = 0 from rfl]
  go_wp2_with fail
  refine (Take_yes gx Ax 0 cx _ 0 _ (hx10.drewN q) (by omega) (by omega)).mono ?_
  rintro e w11 ⟨v11, rfl, ho11, hx11, hk11⟩
  rw [show (takeM ⟨[], 0, 0⟩ 0).2 = ⟨[], 0, 0⟩ from rfl] at hx11
  rw [show (takeM ⟨[], 0, 0⟩ 0).1 = [] from rfl] at ho11
  obtain ⟨A11, c11, rfl⟩ := own_nil ho11
  have hkk : Kept (One gx) w10 w11 := ((Kept.refl (One gx) w10).drewN q).same hk11
  have hy11 := (HY10.out.kept hkk (fun hf => by cases hf; omega) (fun i hi hf => by cases hf; have := HLY.out _ hi; omega))
  have hp11 := HP10.out.kept hkk (fun i hi hf => by cases hf; have := HP10.out.foot_ge _ hi; omega)
  have K11 := Lib.hid (K10.out.fresh hkk (fun i hi => by cases hi; exact HGX.out))
  clear ho11 hk11 hkk hx10
  go_wp2_with fail
  refine (err_yes gx 0 _ hx11.c0 hx11.c3).mono ?_
  rintro e w' ⟨rfl, rfl⟩
  go_wp2_with fail
  refine (err_yes gy 1 _ hy11.c0 hy11.c3).mono ?_
  rintro e w' ⟨rfl, rfl⟩
  go_wp2_with fail
  refine (Len_yes s6 s6 v10 _ _ hp11 (by decide)).mono ?_
  rintro e w' ⟨rfl, rfl⟩
  rw [show ((([0, 0, 0, 1, 0, 0, 0, 2, 3, 0, 0, 0, 0, 0] : List UInt8)).length : Int) = 14 from rfl]
  go_wp2_with fail
  refine (Fill_ok s6 s6 v10 _ 12 43981 _ hp11 (by decide) (by decide) (by decide)).mono ?_
  rintro e w12 ⟨rfl, hp12, hk12⟩
  rw [show ((([0, 0, 0, 1, 0, 0, 0, 2, 3, 0, 0, 0, 0, 0] : List UInt8).set 12 (UInt8.ofNat (43981 / 256))).set (12 + 1) (UInt8.ofNat 43981)) = [0, 0, 0, 1, 0, 0, 0, 2, 3, 0, 0, 0, 171, 205] from by decide] at hp12
  have K12 := Lib.hid (K11.out.fresh hk12 (fun i hi => by have := hp11.foot_ge _ hi; have := Hs6.out; omega))
  clear hp11 hk12 hx11 hy11
  go_wp2_with fail
  refine (Fill_bad s6 s6 v10 _ 13 1 _ hp12 (by decide) (.inr (by decide))).mono ?_
  rintro e w' ⟨rfl, rfl⟩
  go_wp2_with fail
  refine (Done_yes s6 s6 v10 _ _ hp12 (by decide)).mono ?_
  rintro e w13 ⟨v13, rfl, hm13⟩
  obtain ⟨A13, c13, rfl, hb13, _⟩ := Byt.of_own hm13.1
  have K13 := Lib.hid (K12.out.then hm13.2)
  have hb13' := hb13.kept ((Kept.refl Nil w13).alloc (.cells (bys [0, 0, 0, 1, 0, 0, 0, 2, 3, 0, 0, 0, 171, 205]).toArray 5)) (fun _ _ hf => hf)
  have hlit := Byt.lit w13 [0, 0, 0, 1, 0, 0, 0, 2, 3, 0, 0, 0, 171, 205] 5 (by decide)
  have HB13 := Lib.hid hb13'
  have HLit := Lib.hid hlit
  clear hm13 hb13 hb13' hlit hp12
  go_wp2_with fail
  refine (equal A13 _ _ c13 14 14 _ _ _ (by exact HB13.out) (by exact HLit.out)).mono ?_
  rintro e w' ⟨rfl, rfl⟩
  rw [show (([0, 0, 0, 1, 0, 0, 0, 2, 3, 0, 0, 0, 171, 205] : List UInt8) == [0, 0, 0, 1, 0, 0, 0, 2, 3, 0, 0, 0, 171, 205]) = true from by decide]
  clear HB13 HLit
  go_wp2_with fail
  refine (Sum_yes none 0 0 [] _ (by exact ⟨rfl, Nat.le_refl _, by omega, fun h => absurd h (by omega)⟩) (by decide)).mono ?_
  rintro e w' ⟨rfl, rfl⟩
  rw [show (sumM ([] : List (List UInt8)).flatten : Int) = 65535 from by decide]
  go_wp2_with fail
  refine (Sum_yes _ 1 1 [[255, 255]] _ (by exact known_row _ _ [255, 255] (by decide) 5 (by simp)) (by decide)).mono ?_
  rintro e w' ⟨rfl, rfl⟩
  rw [show (sumM ([[255, 255]] : List (List UInt8)).flatten : Int) = 0 from by decide]
  go_wp2_with fail
  refine (Sum_yes _ 1 1 [[1]] _ (by exact known_row _ _ [1] (by decide) 5 (by simp)) (by decide)).mono ?_
  rintro e w' ⟨rfl, rfl⟩
  rw [show (sumM ([[1]] : List (List UInt8)).flatten : Int) = 65279 from by decide]
  go_wp2_with fail
  refine (wakes_yes _).mono ?_
  rintro e w20 ⟨rfl, hk20⟩
  go_wp2
  go_ret
  exact ⟨rfl, ((((((K13.out.alloc _).alloc _).alloc _).alloc _).alloc _).then hk20).below (Nat.le_refl _) (fun k hf => hf.elim)⟩
end Go.Proofs.Ytplgnknghmddmaa
