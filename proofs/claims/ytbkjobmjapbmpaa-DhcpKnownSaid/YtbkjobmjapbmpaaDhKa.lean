/- tolllaw09: contract of DhcpKnown's closure (a byte of a plain head changed, and read). -/
import Derived.Test.YtbkjobmjapbmpaaDhY
import Derived.Test.YtbkjobmjapbmpaaUpto
namespace Go.Proofs.Ytbkjobmjapbmpaa
open Go.RowKit Go.Sort
set_option linter.unusedVariables false

theorem own_blk {w : World} {base e : Nat} {v : Value} {n : Nat} {l : List UInt8} (h : w.ownsRow base e 1 v n (bys l)) (hn : 0 < n) : ∃ g cap r, v = .slice (some ⟨g, 0, none⟩) n cap ∧ base ≤ g ∧ Blo w g e (bys l ++ r).toArray ∧ n ≤ cap ∧ cap ≤ 9223372036854775807 := by
  rcases h.2 with ⟨e, h0⟩ | ⟨g, cap, cur, e, hb, hg, hnc, hcap, hsz, htk⟩
  · omega
  · refine ⟨g, cap, cur.toList.drop n, e, hb, ?_, hnc, by simpa [maxLen] using hcap⟩
    rw [Nat.mul_one] at htk
    rw [← htk, List.take_append_drop]
    exact hg
theorem blk_byt {w : World} {g : Nat} {T : TypeId} {l : List UInt8} {r : List Value} (h : Blo w g T (bys l ++ r).toArray) (n c : Nat) (hn : l.length = n) (hc : n ≤ c) (hcc : c ≤ 9223372036854775807) : Byt w (some ⟨g, 0, none⟩) n c l := by
  subst hn
  refine ⟨rfl, hc, hcc, fun _ => ⟨g, 0, rfl, fun i hi => ?_⟩⟩
  rw [h.cell]
  simp [bys, List.getElem?_append_left, hi]
theorem blk_put {w : World} {g : Nat} {T : TypeId} {l : List UInt8} {r : List Value} {i : Nat} {b : UInt8} (hi : i < l.length) (h : Blo w g T ((bys l ++ r).take i ++ [Value.int .u8 (b.toNat : Int)] ++ (bys l ++ r).drop (i + [Value.int .u8 (b.toNat : Int)].length)).toArray) : Blo w g T (bys (l.set i b) ++ r).toArray := by
  rw [set_split _ _ _ (by simp [bys_len]; omega), List.set_append_left _ _ (by rw [bys_len]; exact hi), bys_put] at h
  exact h
theorem infK8 : (Try.prog.info? 5).map (·.size) = some 1 := by kernel_rfl
set_option maxRecDepth 100000 in
set_option maxHeartbeats 4000000 in
theorem kn1_yes (i : Nat) (hi : i < 241) (b : UInt8) (w : World) : Calls Try.prog 37 #[.int .i64 (i : Int), .int .u8 (b.toNat : Int)] w fun e w' => e = .returned (.int .i64 (getD ((plainB [255]).set i b)).2) ∧ Kept Nil w w' := by
  have HK0 := Lib.hid (Kept.refl Nil w)
  go_enter Try.func37, Try.ntmps37
  go_wp2_with (fail)
  refine (plain_yes _ 1 1 [255] _ (byt_lit w [255] 5 #[.int .u8 255] rfl 1 rfl _ rfl (by decide)) (by decide)).mono ?_
  rintro e w1 ⟨v1, rfl, hm⟩
  have hl : (plainB [255]).length = 241 := by rw [plainB_len]; rfl
  have hown : w1.ownsRow (w.alloc (.cells #[.int .u8 255] 5)).heap.size 5 1 v1 241 (bys (plainB [255])) := by rw [← hl]; exact hm.1
  obtain ⟨g, cap, r, rfl, hlo, hblo, hc1, hc2⟩ := own_blk hown (by decide)
  have HK1 := Lib.hid ((HK0.out.alloc (.cells #[.int .u8 255] 5)).then hm.2)
  have HLO := Lib.hid (show w.heap.size ≤ g from by simp at hlo; omega)
  have HB := Lib.hid hblo
  have HL := Lib.hid hl
  generalize hP : plainB [255] = P at *
  have HP := Lib.hid hP
  clear hP hm hown hblo hlo hl HK0
  go_upto_region 3 with (first
    | (refine wpList_st rfl _ _ _ rfl g i rfl [.int .u8 (b.toNat : Int)] _ rfl rfl infK8 5 _ HB.out (by rw [List.length_append, bys_len, HL.out]; show i + 1 ≤ 241 + _; omega) (by intro u hu; simp at hu; subst hu; rfl) ?_; intro w2 hb2 hk2 hz2; clear hz2; simp only [Act.put, List.setIfInBounds_toArray, List.set_cons_succ, List.set_cons_zero])
    | fail)
  have HY := Lib.hid (blk_byt (blk_put (by rw [HL.out]; exact hi) hb2) 241 cap (by rw [List.length_set]; exact HL.out) hc1 hc2)
  have HK2 := Lib.hid (HK1.out.fresh hk2 (fun j hj => by cases hj; exact HLO.out))
  clear hb2 hk2 HB HK1
  go_wp2_with (fail)
  refine (dget_yes _ 241 cap (P.set i b) _ HY.out (by decide)).mono ?_
  rintro e w3 ⟨vo, vb, rfl, hin, hk⟩
  have HI := Lib.hid hin
  have HK3 := Lib.hid (HK2.out.then hk)
  clear hin hk HY HK2
  generalize hR : getD (P.set i b) = R at *
  have HR := Lib.hid hR
  clear hR
  obtain ⟨R1, R2⟩ := R
  dsimp only at HI ⊢
  go_wp2_with (first
    | (refine wpList_al rfl 73 rfl (dcs Dh.zero nilv nilv) al_dh ?_; intro wx hbx hkx hzx; clear hzx)
    | (refine wpList_st rfl _ (.tmp 6) (.tmp 17) rfl w3.heap.size 0 rfl (dcs R1 vo vb) _ rfl rfl (infDh _ HI.out.ok.s6 _ _) 73 (dcs Dh.zero nilv nilv) hbx (by rw [dcs_len HI.out.ok.s6, dcs_len Dh.zero_ok.s6]; decide) HI.out.one ?_; intro wc hby hky hzy; clear hzy; simp only [Act.put])
    | fail)
  have HKF := Lib.hid (HK3.out.then (hkx.fresh hky (fun j hj => by cases hj; exact Nat.le_refl _)))
  clear hbx hkx hby hky HK3 HI
  go_wp2
  go_ret
  exact ⟨by rw [HP.out, HR.out]; rfl, HKF.out⟩
end Go.Proofs.Ytbkjobmjapbmpaa
