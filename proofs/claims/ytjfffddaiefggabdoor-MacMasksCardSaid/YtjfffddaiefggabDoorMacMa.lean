/- tolllaw02.MacMasks: the walk. -/
import Derived.Test.YtjfffddaiefggabDoorMaskM
import Derived.Test.YtjfffddaiefggabDoorMacT
import Derived.Test.YtjfffddaiefggabDoorRegO
import Derived.Test.YtjfffddaiefggabDoorFrame
import Derived.Deep.DeepCutAuto
import Derived.Deep.DrawnRows
import Derived.Deep.RegionHeld3
namespace Go.Proofs.YtjfffddaiefggabDoor
open Go.RowKit Go.Sort Go.BigFrame
set_option linter.unusedVariables false
attribute [local go_sem ↓] Go.wp_at_zero Go.wp_at_succ

set_option maxRecDepth 100000 in
set_option maxHeartbeats 8000000 in
theorem masks_all (a0 a1 a2 a3 a4 a5 b0 b1 b2 b3 b4 b5 c0 c1 c2 c3 c4 c5 : UInt8) (x : Int) (hx0 : 0 ≤ x) (hx1 : x ≤ 255) (w : World) :
    Calls Tryd.prog 6 #[.agg #[.int .u8 (a0.toNat : Int), .int .u8 (a1.toNat : Int), .int .u8 (a2.toNat : Int), .int .u8 (a3.toNat : Int), .int .u8 (a4.toNat : Int), .int .u8 (a5.toNat : Int)], .agg #[.int .u8 (b0.toNat : Int), .int .u8 (b1.toNat : Int), .int .u8 (b2.toNat : Int), .int .u8 (b3.toNat : Int), .int .u8 (b4.toNat : Int), .int .u8 (b5.toNat : Int)], .agg #[.int .u8 (c0.toNat : Int), .int .u8 (c1.toNat : Int), .int .u8 (c2.toNat : Int), .int .u8 (c3.toNat : Int), .int .u8 (c4.toNat : Int), .int .u8 (c5.toNat : Int)], .int .u8 x] w fun r w' => r = .returned (.bool true) ∧ Below w.heap.size w w' := by
  obtain ⟨k, hk, hk48⟩ : ∃ k : Nat, x % 49 = (k : Int) ∧ k ≤ 48 := ⟨(x % 49).toNat, by omega, by omega⟩
  obtain ⟨m0, m1, m2, m3, m4, m5, hm⟩ := six (maskL k) rfl
  obtain ⟨n0, n1, n2, n3, n4, n5, hn⟩ := six (maskL (min (k + 1) 48)) rfl
  have hclose := closer a0 a1 a2 a3 a4 a5 b0 b1 b2 b3 b4 b5 k hk48
  rw [hm, hn] at hclose
  have hnum := num_mask ⟨k, by omega⟩
  simp only at hnum
  rw [hm] at hnum
  have hB : ∀ w, Calls Tryd.prog 18 #[.int .i64 (k : Int)] w fun r w' => r = .returned (.agg #[.int .u8 (m0.toNat : Int), .int .u8 (m1.toNat : Int), .int .u8 (m2.toNat : Int), .int .u8 (m3.toNat : Int), .int .u8 (m4.toNat : Int), .int .u8 (m5.toNat : Int)]) ∧ Kept Nil w w' := fun w => by have h := Bits_at (k : Int) k hk48 (.inr (.inr rfl)) w; rw [hm] at h; exact h
  have hB1 : ∀ w, Calls Tryd.prog 18 #[.int .i64 ((k : Int) + 1)] w fun r w' => r = .returned (.agg #[.int .u8 (n0.toNat : Int), .int .u8 (n1.toNat : Int), .int .u8 (n2.toNat : Int), .int .u8 (n3.toNat : Int), .int .u8 (n4.toNat : Int), .int .u8 (n5.toNat : Int)]) ∧ Kept Nil w w' := fun w => by have h := Bits_at ((k : Int) + 1) (min (k + 1) 48) (by omega) (by omega) w; rw [hn] at h; exact h
  have hBF : ∀ w, Calls Tryd.prog 18 #[.int .i64 48] w fun r w' => r = .returned (.agg #[.int .u8 255, .int .u8 255, .int .u8 255, .int .u8 255, .int .u8 255, .int .u8 255]) ∧ Kept Nil w w' := fun w => by have h := Bits_at 48 48 (by omega) (.inr (.inr rfl)) w; rw [mask48] at h; exact h
  have h1 : ∀ w, Calls Tryd.prog 24 #[.agg #[.int .u8 (a0.toNat : Int), .int .u8 (a1.toNat : Int), .int .u8 (a2.toNat : Int), .int .u8 (a3.toNat : Int), .int .u8 (a4.toNat : Int), .int .u8 (a5.toNat : Int), .int .u8 (n0.toNat : Int), .int .u8 (n1.toNat : Int), .int .u8 (n2.toNat : Int), .int .u8 (n3.toNat : Int), .int .u8 (n4.toNat : Int), .int .u8 (n5.toNat : Int)], .agg #[.int .u8 (b0.toNat : Int), .int .u8 (b1.toNat : Int), .int .u8 (b2.toNat : Int), .int .u8 (b3.toNat : Int), .int .u8 (b4.toNat : Int), .int .u8 (b5.toNat : Int)]] w fun r w' => r = .returned (.bool (andL [b0, b1, b2, b3, b4, b5] [n0, n1, n2, n3, n4, n5] == andL [a0, a1, a2, a3, a4, a5] [n0, n1, n2, n3, n4, n5])) ∧ Kept Nil w w' := fun w => Matches_yes a0 a1 a2 a3 a4 a5 n0 n1 n2 n3 n4 n5 b0 b1 b2 b3 b4 b5 w
  have h0 : ∀ w, Calls Tryd.prog 24 #[.agg #[.int .u8 (a0.toNat : Int), .int .u8 (a1.toNat : Int), .int .u8 (a2.toNat : Int), .int .u8 (a3.toNat : Int), .int .u8 (a4.toNat : Int), .int .u8 (a5.toNat : Int), .int .u8 (m0.toNat : Int), .int .u8 (m1.toNat : Int), .int .u8 (m2.toNat : Int), .int .u8 (m3.toNat : Int), .int .u8 (m4.toNat : Int), .int .u8 (m5.toNat : Int)], .agg #[.int .u8 (b0.toNat : Int), .int .u8 (b1.toNat : Int), .int .u8 (b2.toNat : Int), .int .u8 (b3.toNat : Int), .int .u8 (b4.toNat : Int), .int .u8 (b5.toNat : Int)]] w fun r w' => r = .returned (.bool (andL [b0, b1, b2, b3, b4, b5] [m0, m1, m2, m3, m4, m5] == andL [a0, a1, a2, a3, a4, a5] [m0, m1, m2, m3, m4, m5])) ∧ Kept Nil w w' := fun w => Matches_yes a0 a1 a2 a3 a4 a5 m0 m1 m2 m3 m4 m5 b0 b1 b2 b3 b4 b5 w
  have hZ : ∀ w, Calls Tryd.prog 24 #[.agg #[.int .u8 (a0.toNat : Int), .int .u8 (a1.toNat : Int), .int .u8 (a2.toNat : Int), .int .u8 (a3.toNat : Int), .int .u8 (a4.toNat : Int), .int .u8 (a5.toNat : Int), .int .u8 0, .int .u8 0, .int .u8 0, .int .u8 0, .int .u8 0, .int .u8 0], .agg #[.int .u8 (b0.toNat : Int), .int .u8 (b1.toNat : Int), .int .u8 (b2.toNat : Int), .int .u8 (b3.toNat : Int), .int .u8 (b4.toNat : Int), .int .u8 (b5.toNat : Int)]] w fun r w' => r = .returned (.bool true) ∧ Kept Nil w w' := fun w => by have h := Matches_yes a0 a1 a2 a3 a4 a5 0 0 0 0 0 0 b0 b1 b2 b3 b4 b5 w; rw [under_none] at h; exact h
  have hF : ∀ w, Calls Tryd.prog 24 #[.agg #[.int .u8 (a0.toNat : Int), .int .u8 (a1.toNat : Int), .int .u8 (a2.toNat : Int), .int .u8 (a3.toNat : Int), .int .u8 (a4.toNat : Int), .int .u8 (a5.toNat : Int), .int .u8 255, .int .u8 255, .int .u8 255, .int .u8 255, .int .u8 255, .int .u8 255], .agg #[.int .u8 (b0.toNat : Int), .int .u8 (b1.toNat : Int), .int .u8 (b2.toNat : Int), .int .u8 (b3.toNat : Int), .int .u8 (b4.toNat : Int), .int .u8 (b5.toNat : Int)]] w fun r w' => r = .returned (.bool ([a0, a1, a2, a3, a4, a5] == [b0, b1, b2, b3, b4, b5])) ∧ Kept Nil w w' := fun w => by have h := Matches_yes a0 a1 a2 a3 a4 a5 255 255 255 255 255 255 b0 b1 b2 b3 b4 b5 w; rw [under_all] at h; exact h
  have hC : ∀ w, Calls Tryd.prog 24 #[.agg #[.int .u8 (a0.toNat : Int), .int .u8 (a1.toNat : Int), .int .u8 (a2.toNat : Int), .int .u8 (a3.toNat : Int), .int .u8 (a4.toNat : Int), .int .u8 (a5.toNat : Int), .int .u8 (c0.toNat : Int), .int .u8 (c1.toNat : Int), .int .u8 (c2.toNat : Int), .int .u8 (c3.toNat : Int), .int .u8 (c4.toNat : Int), .int .u8 (c5.toNat : Int)], .agg #[.int .u8 (b0.toNat : Int), .int .u8 (b1.toNat : Int), .int .u8 (b2.toNat : Int), .int .u8 (b3.toNat : Int), .int .u8 (b4.toNat : Int), .int .u8 (b5.toNat : Int)]] w fun r w' => r = .returned (.bool (andL [b0, b1, b2, b3, b4, b5] [c0, c1, c2, c3, c4, c5] == andL [a0, a1, a2, a3, a4, a5] [c0, c1, c2, c3, c4, c5])) ∧ Kept Nil w w' := fun w => Matches_yes a0 a1 a2 a3 a4 a5 c0 c1 c2 c3 c4 c5 b0 b1 b2 b3 b4 b5 w
  have hNa : ∀ w, Calls Tryd.prog 11 #[.agg #[.int .u8 (a0.toNat : Int), .int .u8 (a1.toNat : Int), .int .u8 (a2.toNat : Int), .int .u8 (a3.toNat : Int), .int .u8 (a4.toNat : Int), .int .u8 (a5.toNat : Int)]] w fun r w' => r = .returned (.int .u64 (numL [a0, a1, a2, a3, a4, a5] : Int)) ∧ Kept Nil w w' := fun w => (Number_yes a0 a1 a2 a3 a4 a5 w).mono fun r w' ⟨h1, h2⟩ => ⟨h1, by rw [h2]; exact (Kept.refl Nil w).alloc _⟩
  have hNb : ∀ w, Calls Tryd.prog 11 #[.agg #[.int .u8 (b0.toNat : Int), .int .u8 (b1.toNat : Int), .int .u8 (b2.toNat : Int), .int .u8 (b3.toNat : Int), .int .u8 (b4.toNat : Int), .int .u8 (b5.toNat : Int)]] w fun r w' => r = .returned (.int .u64 (numL [b0, b1, b2, b3, b4, b5] : Int)) ∧ Kept Nil w w' := fun w => (Number_yes b0 b1 b2 b3 b4 b5 w).mono fun r w' ⟨h1, h2⟩ => ⟨h1, by rw [h2]; exact (Kept.refl Nil w).alloc _⟩
  have hNc : ∀ w, Calls Tryd.prog 11 #[.agg #[.int .u8 (c0.toNat : Int), .int .u8 (c1.toNat : Int), .int .u8 (c2.toNat : Int), .int .u8 (c3.toNat : Int), .int .u8 (c4.toNat : Int), .int .u8 (c5.toNat : Int)]] w fun r w' => r = .returned (.int .u64 (numL [c0, c1, c2, c3, c4, c5] : Int)) ∧ Kept Nil w w' := fun w => (Number_yes c0 c1 c2 c3 c4 c5 w).mono fun r w' ⟨h1, h2⟩ => ⟨h1, by rw [h2]; exact (Kept.refl Nil w).alloc _⟩
  have hNm : ∀ w, Calls Tryd.prog 11 #[.agg #[.int .u8 (m0.toNat : Int), .int .u8 (m1.toNat : Int), .int .u8 (m2.toNat : Int), .int .u8 (m3.toNat : Int), .int .u8 (m4.toNat : Int), .int .u8 (m5.toNat : Int)]] w fun r w' => r = .returned (.int .u64 (numL [m0, m1, m2, m3, m4, m5] : Int)) ∧ Kept Nil w w' := fun w => (Number_yes m0 m1 m2 m3 m4 m5 w).mono fun r w' ⟨h1, h2⟩ => ⟨h1, by rw [h2]; exact (Kept.refl Nil w).alloc _⟩
  have hac : ∀ w, Calls Tryd.prog 20 #[.agg #[.int .u8 (a0.toNat : Int), .int .u8 (a1.toNat : Int), .int .u8 (a2.toNat : Int), .int .u8 (a3.toNat : Int), .int .u8 (a4.toNat : Int), .int .u8 (a5.toNat : Int)], .agg #[.int .u8 (c0.toNat : Int), .int .u8 (c1.toNat : Int), .int .u8 (c2.toNat : Int), .int .u8 (c3.toNat : Int), .int .u8 (c4.toNat : Int), .int .u8 (c5.toNat : Int)]] w fun r w' => r = .returned (mv (andL [a0, a1, a2, a3, a4, a5] [c0, c1, c2, c3, c4, c5])) ∧ Kept Nil w w' := fun w => Masked_yes a0 a1 a2 a3 a4 a5 c0 c1 c2 c3 c4 c5 w
  have ham : ∀ w, Calls Tryd.prog 20 #[.agg #[.int .u8 (a0.toNat : Int), .int .u8 (a1.toNat : Int), .int .u8 (a2.toNat : Int), .int .u8 (a3.toNat : Int), .int .u8 (a4.toNat : Int), .int .u8 (a5.toNat : Int)], .agg #[.int .u8 (m0.toNat : Int), .int .u8 (m1.toNat : Int), .int .u8 (m2.toNat : Int), .int .u8 (m3.toNat : Int), .int .u8 (m4.toNat : Int), .int .u8 (m5.toNat : Int)]] w fun r w' => r = .returned (mv (andL [a0, a1, a2, a3, a4, a5] [m0, m1, m2, m3, m4, m5])) ∧ Kept Nil w w' := fun w => Masked_yes a0 a1 a2 a3 a4 a5 m0 m1 m2 m3 m4 m5 w
  have hz1 : ∀ w, Calls Tryd.prog 20 #[mv (andL [a0, a1, a2, a3, a4, a5] [c0, c1, c2, c3, c4, c5]), .agg #[.int .u8 (m0.toNat : Int), .int .u8 (m1.toNat : Int), .int .u8 (m2.toNat : Int), .int .u8 (m3.toNat : Int), .int .u8 (m4.toNat : Int), .int .u8 (m5.toNat : Int)]] w fun r w' => r = .returned (mv (andL (andL [a0, a1, a2, a3, a4, a5] [c0, c1, c2, c3, c4, c5]) [m0, m1, m2, m3, m4, m5])) ∧ Kept Nil w w' := fun w => Masked_yes (a0 &&& c0) (a1 &&& c1) (a2 &&& c2) (a3 &&& c3) (a4 &&& c4) (a5 &&& c5) m0 m1 m2 m3 m4 m5 w
  have hz2 : ∀ w, Calls Tryd.prog 20 #[mv (andL [a0, a1, a2, a3, a4, a5] [m0, m1, m2, m3, m4, m5]), .agg #[.int .u8 (c0.toNat : Int), .int .u8 (c1.toNat : Int), .int .u8 (c2.toNat : Int), .int .u8 (c3.toNat : Int), .int .u8 (c4.toNat : Int), .int .u8 (c5.toNat : Int)]] w fun r w' => r = .returned (mv (andL (andL [a0, a1, a2, a3, a4, a5] [c0, c1, c2, c3, c4, c5]) [m0, m1, m2, m3, m4, m5])) ∧ Kept Nil w w' := fun w => by have h := Masked_yes (a0 &&& m0) (a1 &&& m1) (a2 &&& m2) (a3 &&& m3) (a4 &&& m4) (a5 &&& m5) c0 c1 c2 c3 c4 c5 w; simp only [← and_swap] at h; exact h
  have heq : ∀ w, (Op.equalIn 10000 24 (.agg #[.int .u8 (a0.toNat : Int), .int .u8 (a1.toNat : Int), .int .u8 (a2.toNat : Int), .int .u8 (a3.toNat : Int), .int .u8 (a4.toNat : Int), .int .u8 (a5.toNat : Int)]) (.agg #[.int .u8 (b0.toNat : Int), .int .u8 (b1.toNat : Int), .int .u8 (b2.toNat : Int), .int .u8 (b3.toNat : Int), .int .u8 (b4.toNat : Int), .int .u8 (b5.toNat : Int)])).run Tryd.prog w = .ok ([a0, a1, a2, a3, a4, a5] == [b0, b1, b2, b3, b4, b5]) w := meq [a0, a1, a2, a3, a4, a5] [b0, b1, b2, b3, b4, b5] rfl rfl
  generalize ([a0, a1, a2, a3, a4, a5] == [b0, b1, b2, b3, b4, b5]) = q48 at hF heq
  generalize hq1 : (andL [b0, b1, b2, b3, b4, b5] [n0, n1, n2, n3, n4, n5] == andL [a0, a1, a2, a3, a4, a5] [n0, n1, n2, n3, n4, n5]) = q1 at h1 hclose
  generalize hq0 : (andL [b0, b1, b2, b3, b4, b5] [m0, m1, m2, m3, m4, m5] == andL [a0, a1, a2, a3, a4, a5] [m0, m1, m2, m3, m4, m5]) = q0 at h0 hclose
  have hdiff := differ_eq a0 a1 a2 a3 a4 a5 b0 b1 b2 b3 b4 b5 c0 c1 c2 c3 c4 c5
  generalize hqc : (andL [b0, b1, b2, b3, b4, b5] [c0, c1, c2, c3, c4, c5] == andL [a0, a1, a2, a3, a4, a5] [c0, c1, c2, c3, c4, c5]) = qc at hC hdiff
  generalize hD : bits .and .u64 (bits .xor .u64 (numL [a0, a1, a2, a3, a4, a5] : Int) (numL [b0, b1, b2, b3, b4, b5] : Int)) (numL [c0, c1, c2, c3, c4, c5] : Int) = D at hdiff
  have HD := Lib.hid hD
  generalize hNA : (numL [a0, a1, a2, a3, a4, a5] : Int) = NA at hNa HD
  generalize hNB : (numL [b0, b1, b2, b3, b4, b5] : Int) = NB at hNb HD
  generalize hNC : (numL [c0, c1, c2, c3, c4, c5] : Int) = NC at hNc HD
  have HNK := Lib.hid hnum
  generalize hNM : (numL [m0, m1, m2, m3, m4, m5] : Int) = NM at hNm
  have HNM := Lib.hid hNM
  generalize hz : andL (andL [a0, a1, a2, a3, a4, a5] [c0, c1, c2, c3, c4, c5]) [m0, m1, m2, m3, m4, m5] = zz at hz1 hz2
  obtain ⟨z0, z1, z2, z3, z4, z5, hzz⟩ := six zz (by rw [← hz]; rfl)
  subst hzz
  simp only [mv6] at hz1 hz2
  have HCL := Lib.hid hclose
  have HDI := Lib.hid hdiff
  have PK := Lib.hid (And.intro (HD) (And.intro (HNK) (And.intro (HNM) (And.intro (HCL) (And.intro (HDI) (And.intro (Lib.hid heq) (And.intro (Lib.hid hB) (And.intro (Lib.hid hB1) (And.intro (Lib.hid hBF) (And.intro (Lib.hid h1) (And.intro (Lib.hid h0) (And.intro (Lib.hid hZ) (And.intro (Lib.hid hF) (And.intro (Lib.hid hC) (And.intro (Lib.hid hNa) (And.intro (Lib.hid hNb) (And.intro (Lib.hid hNc) (And.intro (Lib.hid hNm) (And.intro (Lib.hid hac) (And.intro (Lib.hid ham) (And.intro (Lib.hid hz1) (Lib.hid hz2))))))))))))))))))))))
  clear HD HNK HNM HCL HDI heq hB hB1 hBF h1 h0 hZ hF hC hNa hNb hNc hNm hac ham hz1 hz2
  clear hq1 hq0 hqc hD hNA hNB hNC hnum hNM hclose hdiff hz hm hn
  go_enter Tryd.func6, Tryd.ntmps6
  go_upto_region 1 with (fail)
  obtain ⟨W, hW⟩ : ∃ W, W = ((w.alloc (.cells #[.int .u8 (a0.toNat : Int), .int .u8 (a1.toNat : Int), .int .u8 (a2.toNat : Int), .int .u8 (a3.toNat : Int), .int .u8 (a4.toNat : Int), .int .u8 (a5.toNat : Int)] 22)).alloc (.cells #[.int .u8 (b0.toNat : Int), .int .u8 (b1.toNat : Int), .int .u8 (b2.toNat : Int), .int .u8 (b3.toNat : Int), .int .u8 (b4.toNat : Int), .int .u8 (b5.toNat : Int)] 22)).alloc (.cells #[.int .u8 (c0.toNat : Int), .int .u8 (c1.toNat : Int), .int .u8 (c2.toNat : Int), .int .u8 (c3.toNat : Int), .int .u8 (c4.toNat : Int), .int .u8 (c5.toNat : Int)] 22) := ⟨_, rfl⟩
  rw [← hW]
  have hbA : Blo W w.heap.size 22 #[.int .u8 (a0.toNat : Int), .int .u8 (a1.toNat : Int), .int .u8 (a2.toNat : Int), .int .u8 (a3.toNat : Int), .int .u8 (a4.toNat : Int), .int .u8 (a5.toNat : Int)] := by rw [hW]; exact ((Blo.at_new (by simp)).alloc _).alloc _
  have hbB : Blo W (w.heap.size + 1) 22 #[.int .u8 (b0.toNat : Int), .int .u8 (b1.toNat : Int), .int .u8 (b2.toNat : Int), .int .u8 (b3.toNat : Int), .int .u8 (b4.toNat : Int), .int .u8 (b5.toNat : Int)] := by rw [hW]; exact (Blo.at_new (by simp)).alloc _
  have hbC : Blo W (w.heap.size + 1 + 1) 22 #[.int .u8 (c0.toNat : Int), .int .u8 (c1.toNat : Int), .int .u8 (c2.toNat : Int), .int .u8 (c3.toNat : Int), .int .u8 (c4.toNat : Int), .int .u8 (c5.toNat : Int)] := by rw [hW]; exact Blo.at_new (by simp)
  have KW : Hid (Kept Nil w W) := by unfold Hid; rw [hW]; exact (((Kept.refl Nil w).alloc _).alloc _).alloc _
  clear hW
  generalize w.heap.size + 1 + 1 = e2 at *
  generalize w.heap.size + 1 = e1 at *
  generalize w.heap.size = e0 at *
  go_cut [9, 10, 11] (fun s9 s10 s11 wx => ∃ g9 g10 g11 : Nat, s9 = .pointer (some ⟨g9, 0, none⟩) ∧ s10 = .pointer (some ⟨g10, 0, none⟩) ∧ s11 = .pointer (some ⟨g11, 0, none⟩) ∧ Hid (Blo wx g9 24 #[.int .u8 (a0.toNat : Int), .int .u8 (a1.toNat : Int), .int .u8 (a2.toNat : Int), .int .u8 (a3.toNat : Int), .int .u8 (a4.toNat : Int), .int .u8 (a5.toNat : Int)]) ∧ Hid (Blo wx g10 24 #[.int .u8 (b0.toNat : Int), .int .u8 (b1.toNat : Int), .int .u8 (b2.toNat : Int), .int .u8 (b3.toNat : Int), .int .u8 (b4.toNat : Int), .int .u8 (b5.toNat : Int)]) ∧ Hid (Blo wx g11 24 #[.int .u8 (c0.toNat : Int), .int .u8 (c1.toNat : Int), .int .u8 (c2.toNat : Int), .int .u8 (c3.toNat : Int), .int .u8 (c4.toNat : Int), .int .u8 (c5.toNat : Int)]) ∧ Hid (Kept Nil w wx))
  case first =>
    have HBA := Lib.hid hbA
    have HBB := Lib.hid hbB
    have HBC := Lib.hid hbC
    clear hbA hbB hbC
    refine wp_region_own2 (fun _ => #[.int .u8 0, .int .u8 0, .int .u8 0, .int .u8 0, .int .u8 0, .int .u8 0]) 3 (by kernel_rfl) (by kernel_rfl) (by kernel_rfl) ?_
    apply Exists.intro
    refine And.intro ?hq ?ht
    case hq =>
      intro V hV
      have kbA := HBA.out.kept hV (fun hf => hf)
      have kbB := HBB.out.kept hV (fun hf => hf)
      have kbC := HBC.out.kept hV (fun hf => hf)
      have ca0 := kbA.gcell 0
      have ca1 := kbA.gcell 1
      have ca2 := kbA.gcell 2
      have ca3 := kbA.gcell 3
      have ca4 := kbA.gcell 4
      have ca5 := kbA.gcell 5
      have cb0 := kbB.gcell 0
      have cb1 := kbB.gcell 1
      have cb2 := kbB.gcell 2
      have cb3 := kbB.gcell 3
      have cb4 := kbB.gcell 4
      have cb5 := kbB.gcell 5
      have cc0 := kbC.gcell 0
      have cc1 := kbC.gcell 1
      have cc2 := kbC.gcell 2
      have cc3 := kbC.gcell 3
      have cc4 := kbC.gcell 4
      have cc5 := kbC.gcell 5
      simp at ca0 ca1 ca2 ca3 ca4 ca5 cb0 cb1 cb2 cb3 cb4 cb5 cc0 cc1 cc2 cc3 cc4 cc5
      clear kbA kbB kbC
      dsimp only [List.take]
      repeat (go_big_quiet_step (fail))
      exact wpQuiet_nil rfl
    case ht =>
      intro vs
      dsimp only [List.drop]
      refine sLex_alloc 24 rfl rfl (fun _ _ => by kernel_rfl) ?_
      intro g9 hg9 hL9
      refine sLex_alloc 24 rfl rfl (fun _ _ => by kernel_rfl) ?_
      intro g10 hg10 hL10
      refine sLex_alloc 24 rfl rfl (fun _ _ => by kernel_rfl) ?_
      intro g11 hg11 hL11
      have n1 := upd_new hL10
      have n2 := upd_new hL11
      have n3 := upd_new (upd_new' hL11)
      refine sLex_store 24 (.tmp 9) (.tmp 18) rfl rfl rfl g9 #[.int .u8 0, .int .u8 0, .int .u8 0, .int .u8 0, .int .u8 0, .int .u8 0] #[.int .u8 (a0.toNat : Int), .int .u8 (a1.toNat : Int), .int .u8 (a2.toNat : Int), .int .u8 (a3.toNat : Int), .int .u8 (a4.toNat : Int), .int .u8 (a5.toNat : Int)] (by rfl) (by simp [upd, n1.symm, n2.symm, n3.symm]) (by rfl) rfl (by kernel_rfl) (by simp [Value.oneCell']) ?_
      refine sLex_store 24 (.tmp 10) (.tmp 19) rfl rfl rfl g10 #[.int .u8 0, .int .u8 0, .int .u8 0, .int .u8 0, .int .u8 0, .int .u8 0] #[.int .u8 (b0.toNat : Int), .int .u8 (b1.toNat : Int), .int .u8 (b2.toNat : Int), .int .u8 (b3.toNat : Int), .int .u8 (b4.toNat : Int), .int .u8 (b5.toNat : Int)] (by rfl) (by simp [upd, n1, n2.symm, n3.symm]) (by rfl) rfl (by kernel_rfl) (by simp [Value.oneCell']) ?_
      refine sLex_store 24 (.tmp 11) (.tmp 20) rfl rfl rfl g11 #[.int .u8 0, .int .u8 0, .int .u8 0, .int .u8 0, .int .u8 0, .int .u8 0] #[.int .u8 (c0.toNat : Int), .int .u8 (c1.toNat : Int), .int .u8 (c2.toNat : Int), .int .u8 (c3.toNat : Int), .int .u8 (c4.toNat : Int), .int .u8 (c5.toNat : Int)] (by rfl) (by simp [upd, n1, n2, n3]) (by rfl) rfl (by kernel_rfl) (by simp [Value.oneCell']) ?_
      intro w' hh
      have o9 := (hh.own g9 true #[.int .u8 (a0.toNat : Int), .int .u8 (a1.toNat : Int), .int .u8 (a2.toNat : Int), .int .u8 (a3.toNat : Int), .int .u8 (a4.toNat : Int), .int .u8 (a5.toNat : Int)] 24 (by simp [upd, n1.symm, n2.symm, n3.symm])).2
      have o10 := (hh.own g10 true #[.int .u8 (b0.toNat : Int), .int .u8 (b1.toNat : Int), .int .u8 (b2.toNat : Int), .int .u8 (b3.toNat : Int), .int .u8 (b4.toNat : Int), .int .u8 (b5.toNat : Int)] 24 (by simp [upd, n1, n2.symm, n3.symm])).2
      have o11 := (hh.own g11 true #[.int .u8 (c0.toNat : Int), .int .u8 (c1.toNat : Int), .int .u8 (c2.toNat : Int), .int .u8 (c3.toNat : Int), .int .u8 (c4.toNat : Int), .int .u8 (c5.toNat : Int)] 24 (by simp [upd, n1, n2, n3])).2
      have hkk := hh.kept
      go_wp2_with fail
      go_meet
      exact ⟨g9, g10, g11, rfl, rfl, rfl, o9, o10, o11, KW.out.then hkk⟩
  case rest =>
    obtain ⟨g9, g10, g11, rfl, rfl, rfl, HA, HB, HC, HK⟩ := hcut
    go_upto_region 3 with (fail)
    go_cut [13, 14] (fun s13 s14 wx => ∃ g13 g14 : Nat, s13 = .pointer (some ⟨g13, 0, none⟩) ∧ s14 = .pointer (some ⟨g14, 0, none⟩) ∧ Hid (Blo wx g13 26 #[.int .u8 (a0.toNat : Int), .int .u8 (a1.toNat : Int), .int .u8 (a2.toNat : Int), .int .u8 (a3.toNat : Int), .int .u8 (a4.toNat : Int), .int .u8 (a5.toNat : Int), .int .u8 (m0.toNat : Int), .int .u8 (m1.toNat : Int), .int .u8 (m2.toNat : Int), .int .u8 (m3.toNat : Int), .int .u8 (m4.toNat : Int), .int .u8 (m5.toNat : Int)]) ∧ Hid (Blo wx g14 26 #[.int .u8 (a0.toNat : Int), .int .u8 (a1.toNat : Int), .int .u8 (a2.toNat : Int), .int .u8 (a3.toNat : Int), .int .u8 (a4.toNat : Int), .int .u8 (a5.toNat : Int), .int .u8 (n0.toNat : Int), .int .u8 (n1.toNat : Int), .int .u8 (n2.toNat : Int), .int .u8 (n3.toNat : Int), .int .u8 (n4.toNat : Int), .int .u8 (n5.toNat : Int)]) ∧ Hid (Kept Nil wc wx))
    case first =>
      obtain ⟨HBk, HBk1⟩ := And.intro (PK.out.2.2.2.2.2.2.1) (PK.out.2.2.2.2.2.2.2.1)
      clear PK HK
      refine wp_region_own2 (fun _ => #[.int .u8 0, .int .u8 0, .int .u8 0, .int .u8 0, .int .u8 0, .int .u8 0, .int .u8 0, .int .u8 0, .int .u8 0, .int .u8 0, .int .u8 0, .int .u8 0]) 9 (by kernel_rfl) (by kernel_rfl) (by kernel_rfl) ?_
      apply Exists.intro
      refine And.intro ?hq ?ht
      case hq =>
        intro V hV
        have kb := HA.out.kept hV (fun hf => hf)
        have ca0 := kb.gcell 0
        have ca1 := kb.gcell 1
        have ca2 := kb.gcell 2
        have ca3 := kb.gcell 3
        have ca4 := kb.gcell 4
        have ca5 := kb.gcell 5
        simp at ca0 ca1 ca2 ca3 ca4 ca5
        clear kb
        dsimp only [List.take]
        repeat (go_big_quiet_step (first | (with_reducible exact quietK (HBk.out _)) | (with_reducible exact quietK (HBk1.out _))))
        exact wpQuiet_nil rfl
      case ht =>
        intro vs
        dsimp only [List.drop]
        refine sLex_alloc 26 rfl rfl (fun _ _ => by kernel_rfl) ?_
        intro g13 hg13 hL13
        refine sLex_alloc 26 rfl rfl (fun _ _ => by kernel_rfl) ?_
        intro g14 hg14 hL14
        have ne1 := upd_new hL14
        refine sLex_store 26 (.tmp 13) (.tmp 27) rfl rfl rfl g13 #[.int .u8 0, .int .u8 0, .int .u8 0, .int .u8 0, .int .u8 0, .int .u8 0, .int .u8 0, .int .u8 0, .int .u8 0, .int .u8 0, .int .u8 0, .int .u8 0] #[.int .u8 (a0.toNat : Int), .int .u8 (a1.toNat : Int), .int .u8 (a2.toNat : Int), .int .u8 (a3.toNat : Int), .int .u8 (a4.toNat : Int), .int .u8 (a5.toNat : Int), .int .u8 (m0.toNat : Int), .int .u8 (m1.toNat : Int), .int .u8 (m2.toNat : Int), .int .u8 (m3.toNat : Int), .int .u8 (m4.toNat : Int), .int .u8 (m5.toNat : Int)] (by rfl) (by simp [upd, ne1.symm]) (by rfl) rfl (by kernel_rfl) (by simp [Value.oneCell']) ?_
        refine sLex_store 26 (.tmp 14) (.tmp 32) rfl rfl rfl g14 #[.int .u8 0, .int .u8 0, .int .u8 0, .int .u8 0, .int .u8 0, .int .u8 0, .int .u8 0, .int .u8 0, .int .u8 0, .int .u8 0, .int .u8 0, .int .u8 0] #[.int .u8 (a0.toNat : Int), .int .u8 (a1.toNat : Int), .int .u8 (a2.toNat : Int), .int .u8 (a3.toNat : Int), .int .u8 (a4.toNat : Int), .int .u8 (a5.toNat : Int), .int .u8 (n0.toNat : Int), .int .u8 (n1.toNat : Int), .int .u8 (n2.toNat : Int), .int .u8 (n3.toNat : Int), .int .u8 (n4.toNat : Int), .int .u8 (n5.toNat : Int)] (by rfl) (by simp [upd, ne1]) (by rfl) rfl (by kernel_rfl) (by simp [Value.oneCell']) ?_
        intro w' hh
        have o13 := (hh.own g13 true #[.int .u8 (a0.toNat : Int), .int .u8 (a1.toNat : Int), .int .u8 (a2.toNat : Int), .int .u8 (a3.toNat : Int), .int .u8 (a4.toNat : Int), .int .u8 (a5.toNat : Int), .int .u8 (m0.toNat : Int), .int .u8 (m1.toNat : Int), .int .u8 (m2.toNat : Int), .int .u8 (m3.toNat : Int), .int .u8 (m4.toNat : Int), .int .u8 (m5.toNat : Int)] 26 (by simp [upd, ne1.symm])).2
        have o14 := (hh.own g14 true #[.int .u8 (a0.toNat : Int), .int .u8 (a1.toNat : Int), .int .u8 (a2.toNat : Int), .int .u8 (a3.toNat : Int), .int .u8 (a4.toNat : Int), .int .u8 (a5.toNat : Int), .int .u8 (n0.toNat : Int), .int .u8 (n1.toNat : Int), .int .u8 (n2.toNat : Int), .int .u8 (n3.toNat : Int), .int .u8 (n4.toNat : Int), .int .u8 (n5.toNat : Int)] 26 (by simp [upd, ne1])).2
        have hkk := hh.kept
        go_wp2_with fail
        go_meet
        exact ⟨g13, g14, rfl, rfl, o13, o14, hkk⟩
    case rest =>
      obtain ⟨g13, g14, rfl, rfl, HW, HV, HK2⟩ := hcut
      rename_i wB _
      have HA2 := Lib.hid (HA.out.kept HK2.out (fun hf => hf))
      have HB2 := Lib.hid (HB.out.kept HK2.out (fun hf => hf))
      have HC2 := Lib.hid (HC.out.kept HK2.out (fun hf => hf))
      have HK3 := Lib.hid (HK.out.then HK2.out)
      clear HA HB HC HK HK2
      go_upto_region 4 with (fail)
      go_cut [59] (fun s59 wx => s59 = .bool false ∧ Hid (Kept Nil wc wx))
      case first =>
        have R0 := PK.out.2.2.2.2.2.2.1
        have R1 := PK.out.2.2.2.2.2.2.2.1
        have RF := PK.out.2.2.2.2.2.2.2.2.1
        have RH1 := PK.out.2.2.2.2.2.2.2.2.2.1
        have RH0 := PK.out.2.2.2.2.2.2.2.2.2.2.1
        have RHZ := PK.out.2.2.2.2.2.2.2.2.2.2.2.1
        have RHF := PK.out.2.2.2.2.2.2.2.2.2.2.2.2.1
        have RQ := PK.out.2.2.2.2.2.1
        have RC := PK.out.2.2.2.1
        clear PK HK3 HC2
        rcases q1 with _ | _
        · rcases q48 with _ | _
          · refine wp_region_quiet_below (by kernel_rfl) (by kernel_rfl) ?_
            have ca0 := HA2.out.gcell 0
            have ca1 := HA2.out.gcell 1
            have ca2 := HA2.out.gcell 2
            have ca3 := HA2.out.gcell 3
            have ca4 := HA2.out.gcell 4
            have ca5 := HA2.out.gcell 5
            simp at ca0 ca1 ca2 ca3 ca4 ca5
            have cb0 := HB2.out.gcell 0
            have cb1 := HB2.out.gcell 1
            have cb2 := HB2.out.gcell 2
            have cb3 := HB2.out.gcell 3
            have cb4 := HB2.out.gcell 4
            have cb5 := HB2.out.gcell 5
            simp at cb0 cb1 cb2 cb3 cb4 cb5
            have cw0 := HW.out.gcell 0
            have cw1 := HW.out.gcell 1
            have cw2 := HW.out.gcell 2
            have cw3 := HW.out.gcell 3
            have cw4 := HW.out.gcell 4
            have cw5 := HW.out.gcell 5
            have cw6 := HW.out.gcell 6
            have cw7 := HW.out.gcell 7
            have cw8 := HW.out.gcell 8
            have cw9 := HW.out.gcell 9
            have cw10 := HW.out.gcell 10
            have cw11 := HW.out.gcell 11
            simp at cw0 cw1 cw2 cw3 cw4 cw5 cw6 cw7 cw8 cw9 cw10 cw11
            have cv0 := HV.out.gcell 0
            have cv1 := HV.out.gcell 1
            have cv2 := HV.out.gcell 2
            have cv3 := HV.out.gcell 3
            have cv4 := HV.out.gcell 4
            have cv5 := HV.out.gcell 5
            have cv6 := HV.out.gcell 6
            have cv7 := HV.out.gcell 7
            have cv8 := HV.out.gcell 8
            have cv9 := HV.out.gcell 9
            have cv10 := HV.out.gcell 10
            have cv11 := HV.out.gcell 11
            simp at cv0 cv1 cv2 cv3 cv4 cv5 cv6 cv7 cv8 cv9 cv10 cv11
            have rq := RQ.out
            repeat (go_big_quiet_step (first | (with_reducible exact quietK (RH1.out _)) | (with_reducible exact quietK (RH0.out _)) | (with_reducible exact quietK (RHZ.out _)) | (with_reducible exact quietK (RHF.out _)) | (with_reducible exact quietK (RF.out _))))
            refine wpQuiet_nil ?_
            rintro wn ⟨nq, hw⟩
            have hkn : Kept Nil wc wn := by rw [hw]; exact kept_grown _ _
            clear hw
            go_wp2_with fail
            go_meet
            exact ⟨rfl, hkn⟩
          · refine wp_region_quiet_below (by kernel_rfl) (by kernel_rfl) ?_
            have ca0 := HA2.out.gcell 0
            have ca1 := HA2.out.gcell 1
            have ca2 := HA2.out.gcell 2
            have ca3 := HA2.out.gcell 3
            have ca4 := HA2.out.gcell 4
            have ca5 := HA2.out.gcell 5
            simp at ca0 ca1 ca2 ca3 ca4 ca5
            have cb0 := HB2.out.gcell 0
            have cb1 := HB2.out.gcell 1
            have cb2 := HB2.out.gcell 2
            have cb3 := HB2.out.gcell 3
            have cb4 := HB2.out.gcell 4
            have cb5 := HB2.out.gcell 5
            simp at cb0 cb1 cb2 cb3 cb4 cb5
            have cw0 := HW.out.gcell 0
            have cw1 := HW.out.gcell 1
            have cw2 := HW.out.gcell 2
            have cw3 := HW.out.gcell 3
            have cw4 := HW.out.gcell 4
            have cw5 := HW.out.gcell 5
            have cw6 := HW.out.gcell 6
            have cw7 := HW.out.gcell 7
            have cw8 := HW.out.gcell 8
            have cw9 := HW.out.gcell 9
            have cw10 := HW.out.gcell 10
            have cw11 := HW.out.gcell 11
            simp at cw0 cw1 cw2 cw3 cw4 cw5 cw6 cw7 cw8 cw9 cw10 cw11
            have cv0 := HV.out.gcell 0
            have cv1 := HV.out.gcell 1
            have cv2 := HV.out.gcell 2
            have cv3 := HV.out.gcell 3
            have cv4 := HV.out.gcell 4
            have cv5 := HV.out.gcell 5
            have cv6 := HV.out.gcell 6
            have cv7 := HV.out.gcell 7
            have cv8 := HV.out.gcell 8
            have cv9 := HV.out.gcell 9
            have cv10 := HV.out.gcell 10
            have cv11 := HV.out.gcell 11
            simp at cv0 cv1 cv2 cv3 cv4 cv5 cv6 cv7 cv8 cv9 cv10 cv11
            have rq := RQ.out
            repeat (go_big_quiet_step (first | (with_reducible exact quietK (RH1.out _)) | (with_reducible exact quietK (RH0.out _)) | (with_reducible exact quietK (RHZ.out _)) | (with_reducible exact quietK (RHF.out _)) | (with_reducible exact quietK (RF.out _))))
            refine wpQuiet_nil ?_
            rintro wn ⟨nq, hw⟩
            have hkn : Kept Nil wc wn := by rw [hw]; exact kept_grown _ _
            clear hw
            go_wp2_with fail
            go_meet
            exact ⟨rfl, hkn⟩
        · obtain rfl : q0 = true := RC.out rfl
          rcases q48 with _ | _
          · refine wp_region_quiet_below (by kernel_rfl) (by kernel_rfl) ?_
            have ca0 := HA2.out.gcell 0
            have ca1 := HA2.out.gcell 1
            have ca2 := HA2.out.gcell 2
            have ca3 := HA2.out.gcell 3
            have ca4 := HA2.out.gcell 4
            have ca5 := HA2.out.gcell 5
            simp at ca0 ca1 ca2 ca3 ca4 ca5
            have cb0 := HB2.out.gcell 0
            have cb1 := HB2.out.gcell 1
            have cb2 := HB2.out.gcell 2
            have cb3 := HB2.out.gcell 3
            have cb4 := HB2.out.gcell 4
            have cb5 := HB2.out.gcell 5
            simp at cb0 cb1 cb2 cb3 cb4 cb5
            have cw0 := HW.out.gcell 0
            have cw1 := HW.out.gcell 1
            have cw2 := HW.out.gcell 2
            have cw3 := HW.out.gcell 3
            have cw4 := HW.out.gcell 4
            have cw5 := HW.out.gcell 5
            have cw6 := HW.out.gcell 6
            have cw7 := HW.out.gcell 7
            have cw8 := HW.out.gcell 8
            have cw9 := HW.out.gcell 9
            have cw10 := HW.out.gcell 10
            have cw11 := HW.out.gcell 11
            simp at cw0 cw1 cw2 cw3 cw4 cw5 cw6 cw7 cw8 cw9 cw10 cw11
            have cv0 := HV.out.gcell 0
            have cv1 := HV.out.gcell 1
            have cv2 := HV.out.gcell 2
            have cv3 := HV.out.gcell 3
            have cv4 := HV.out.gcell 4
            have cv5 := HV.out.gcell 5
            have cv6 := HV.out.gcell 6
            have cv7 := HV.out.gcell 7
            have cv8 := HV.out.gcell 8
            have cv9 := HV.out.gcell 9
            have cv10 := HV.out.gcell 10
            have cv11 := HV.out.gcell 11
            simp at cv0 cv1 cv2 cv3 cv4 cv5 cv6 cv7 cv8 cv9 cv10 cv11
            have rq := RQ.out
            repeat (go_big_quiet_step (first | (with_reducible exact quietK (RH1.out _)) | (with_reducible exact quietK (RH0.out _)) | (with_reducible exact quietK (RHZ.out _)) | (with_reducible exact quietK (RHF.out _)) | (with_reducible exact quietK (RF.out _))))
            refine wpQuiet_nil ?_
            rintro wn ⟨nq, hw⟩
            have hkn : Kept Nil wc wn := by rw [hw]; exact kept_grown _ _
            clear hw
            go_wp2_with fail
            go_meet
            exact ⟨rfl, hkn⟩
          · refine wp_region_quiet_below (by kernel_rfl) (by kernel_rfl) ?_
            have ca0 := HA2.out.gcell 0
            have ca1 := HA2.out.gcell 1
            have ca2 := HA2.out.gcell 2
            have ca3 := HA2.out.gcell 3
            have ca4 := HA2.out.gcell 4
            have ca5 := HA2.out.gcell 5
            simp at ca0 ca1 ca2 ca3 ca4 ca5
            have cb0 := HB2.out.gcell 0
            have cb1 := HB2.out.gcell 1
            have cb2 := HB2.out.gcell 2
            have cb3 := HB2.out.gcell 3
            have cb4 := HB2.out.gcell 4
            have cb5 := HB2.out.gcell 5
            simp at cb0 cb1 cb2 cb3 cb4 cb5
            have cw0 := HW.out.gcell 0
            have cw1 := HW.out.gcell 1
            have cw2 := HW.out.gcell 2
            have cw3 := HW.out.gcell 3
            have cw4 := HW.out.gcell 4
            have cw5 := HW.out.gcell 5
            have cw6 := HW.out.gcell 6
            have cw7 := HW.out.gcell 7
            have cw8 := HW.out.gcell 8
            have cw9 := HW.out.gcell 9
            have cw10 := HW.out.gcell 10
            have cw11 := HW.out.gcell 11
            simp at cw0 cw1 cw2 cw3 cw4 cw5 cw6 cw7 cw8 cw9 cw10 cw11
            have cv0 := HV.out.gcell 0
            have cv1 := HV.out.gcell 1
            have cv2 := HV.out.gcell 2
            have cv3 := HV.out.gcell 3
            have cv4 := HV.out.gcell 4
            have cv5 := HV.out.gcell 5
            have cv6 := HV.out.gcell 6
            have cv7 := HV.out.gcell 7
            have cv8 := HV.out.gcell 8
            have cv9 := HV.out.gcell 9
            have cv10 := HV.out.gcell 10
            have cv11 := HV.out.gcell 11
            simp at cv0 cv1 cv2 cv3 cv4 cv5 cv6 cv7 cv8 cv9 cv10 cv11
            have rq := RQ.out
            repeat (go_big_quiet_step (first | (with_reducible exact quietK (RH1.out _)) | (with_reducible exact quietK (RH0.out _)) | (with_reducible exact quietK (RHZ.out _)) | (with_reducible exact quietK (RHF.out _)) | (with_reducible exact quietK (RF.out _))))
            refine wpQuiet_nil ?_
            rintro wn ⟨nq, hw⟩
            have hkn : Kept Nil wc wn := by rw [hw]; exact kept_grown _ _
            clear hw
            go_wp2_with fail
            go_meet
            exact ⟨rfl, hkn⟩
      case rest =>
        obtain ⟨rfl, HK4⟩ := hcut
        have HA3 := Lib.hid (HA2.out.kept HK4.out (fun hf => hf))
        have HB3 := Lib.hid (HB2.out.kept HK4.out (fun hf => hf))
        have HC3 := Lib.hid (HC2.out.kept HK4.out (fun hf => hf))
        have HK5 := Lib.hid (HK3.out.then HK4.out)
        clear HA2 HB2 HC2 HK3 HK4 HW HV
        go_upto_region 6 with (fail)
        go_cut [15] (fun s15 wx => s15 = .int .u64 D ∧ Hid (Kept Nil wc wx))
        case first =>
          have R0 := PK.out.2.2.2.2.2.2.2.2.2.2.2.2.2.2.1
          have R1 := PK.out.2.2.2.2.2.2.2.2.2.2.2.2.2.2.2.1
          have RF := PK.out.2.2.2.2.2.2.2.2.2.2.2.2.2.2.2.2.1
          have RD := PK.out.1
          clear PK HK5
          refine wp_region_quiet_below (by kernel_rfl) (by kernel_rfl) ?_
          have ca0 := HA3.out.gcell 0
          have ca1 := HA3.out.gcell 1
          have ca2 := HA3.out.gcell 2
          have ca3 := HA3.out.gcell 3
          have ca4 := HA3.out.gcell 4
          have ca5 := HA3.out.gcell 5
          simp at ca0 ca1 ca2 ca3 ca4 ca5
          have cb0 := HB3.out.gcell 0
          have cb1 := HB3.out.gcell 1
          have cb2 := HB3.out.gcell 2
          have cb3 := HB3.out.gcell 3
          have cb4 := HB3.out.gcell 4
          have cb5 := HB3.out.gcell 5
          simp at cb0 cb1 cb2 cb3 cb4 cb5
          have cc0 := HC3.out.gcell 0
          have cc1 := HC3.out.gcell 1
          have cc2 := HC3.out.gcell 2
          have cc3 := HC3.out.gcell 3
          have cc4 := HC3.out.gcell 4
          have cc5 := HC3.out.gcell 5
          simp at cc0 cc1 cc2 cc3 cc4 cc5
          repeat (go_big_quiet_step (first | (with_reducible exact quietK (R0.out _)) | (with_reducible exact quietK (R1.out _)) | (with_reducible exact quietK (RF.out _))))
          refine wpQuiet_nil ?_
          rintro wn ⟨nq, hw⟩
          have hkn : Kept Nil wc wn := by rw [hw]; exact kept_grown _ _
          clear hw
          go_wp2_with fail
          go_meet
          exact ⟨by rw [RD.out], hkn⟩
        case rest =>
          obtain ⟨rfl, HK6⟩ := hcut
          have HA4 := Lib.hid (HA3.out.kept HK6.out (fun hf => hf))
          have HB4 := Lib.hid (HB3.out.kept HK6.out (fun hf => hf))
          have HC4 := Lib.hid (HC3.out.kept HK6.out (fun hf => hf))
          have HK7 := Lib.hid (HK5.out.then HK6.out)
          clear HA3 HB3 HC3 HK5 HK6
          go_wp2_with fail
          refine ((PK.out.2.2.2.2.2.2.1).out _).mono ?_
          rintro e w1 ⟨rfl, hk1⟩
          have HK8 := Lib.hid hk1
          clear hk1
          go_wp2_with fail
          refine ((PK.out.2.2.2.2.2.2.2.2.2.2.2.2.2.2.2.2.2.1).out _).mono ?_
          rintro e w2 ⟨rfl, hk2⟩
          have HK9 := Lib.hid (HK8.out.then hk2)
          clear hk2
          go_wp2_with fail
          have hnm : NM = (stp (48 - k) : Int) := by rw [← (PK.out.2.2.1).out, (PK.out.2.1).out]
          have HNMS := Lib.hid hnm
          clear hnm
          have HKM := Lib.hid (HK7.out.then HK9.out)
          have HA5 := Lib.hid (HA4.out.kept HK9.out (fun hf => hf))
          have HB5 := Lib.hid (HB4.out.kept HK9.out (fun hf => hf))
          have HC5 := Lib.hid (HC4.out.kept HK9.out (fun hf => hf))
          clear HA4 HB4 HC4 HK7 HK8 HK9
          go_loop [16, 17] (fun s16 s17 => ∃ (i : Nat) (y : Int), i ≤ k ∧ s16 = .int .i64 i ∧ s17 = .int .u64 y ∧ 0 ≤ y ∧ y ≤ 281474976710656 ∧ Hid (y = (stp (48 - k + i) : Int))) (fun s16 _ => k - (intOf s16).toNat)
          case atStart =>
            have hf := stp_facts ⟨48 - k, by omega⟩
            simp only at hf
            have hz := HNMS.out
            exact ⟨0, NM, by omega, rfl, rfl, by omega, by omega, HNMS.out⟩
          case round =>
            obtain ⟨i, y, hik, rfl, rfl, hy0, hy1, HY⟩ := hrel
            have hf := stp_facts ⟨48 - k + i, by omega⟩
            simp only at hf
            by_cases hlt : i < k
            · have hpos : 0 < y := by have := HY.out; have := hf.2.2 (by omega); omega
              have hf2 := stp_facts ⟨48 - k + (i + 1), by omega⟩
              simp only at hf2
              have HST : Hid (bits .and .u64 y (y - 1) = (stp (48 - k + (i + 1)) : Int)) := by
                have h := stp_step (48 - k + i) (by omega)
                have e := HY.out
                rw [← e] at h
                exact h
              obtain ⟨y', hy'⟩ : ∃ y', y' = bits .and .u64 y (y - 1) := ⟨_, rfl⟩
              have HY' := Lib.hid hy'
              have HB' : Hid (y' = (stp (48 - k + (i + 1)) : Int)) := by unfold Hid; rw [HY'.out, HST.out]
              have hb1 : 0 ≤ y' ∧ y' ≤ 281474976710656 := by have := HB'.out; omega
              clear hf hf2 hy' hy0
              go_wp2
              go_round
              case rel => exact ⟨i + 1, y', by omega, by go_num, by rw [HY'.out], hb1.1, hb1.2, HB'.out⟩
              case measure => simp [intOf]; omega
            · obtain rfl : i = k := by omega
              obtain rfl : y = 0 := by have := HY.out; have := hf.2; omega
              clear hf hlt hy0 hy1 HY
              go_wp2_with fail
              have R0 := PK.out.2.2.2.2.2.2.1
              have RAC := PK.out.2.2.2.2.2.2.2.2.2.2.2.2.2.2.2.2.2.2.1
              have RAM := PK.out.2.2.2.2.2.2.2.2.2.2.2.2.2.2.2.2.2.2.2.1
              have RZ1 := PK.out.2.2.2.2.2.2.2.2.2.2.2.2.2.2.2.2.2.2.2.2.1
              have RZ2 := PK.out.2.2.2.2.2.2.2.2.2.2.2.2.2.2.2.2.2.2.2.2.2
              have RHC := PK.out.2.2.2.2.2.2.2.2.2.2.2.2.2.1
              have RDI := PK.out.2.2.2.2.1
              have RHT := Lib.hid tells_yes
              clear PK
              have rdi := RDI.out
              rcases qc with _ | _
              · have hzz := meq [z0, z1, z2, z3, z4, z5] [z0, z1, z2, z3, z4, z5] rfl rfl
                simp only [beq_self_eq_true] at hzz
                have hzy : ∀ w, (Op.equalIn 10000 24 (.agg #[.int .u8 (z0.toNat : Int), .int .u8 (z1.toNat : Int), .int .u8 (z2.toNat : Int), .int .u8 (z3.toNat : Int), .int .u8 (z4.toNat : Int), .int .u8 (z5.toNat : Int)]) (.agg #[.int .u8 (z0.toNat : Int), .int .u8 (z1.toNat : Int), .int .u8 (z2.toNat : Int), .int .u8 (z3.toNat : Int), .int .u8 (z4.toNat : Int), .int .u8 (z5.toNat : Int)])).run Tryd.prog w = .ok true w := hzz
                clear hzz
                refine wp_region_quiet_below (by kernel_rfl) (by kernel_rfl) ?_
                have ca0 := HA5.out.gcell 0
                have ca1 := HA5.out.gcell 1
                have ca2 := HA5.out.gcell 2
                have ca3 := HA5.out.gcell 3
                have ca4 := HA5.out.gcell 4
                have ca5 := HA5.out.gcell 5
                simp at ca0 ca1 ca2 ca3 ca4 ca5
                have cb0 := HB5.out.gcell 0
                have cb1 := HB5.out.gcell 1
                have cb2 := HB5.out.gcell 2
                have cb3 := HB5.out.gcell 3
                have cb4 := HB5.out.gcell 4
                have cb5 := HB5.out.gcell 5
                simp at cb0 cb1 cb2 cb3 cb4 cb5
                have cc0 := HC5.out.gcell 0
                have cc1 := HC5.out.gcell 1
                have cc2 := HC5.out.gcell 2
                have cc3 := HC5.out.gcell 3
                have cc4 := HC5.out.gcell 4
                have cc5 := HC5.out.gcell 5
                simp at cc0 cc1 cc2 cc3 cc4 cc5
                repeat (go_big_quiet_step (first | (with_reducible exact quietK (RHC.out _)) | (with_reducible exact quietK (RAC.out _)) | (with_reducible exact quietK (RAM.out _)) | (with_reducible exact quietK (RZ1.out _)) | (with_reducible exact quietK (RZ2.out _)) | (with_reducible exact quietK (R0.out _)) | (with_reducible exact quietK (RHT.out _))))
                refine wpQuiet_nil ?_
                rintro wn ⟨nq, hw⟩
                have hkn := Lib.hid (show Kept Nil w2 wn by rw [hw]; exact kept_grown _ _)
                clear hw
                go_wp2_with fail
                go_ret
                exact ⟨rfl, (HKM.out.then hkn.out).below (Nat.le_refl _) (fun k hf => hf.elim)⟩
              · have hzz := meq [z0, z1, z2, z3, z4, z5] [z0, z1, z2, z3, z4, z5] rfl rfl
                simp only [beq_self_eq_true] at hzz
                have hzy : ∀ w, (Op.equalIn 10000 24 (.agg #[.int .u8 (z0.toNat : Int), .int .u8 (z1.toNat : Int), .int .u8 (z2.toNat : Int), .int .u8 (z3.toNat : Int), .int .u8 (z4.toNat : Int), .int .u8 (z5.toNat : Int)]) (.agg #[.int .u8 (z0.toNat : Int), .int .u8 (z1.toNat : Int), .int .u8 (z2.toNat : Int), .int .u8 (z3.toNat : Int), .int .u8 (z4.toNat : Int), .int .u8 (z5.toNat : Int)])).run Tryd.prog w = .ok true w := hzz
                clear hzz
                refine wp_region_quiet_below (by kernel_rfl) (by kernel_rfl) ?_
                have ca0 := HA5.out.gcell 0
                have ca1 := HA5.out.gcell 1
                have ca2 := HA5.out.gcell 2
                have ca3 := HA5.out.gcell 3
                have ca4 := HA5.out.gcell 4
                have ca5 := HA5.out.gcell 5
                simp at ca0 ca1 ca2 ca3 ca4 ca5
                have cb0 := HB5.out.gcell 0
                have cb1 := HB5.out.gcell 1
                have cb2 := HB5.out.gcell 2
                have cb3 := HB5.out.gcell 3
                have cb4 := HB5.out.gcell 4
                have cb5 := HB5.out.gcell 5
                simp at cb0 cb1 cb2 cb3 cb4 cb5
                have cc0 := HC5.out.gcell 0
                have cc1 := HC5.out.gcell 1
                have cc2 := HC5.out.gcell 2
                have cc3 := HC5.out.gcell 3
                have cc4 := HC5.out.gcell 4
                have cc5 := HC5.out.gcell 5
                simp at cc0 cc1 cc2 cc3 cc4 cc5
                repeat (go_big_quiet_step (first | (with_reducible exact quietK (RHC.out _)) | (with_reducible exact quietK (RAC.out _)) | (with_reducible exact quietK (RAM.out _)) | (with_reducible exact quietK (RZ1.out _)) | (with_reducible exact quietK (RZ2.out _)) | (with_reducible exact quietK (R0.out _)) | (with_reducible exact quietK (RHT.out _))))
                refine wpQuiet_nil ?_
                rintro wn ⟨nq, hw⟩
                have hkn := Lib.hid (show Kept Nil w2 wn by rw [hw]; exact kept_grown _ _)
                clear hw
                go_wp2_with fail
                go_ret
                exact ⟨rfl, (HKM.out.then hkn.out).below (Nat.le_refl _) (fun k hf => hf.elim)⟩
theorem masks_go (a0 a1 a2 a3 a4 a5 b0 b1 b2 b3 b4 b5 c0 c1 c2 c3 c4 c5 : UInt8) (x : Int) (w : World) (h : (Lit.int .u8 x).wf = true) :
    Calls Tryd.prog 6 #[.agg #[.int .u8 (a0.toNat : Int), .int .u8 (a1.toNat : Int), .int .u8 (a2.toNat : Int), .int .u8 (a3.toNat : Int), .int .u8 (a4.toNat : Int), .int .u8 (a5.toNat : Int)], .agg #[.int .u8 (b0.toNat : Int), .int .u8 (b1.toNat : Int), .int .u8 (b2.toNat : Int), .int .u8 (b3.toNat : Int), .int .u8 (b4.toNat : Int), .int .u8 (b5.toNat : Int)], .agg #[.int .u8 (c0.toNat : Int), .int .u8 (c1.toNat : Int), .int .u8 (c2.toNat : Int), .int .u8 (c3.toNat : Int), .int .u8 (c4.toNat : Int), .int .u8 (c5.toNat : Int)], .int .u8 x] w fun r w' => r = .returned (.bool true) ∧ Below w.heap.size w w' :=
  masks_all a0 a1 a2 a3 a4 a5 b0 b1 b2 b3 b4 b5 c0 c1 c2 c3 c4 c5 x (wfu8 x h).1 (by have := (wfu8 x h).2; omega) w
end Go.Proofs.YtjfffddaiefggabDoor
