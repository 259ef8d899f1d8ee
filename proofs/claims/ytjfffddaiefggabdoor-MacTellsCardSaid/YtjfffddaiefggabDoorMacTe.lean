/- tolllaw02.MacTells: the walk. -/
import Derived.Test.YtjfffddaiefggabDoorMacT
import Derived.Test.YtjfffddaiefggabDoorMacU
import Derived.Test.YtjfffddaiefggabDoorRefT
import Derived.Test.YtjfffddaiefggabDoorRefK
import Derived.Test.YtjfffddaiefggabDoorRefY
import Derived.Test.YtjfffddaiefggabDoorRegO
import Derived.Test.YtjfffddaiefggabDoorFrame
namespace Go.Proofs.YtjfffddaiefggabDoor
open Go.RowKit Go.Sort Go.BigFrame
set_option linter.unusedVariables false

set_option maxRecDepth 100000 in
set_option maxHeartbeats 16000000 in
theorem tells_all (a0 a1 a2 a3 a4 a5 m0 m1 m2 m3 m4 m5 : UInt8) (n : Nat) (hn : n < 18446744073709551616) (w : World) :
    Calls Tryd.prog 3 #[.agg #[.int .u8 (a0.toNat : Int), .int .u8 (a1.toNat : Int), .int .u8 (a2.toNat : Int), .int .u8 (a3.toNat : Int), .int .u8 (a4.toNat : Int), .int .u8 (a5.toNat : Int)], .agg #[.int .u8 (m0.toNat : Int), .int .u8 (m1.toNat : Int), .int .u8 (m2.toNat : Int), .int .u8 (m3.toNat : Int), .int .u8 (m4.toNat : Int), .int .u8 (m5.toNat : Int)], .int .u64 (n : Int)] w fun r w' => r = .returned (.bool true) ∧ Below w.heap.size w w' := by
  obtain ⟨kk, hk48, hk⟩ : ∃ k : Nat, k ≤ 48 ∧ (((n : Int) % 100 - 20 < 0 ∧ k = 0) ∨ (48 < (n : Int) % 100 - 20 ∧ k = 48) ∨ (n : Int) % 100 - 20 = (k : Int)) := by
    rcases Int.lt_or_le ((n : Int) % 100 - 20) 0 with h | h
    · exact ⟨0, by omega, .inl ⟨h, rfl⟩⟩
    · rcases Int.lt_or_le 48 ((n : Int) % 100 - 20) with h2 | h2
      · exact ⟨48, by omega, .inr (.inl ⟨h2, rfl⟩)⟩
      · exact ⟨((n : Int) % 100 - 20).toNat, by omega, .inr (.inr (by omega))⟩
  obtain ⟨o0, o1, o2, o3, o4, o5, ho⟩ := six (ofL n) rfl
  obtain ⟨k0, k1, k2, k3, k4, k5, hkm⟩ := six (maskL kk) rfl
  obtain ⟨x0, x1, x2, x3, x4, x5, hx⟩ := six (andL [a0, a1, a2, a3, a4, a5] [m0, m1, m2, m3, m4, m5]) rfl
  have q1 : ∀ w, Calls Tryd.prog 9 #[.agg #[.int .u8 (a0.toNat : Int), .int .u8 (a1.toNat : Int), .int .u8 (a2.toNat : Int), .int .u8 (a3.toNat : Int), .int .u8 (a4.toNat : Int), .int .u8 (a5.toNat : Int)]] w fun r w' => r = .returned (.string ⟨(textL [a0, a1, a2, a3, a4, a5]).toArray⟩) ∧ Kept Nil w w' := Text_yes a0 a1 a2 a3 a4 a5
  have q2 : ∀ w, Calls Tryd.prog 10 #[.agg #[.int .u8 (a0.toNat : Int), .int .u8 (a1.toNat : Int), .int .u8 (a2.toNat : Int), .int .u8 (a3.toNat : Int), .int .u8 (a4.toNat : Int), .int .u8 (a5.toNat : Int)]] w fun r w' => r = .returned (.string ⟨(textL [a0, a1, a2, a3, a4, a5]).toArray⟩) ∧ Kept Nil w w' := RText_yes a0 a1 a2 a3 a4 a5
  have q3 : ∀ w, Calls Tryd.prog 11 #[.agg #[.int .u8 (a0.toNat : Int), .int .u8 (a1.toNat : Int), .int .u8 (a2.toNat : Int), .int .u8 (a3.toNat : Int), .int .u8 (a4.toNat : Int), .int .u8 (a5.toNat : Int)]] w fun r w' => r = .returned (.int .u64 (numL [a0, a1, a2, a3, a4, a5] : Int)) ∧ Kept Nil w w' := fun w => (Number_yes a0 a1 a2 a3 a4 a5 w).mono fun r w' ⟨h1, h2⟩ => ⟨h1, by rw [h2]; exact (Kept.refl Nil w).alloc _⟩
  have q4 : ∀ w, Calls Tryd.prog 12 #[.agg #[.int .u8 (a0.toNat : Int), .int .u8 (a1.toNat : Int), .int .u8 (a2.toNat : Int), .int .u8 (a3.toNat : Int), .int .u8 (a4.toNat : Int), .int .u8 (a5.toNat : Int)]] w fun r w' => r = .returned (.int .u64 (numL [a0, a1, a2, a3, a4, a5] : Int)) ∧ Kept Nil w w' := RNumber_yes a0 a1 a2 a3 a4 a5
  have q5 : ∀ w, Calls Tryd.prog 13 #[.int .u64 (n : Int)] w fun r w' => r = .returned (.agg #[.int .u8 (o0.toNat : Int), .int .u8 (o1.toNat : Int), .int .u8 (o2.toNat : Int), .int .u8 (o3.toNat : Int), .int .u8 (o4.toNat : Int), .int .u8 (o5.toNat : Int)]) ∧ Kept Nil w w' := fun w => by have h := Of_yes n hn w; rw [ho] at h; exact h
  have q6 : ∀ w, Calls Tryd.prog 14 #[.int .u64 (n : Int)] w fun r w' => r = .returned (.agg #[.int .u8 (o0.toNat : Int), .int .u8 (o1.toNat : Int), .int .u8 (o2.toNat : Int), .int .u8 (o3.toNat : Int), .int .u8 (o4.toNat : Int), .int .u8 (o5.toNat : Int)]) ∧ Kept Nil w w' := fun w => by have h := ROf_yes n hn w; rw [ho] at h; exact h
  have q7 : ∀ w, Calls Tryd.prog 15 #[.agg #[.int .u8 (a0.toNat : Int), .int .u8 (a1.toNat : Int), .int .u8 (a2.toNat : Int), .int .u8 (a3.toNat : Int), .int .u8 (a4.toNat : Int), .int .u8 (a5.toNat : Int)]] w fun r w' => r = .returned (.int .i64 (kindL [a0, a1, a2, a3, a4, a5])) ∧ Kept Nil w w' := Kind_yes a0 a1 a2 a3 a4 a5
  have q8 : ∀ w, Calls Tryd.prog 16 #[.agg #[.int .u8 (a0.toNat : Int), .int .u8 (a1.toNat : Int), .int .u8 (a2.toNat : Int), .int .u8 (a3.toNat : Int), .int .u8 (a4.toNat : Int), .int .u8 (a5.toNat : Int)]] w fun r w' => r = .returned (.int .i64 (kindL [a0, a1, a2, a3, a4, a5])) ∧ Kept Nil w w' := RKind_yes a0 a1 a2 a3 a4 a5
  have q9 : ∀ w, Calls Tryd.prog 17 #[.agg #[.int .u8 (a0.toNat : Int), .int .u8 (a1.toNat : Int), .int .u8 (a2.toNat : Int), .int .u8 (a3.toNat : Int), .int .u8 (a4.toNat : Int), .int .u8 (a5.toNat : Int)]] w fun r w' => r = .returned (.bool (a0.toNat % 2 == 1)) ∧ Kept Nil w w' := IsGroup_yes a0 a1 a2 a3 a4 a5
  have q10 : ∀ w, Calls Tryd.prog 18 #[.int .i64 ((n : Int) % 100 - 20)] w fun r w' => r = .returned (.agg #[.int .u8 (k0.toNat : Int), .int .u8 (k1.toNat : Int), .int .u8 (k2.toNat : Int), .int .u8 (k3.toNat : Int), .int .u8 (k4.toNat : Int), .int .u8 (k5.toNat : Int)]) ∧ Kept Nil w w' := fun w => by have h := Bits_at ((n : Int) % 100 - 20) kk hk48 hk w; rw [hkm] at h; exact h
  have q11 : ∀ w, Calls Tryd.prog 19 #[.int .i64 ((n : Int) % 100 - 20)] w fun r w' => r = .returned (.agg #[.int .u8 (k0.toNat : Int), .int .u8 (k1.toNat : Int), .int .u8 (k2.toNat : Int), .int .u8 (k3.toNat : Int), .int .u8 (k4.toNat : Int), .int .u8 (k5.toNat : Int)]) ∧ Kept Nil w w' := fun w => by have h := RBits_at ((n : Int) % 100 - 20) kk hk48 hk w; rw [hkm] at h; exact h
  have q12 : ∀ w, Calls Tryd.prog 20 #[.agg #[.int .u8 (a0.toNat : Int), .int .u8 (a1.toNat : Int), .int .u8 (a2.toNat : Int), .int .u8 (a3.toNat : Int), .int .u8 (a4.toNat : Int), .int .u8 (a5.toNat : Int)], .agg #[.int .u8 (m0.toNat : Int), .int .u8 (m1.toNat : Int), .int .u8 (m2.toNat : Int), .int .u8 (m3.toNat : Int), .int .u8 (m4.toNat : Int), .int .u8 (m5.toNat : Int)]] w fun r w' => r = .returned (.agg #[.int .u8 (x0.toNat : Int), .int .u8 (x1.toNat : Int), .int .u8 (x2.toNat : Int), .int .u8 (x3.toNat : Int), .int .u8 (x4.toNat : Int), .int .u8 (x5.toNat : Int)]) ∧ Kept Nil w w' := fun w => by have h : Calls Tryd.prog 20 #[.agg #[.int .u8 (a0.toNat : Int), .int .u8 (a1.toNat : Int), .int .u8 (a2.toNat : Int), .int .u8 (a3.toNat : Int), .int .u8 (a4.toNat : Int), .int .u8 (a5.toNat : Int)], .agg #[.int .u8 (m0.toNat : Int), .int .u8 (m1.toNat : Int), .int .u8 (m2.toNat : Int), .int .u8 (m3.toNat : Int), .int .u8 (m4.toNat : Int), .int .u8 (m5.toNat : Int)]] w fun r w' => r = .returned (mv (andL [a0, a1, a2, a3, a4, a5] [m0, m1, m2, m3, m4, m5])) ∧ Kept Nil w w' := Masked_yes a0 a1 a2 a3 a4 a5 m0 m1 m2 m3 m4 m5 w; rw [hx] at h; exact h
  have q13 : ∀ w, Calls Tryd.prog 21 #[.agg #[.int .u8 (a0.toNat : Int), .int .u8 (a1.toNat : Int), .int .u8 (a2.toNat : Int), .int .u8 (a3.toNat : Int), .int .u8 (a4.toNat : Int), .int .u8 (a5.toNat : Int)], .agg #[.int .u8 (m0.toNat : Int), .int .u8 (m1.toNat : Int), .int .u8 (m2.toNat : Int), .int .u8 (m3.toNat : Int), .int .u8 (m4.toNat : Int), .int .u8 (m5.toNat : Int)]] w fun r w' => r = .returned (.agg #[.int .u8 (x0.toNat : Int), .int .u8 (x1.toNat : Int), .int .u8 (x2.toNat : Int), .int .u8 (x3.toNat : Int), .int .u8 (x4.toNat : Int), .int .u8 (x5.toNat : Int)]) ∧ Kept Nil w w' := fun w => by have h : Calls Tryd.prog 21 #[.agg #[.int .u8 (a0.toNat : Int), .int .u8 (a1.toNat : Int), .int .u8 (a2.toNat : Int), .int .u8 (a3.toNat : Int), .int .u8 (a4.toNat : Int), .int .u8 (a5.toNat : Int)], .agg #[.int .u8 (m0.toNat : Int), .int .u8 (m1.toNat : Int), .int .u8 (m2.toNat : Int), .int .u8 (m3.toNat : Int), .int .u8 (m4.toNat : Int), .int .u8 (m5.toNat : Int)]] w fun r w' => r = .returned (mv (andL [a0, a1, a2, a3, a4, a5] [m0, m1, m2, m3, m4, m5])) ∧ Kept Nil w w' := RMasked_yes a0 a1 a2 a3 a4 a5 m0 m1 m2 m3 m4 m5 w; rw [hx] at h; exact h
  have q14 : ∀ w, Calls Tryd.prog 22 #[.agg #[.int .u8 (a0.toNat : Int), .int .u8 (a1.toNat : Int), .int .u8 (a2.toNat : Int), .int .u8 (a3.toNat : Int), .int .u8 (a4.toNat : Int), .int .u8 (a5.toNat : Int), .int .u8 (m0.toNat : Int), .int .u8 (m1.toNat : Int), .int .u8 (m2.toNat : Int), .int .u8 (m3.toNat : Int), .int .u8 (m4.toNat : Int), .int .u8 (m5.toNat : Int)]] w fun r w' => r = .returned (.string ⟨(ptx [a0, a1, a2, a3, a4, a5] [m0, m1, m2, m3, m4, m5]).toArray⟩) ∧ Kept Nil w w' := PText_any a0 a1 a2 a3 a4 a5 m0 m1 m2 m3 m4 m5
  have q15 : ∀ w, Calls Tryd.prog 23 #[.agg #[.int .u8 (a0.toNat : Int), .int .u8 (a1.toNat : Int), .int .u8 (a2.toNat : Int), .int .u8 (a3.toNat : Int), .int .u8 (a4.toNat : Int), .int .u8 (a5.toNat : Int), .int .u8 (m0.toNat : Int), .int .u8 (m1.toNat : Int), .int .u8 (m2.toNat : Int), .int .u8 (m3.toNat : Int), .int .u8 (m4.toNat : Int), .int .u8 (m5.toNat : Int)]] w fun r w' => r = .returned (.string ⟨(ptx [a0, a1, a2, a3, a4, a5] [m0, m1, m2, m3, m4, m5]).toArray⟩) ∧ Kept Nil w w' := RPText_yes a0 a1 a2 a3 a4 a5 m0 m1 m2 m3 m4 m5
  have q16 : ∀ w, Calls Tryd.prog 24 #[.agg #[.int .u8 (a0.toNat : Int), .int .u8 (a1.toNat : Int), .int .u8 (a2.toNat : Int), .int .u8 (a3.toNat : Int), .int .u8 (a4.toNat : Int), .int .u8 (a5.toNat : Int), .int .u8 (m0.toNat : Int), .int .u8 (m1.toNat : Int), .int .u8 (m2.toNat : Int), .int .u8 (m3.toNat : Int), .int .u8 (m4.toNat : Int), .int .u8 (m5.toNat : Int)], .agg #[.int .u8 (o0.toNat : Int), .int .u8 (o1.toNat : Int), .int .u8 (o2.toNat : Int), .int .u8 (o3.toNat : Int), .int .u8 (o4.toNat : Int), .int .u8 (o5.toNat : Int)]] w fun r w' => r = .returned (.bool (andL [o0, o1, o2, o3, o4, o5] [m0, m1, m2, m3, m4, m5] == andL [a0, a1, a2, a3, a4, a5] [m0, m1, m2, m3, m4, m5])) ∧ Kept Nil w w' := Matches_yes a0 a1 a2 a3 a4 a5 m0 m1 m2 m3 m4 m5 o0 o1 o2 o3 o4 o5
  have q17 : ∀ w, Calls Tryd.prog 25 #[.agg #[.int .u8 (a0.toNat : Int), .int .u8 (a1.toNat : Int), .int .u8 (a2.toNat : Int), .int .u8 (a3.toNat : Int), .int .u8 (a4.toNat : Int), .int .u8 (a5.toNat : Int), .int .u8 (m0.toNat : Int), .int .u8 (m1.toNat : Int), .int .u8 (m2.toNat : Int), .int .u8 (m3.toNat : Int), .int .u8 (m4.toNat : Int), .int .u8 (m5.toNat : Int)], .agg #[.int .u8 (o0.toNat : Int), .int .u8 (o1.toNat : Int), .int .u8 (o2.toNat : Int), .int .u8 (o3.toNat : Int), .int .u8 (o4.toNat : Int), .int .u8 (o5.toNat : Int)]] w fun r w' => r = .returned (.bool (andL [o0, o1, o2, o3, o4, o5] [m0, m1, m2, m3, m4, m5] == andL [a0, a1, a2, a3, a4, a5] [m0, m1, m2, m3, m4, m5])) ∧ Kept Nil w w' := RMatches_yes a0 a1 a2 a3 a4 a5 m0 m1 m2 m3 m4 m5 o0 o1 o2 o3 o4 o5
  generalize textL [a0, a1, a2, a3, a4, a5] = tt at q1 q2
  generalize (numL [a0, a1, a2, a3, a4, a5] : Int) = nn at q3 q4
  generalize kindL [a0, a1, a2, a3, a4, a5] = kd at q7 q8
  generalize ptx [a0, a1, a2, a3, a4, a5] [m0, m1, m2, m3, m4, m5] = pt at q14 q15
  generalize (andL [o0, o1, o2, o3, o4, o5] [m0, m1, m2, m3, m4, m5] == andL [a0, a1, a2, a3, a4, a5] [m0, m1, m2, m3, m4, m5]) = mt at q16 q17
  have e1 : ∀ w, (Op.equalIn 10000 24 (.agg #[.int .u8 (o0.toNat : Int), .int .u8 (o1.toNat : Int), .int .u8 (o2.toNat : Int), .int .u8 (o3.toNat : Int), .int .u8 (o4.toNat : Int), .int .u8 (o5.toNat : Int)]) (.agg #[.int .u8 (o0.toNat : Int), .int .u8 (o1.toNat : Int), .int .u8 (o2.toNat : Int), .int .u8 (o3.toNat : Int), .int .u8 (o4.toNat : Int), .int .u8 (o5.toNat : Int)])).run Tryd.prog w = .ok true w := fun w => by
    have h := meq [o0, o1, o2, o3, o4, o5] [o0, o1, o2, o3, o4, o5] rfl rfl w
    rw [beq_self_eq_true] at h
    exact h
  have e2 : ∀ w, (Op.equalIn 10000 24 (.agg #[.int .u8 (k0.toNat : Int), .int .u8 (k1.toNat : Int), .int .u8 (k2.toNat : Int), .int .u8 (k3.toNat : Int), .int .u8 (k4.toNat : Int), .int .u8 (k5.toNat : Int)]) (.agg #[.int .u8 (k0.toNat : Int), .int .u8 (k1.toNat : Int), .int .u8 (k2.toNat : Int), .int .u8 (k3.toNat : Int), .int .u8 (k4.toNat : Int), .int .u8 (k5.toNat : Int)])).run Tryd.prog w = .ok true w := fun w => by
    have h := meq [k0, k1, k2, k3, k4, k5] [k0, k1, k2, k3, k4, k5] rfl rfl w
    rw [beq_self_eq_true] at h
    exact h
  have e3 : ∀ w, (Op.equalIn 10000 24 (.agg #[.int .u8 (x0.toNat : Int), .int .u8 (x1.toNat : Int), .int .u8 (x2.toNat : Int), .int .u8 (x3.toNat : Int), .int .u8 (x4.toNat : Int), .int .u8 (x5.toNat : Int)]) (.agg #[.int .u8 (x0.toNat : Int), .int .u8 (x1.toNat : Int), .int .u8 (x2.toNat : Int), .int .u8 (x3.toNat : Int), .int .u8 (x4.toNat : Int), .int .u8 (x5.toNat : Int)])).run Tryd.prog w = .ok true w := fun w => by
    have h := meq [x0, x1, x2, x3, x4, x5] [x0, x1, x2, x3, x4, x5] rfl rfl w
    rw [beq_self_eq_true] at h
    exact h
  obtain ⟨gb, hgb, hg2⟩ : ∃ gb : Bool, (a0.toNat % 2 == 1) = gb ∧ (((a0.toNat : Int) % 2 == 1) = gb) := ⟨_, rfl, by rw [Bool.eq_iff_iff]; simp; omega⟩
  rw [hgb] at q9
  have PK := Lib.hid (And.intro (Lib.hid q1) (And.intro (Lib.hid q2) (And.intro (Lib.hid q3) (And.intro (Lib.hid q4) (And.intro (Lib.hid q5) (And.intro (Lib.hid q6) (And.intro (Lib.hid q7) (And.intro (Lib.hid q8) (And.intro (Lib.hid q9) (And.intro (Lib.hid q10) (And.intro (Lib.hid q11) (And.intro (Lib.hid q12) (And.intro (Lib.hid q13) (And.intro (Lib.hid q14) (And.intro (Lib.hid q15) (And.intro (Lib.hid q16) (Lib.hid q17)))))))))))))))))
  clear q1 q2 q3 q4 q5 q6 q7 q8 q9 q10 q11 q12 q13 q14 q15 q16 q17
  clear hk hkm ho hx hgb
  go_enter Tryd.func3, Tryd.ntmps3
  go_upto_region 1 with (fail)
  obtain ⟨W, hW⟩ : ∃ W, W = (w.alloc (.cells #[.int .u8 (a0.toNat : Int), .int .u8 (a1.toNat : Int), .int .u8 (a2.toNat : Int), .int .u8 (a3.toNat : Int), .int .u8 (a4.toNat : Int), .int .u8 (a5.toNat : Int)] 22)).alloc (.cells #[.int .u8 (m0.toNat : Int), .int .u8 (m1.toNat : Int), .int .u8 (m2.toNat : Int), .int .u8 (m3.toNat : Int), .int .u8 (m4.toNat : Int), .int .u8 (m5.toNat : Int)] 22) := ⟨_, rfl⟩
  rw [← hW]
  have H3 : Hid (Blo W w.heap.size 22 #[.int .u8 (a0.toNat : Int), .int .u8 (a1.toNat : Int), .int .u8 (a2.toNat : Int), .int .u8 (a3.toNat : Int), .int .u8 (a4.toNat : Int), .int .u8 (a5.toNat : Int)]) := by unfold Hid; rw [hW]; exact (Blo.at_new (by simp)).alloc _
  have H4 : Hid (Blo W (w.heap.size + 1) 22 #[.int .u8 (m0.toNat : Int), .int .u8 (m1.toNat : Int), .int .u8 (m2.toNat : Int), .int .u8 (m3.toNat : Int), .int .u8 (m4.toNat : Int), .int .u8 (m5.toNat : Int)]) := by unfold Hid; rw [hW]; exact Blo.at_new (by simp)
  have KW : Hid (Kept Nil w W) := by unfold Hid; rw [hW]; exact ((Kept.refl Nil w).alloc _).alloc _
  clear hW
  generalize hg3 : w.heap.size = g3 at *
  generalize hg4 : g3 + 1 = g4 at *
  go_cut [7, 8] (fun s7 s8 wx => ∃ g7 g8 : Nat, s7 = .pointer (some ⟨g7, 0, none⟩) ∧ s8 = .pointer (some ⟨g8, 0, none⟩) ∧ Hid (Blo wx g7 24 #[.int .u8 (a0.toNat : Int), .int .u8 (a1.toNat : Int), .int .u8 (a2.toNat : Int), .int .u8 (a3.toNat : Int), .int .u8 (a4.toNat : Int), .int .u8 (a5.toNat : Int)]) ∧ Hid (Blo wx g8 24 #[.int .u8 (m0.toNat : Int), .int .u8 (m1.toNat : Int), .int .u8 (m2.toNat : Int), .int .u8 (m3.toNat : Int), .int .u8 (m4.toNat : Int), .int .u8 (m5.toNat : Int)]) ∧ Hid (Kept Nil W wx))
  case first =>
    clear PK
    refine wp_region_own2 (fun _ => #[.int .u8 0, .int .u8 0, .int .u8 0, .int .u8 0, .int .u8 0, .int .u8 0]) 2 (by kernel_rfl) (by kernel_rfl) (by kernel_rfl) ?_
    apply Exists.intro
    refine And.intro ?hq ?ht
    case hq =>
      intro V hV
      have b3 := H3.out.kept hV (fun hf => hf)
      have b4 := H4.out.kept hV (fun hf => hf)
      have ca0 := b3.gcell 0
      have ca1 := b3.gcell 1
      have ca2 := b3.gcell 2
      have ca3 := b3.gcell 3
      have ca4 := b3.gcell 4
      have ca5 := b3.gcell 5
      simp at ca0 ca1 ca2 ca3 ca4 ca5
      have cb0 := b4.gcell 0
      have cb1 := b4.gcell 1
      have cb2 := b4.gcell 2
      have cb3 := b4.gcell 3
      have cb4 := b4.gcell 4
      have cb5 := b4.gcell 5
      simp at cb0 cb1 cb2 cb3 cb4 cb5
      clear b3 b4
      dsimp only [List.take]
      repeat (go_big_quiet_step (fail))
      exact wpQuiet_nil rfl
    case ht =>
      intro vs
      dsimp only [List.drop]
      refine sLex_alloc 24 rfl rfl (fun _ _ => by kernel_rfl) ?_
      intro g7 hg7 hL7
      refine sLex_alloc 24 rfl rfl (fun _ _ => by kernel_rfl) ?_
      intro g8 hg8 hL8
      have ne1 := upd_new hL8
      refine sLex_store 24 (.tmp 7) (.tmp 12) rfl rfl rfl g7 #[.int .u8 0, .int .u8 0, .int .u8 0, .int .u8 0, .int .u8 0, .int .u8 0] #[.int .u8 (a0.toNat : Int), .int .u8 (a1.toNat : Int), .int .u8 (a2.toNat : Int), .int .u8 (a3.toNat : Int), .int .u8 (a4.toNat : Int), .int .u8 (a5.toNat : Int)] (by rfl) (by simp [upd, ne1.symm]) (by rfl) rfl (by kernel_rfl) (by simp [Value.oneCell']) ?_
      refine sLex_store 24 (.tmp 8) (.tmp 13) rfl rfl rfl g8 #[.int .u8 0, .int .u8 0, .int .u8 0, .int .u8 0, .int .u8 0, .int .u8 0] #[.int .u8 (m0.toNat : Int), .int .u8 (m1.toNat : Int), .int .u8 (m2.toNat : Int), .int .u8 (m3.toNat : Int), .int .u8 (m4.toNat : Int), .int .u8 (m5.toNat : Int)] (by rfl) (by simp [upd, ne1]) (by rfl) rfl (by kernel_rfl) (by simp [Value.oneCell']) ?_
      intro w' hh
      have r7 := (hh.own g7 true #[.int .u8 (a0.toNat : Int), .int .u8 (a1.toNat : Int), .int .u8 (a2.toNat : Int), .int .u8 (a3.toNat : Int), .int .u8 (a4.toNat : Int), .int .u8 (a5.toNat : Int)] 24 (by simp [upd, ne1.symm])).2
      have r8 := (hh.own g8 true #[.int .u8 (m0.toNat : Int), .int .u8 (m1.toNat : Int), .int .u8 (m2.toNat : Int), .int .u8 (m3.toNat : Int), .int .u8 (m4.toNat : Int), .int .u8 (m5.toNat : Int)] 24 (by simp [upd, ne1])).2
      have hkk := hh.kept
      go_wp2_with fail
      go_meet
      exact ⟨g7, g8, rfl, rfl, r7, r8, hkk⟩
  case rest =>
    obtain ⟨g7, g8, rfl, rfl, H7, H8, HKC⟩ := hcut
    have H3 := Lib.hid (H3.out.kept HKC.out (fun hf => hf))
    have H4 := Lib.hid (H4.out.kept HKC.out (fun hf => hf))
    have KW := Lib.hid (KW.out.then HKC.out)
    clear HKC
    have ca0 := H7.out.cell 0
    have ca1 := H7.out.cell 1
    have ca2 := H7.out.cell 2
    have ca3 := H7.out.cell 3
    have ca4 := H7.out.cell 4
    have ca5 := H7.out.cell 5
    simp at ca0 ca1 ca2 ca3 ca4 ca5
    have cb0 := H8.out.cell 0
    have cb1 := H8.out.cell 1
    have cb2 := H8.out.cell 2
    have cb3 := H8.out.cell 3
    have cb4 := H8.out.cell 4
    have cb5 := H8.out.cell 5
    simp at cb0 cb1 cb2 cb3 cb4 cb5
    obtain ⟨V, hV⟩ : ∃ V, V = (wc.alloc (.cells #[.int .u8 (a0.toNat : Int), .int .u8 (a1.toNat : Int), .int .u8 (a2.toNat : Int), .int .u8 (a3.toNat : Int), .int .u8 (a4.toNat : Int), .int .u8 (a5.toNat : Int), .int .u8 (m0.toNat : Int), .int .u8 (m1.toNat : Int), .int .u8 (m2.toNat : Int), .int .u8 (m3.toNat : Int), .int .u8 (m4.toNat : Int), .int .u8 (m5.toNat : Int)] 26)) := ⟨_, rfl⟩
    have H9 : Hid (Blo V wc.heap.size 26 #[.int .u8 (a0.toNat : Int), .int .u8 (a1.toNat : Int), .int .u8 (a2.toNat : Int), .int .u8 (a3.toNat : Int), .int .u8 (a4.toNat : Int), .int .u8 (a5.toNat : Int), .int .u8 (m0.toNat : Int), .int .u8 (m1.toNat : Int), .int .u8 (m2.toNat : Int), .int .u8 (m3.toNat : Int), .int .u8 (m4.toNat : Int), .int .u8 (m5.toNat : Int)]) := by unfold Hid; rw [hV]; exact Blo.at_new rfl
    have J3 : Hid (Blo V g3 22 #[.int .u8 (a0.toNat : Int), .int .u8 (a1.toNat : Int), .int .u8 (a2.toNat : Int), .int .u8 (a3.toNat : Int), .int .u8 (a4.toNat : Int), .int .u8 (a5.toNat : Int)]) := by unfold Hid; rw [hV]; exact H3.out.alloc _
    have J4 : Hid (Blo V g4 22 #[.int .u8 (m0.toNat : Int), .int .u8 (m1.toNat : Int), .int .u8 (m2.toNat : Int), .int .u8 (m3.toNat : Int), .int .u8 (m4.toNat : Int), .int .u8 (m5.toNat : Int)]) := by unfold Hid; rw [hV]; exact H4.out.alloc _
    have J7 : Hid (Blo V g7 24 #[.int .u8 (a0.toNat : Int), .int .u8 (a1.toNat : Int), .int .u8 (a2.toNat : Int), .int .u8 (a3.toNat : Int), .int .u8 (a4.toNat : Int), .int .u8 (a5.toNat : Int)]) := by unfold Hid; rw [hV]; exact H7.out.alloc _
    have J8 : Hid (Blo V g8 24 #[.int .u8 (m0.toNat : Int), .int .u8 (m1.toNat : Int), .int .u8 (m2.toNat : Int), .int .u8 (m3.toNat : Int), .int .u8 (m4.toNat : Int), .int .u8 (m5.toNat : Int)]) := by unfold Hid; rw [hV]; exact H8.out.alloc _
    have KV : Hid (Kept Nil w V) := by unfold Hid; rw [hV]; exact KW.out.alloc _
    go_upto_region 3 with (fail)
    rw [← hV]
    clear hV ca0 cb0 ca1 cb1 ca2 cb2 ca3 cb3 ca4 cb4 ca5 cb5 H3 H4 H7 H8 KW
    generalize hg9 : wc.heap.size = g9 at *
    have ca0 := J3.out.cell 0
    have ca1 := J3.out.cell 1
    have ca2 := J3.out.cell 2
    have ca3 := J3.out.cell 3
    have ca4 := J3.out.cell 4
    have ca5 := J3.out.cell 5
    simp at ca0 ca1 ca2 ca3 ca4 ca5
    have cb0 := J4.out.cell 0
    have cb1 := J4.out.cell 1
    have cb2 := J4.out.cell 2
    have cb3 := J4.out.cell 3
    have cb4 := J4.out.cell 4
    have cb5 := J4.out.cell 5
    simp at cb0 cb1 cb2 cb3 cb4 cb5
    obtain ⟨U, hU⟩ : ∃ U, U = (V.alloc (.cells #[.int .u8 (a0.toNat : Int), .int .u8 (a1.toNat : Int), .int .u8 (a2.toNat : Int), .int .u8 (a3.toNat : Int), .int .u8 (a4.toNat : Int), .int .u8 (a5.toNat : Int), .int .u8 (m0.toNat : Int), .int .u8 (m1.toNat : Int), .int .u8 (m2.toNat : Int), .int .u8 (m3.toNat : Int), .int .u8 (m4.toNat : Int), .int .u8 (m5.toNat : Int)] 28)) := ⟨_, rfl⟩
    have I10 : Hid (Blo U V.heap.size 28 #[.int .u8 (a0.toNat : Int), .int .u8 (a1.toNat : Int), .int .u8 (a2.toNat : Int), .int .u8 (a3.toNat : Int), .int .u8 (a4.toNat : Int), .int .u8 (a5.toNat : Int), .int .u8 (m0.toNat : Int), .int .u8 (m1.toNat : Int), .int .u8 (m2.toNat : Int), .int .u8 (m3.toNat : Int), .int .u8 (m4.toNat : Int), .int .u8 (m5.toNat : Int)]) := by unfold Hid; rw [hU]; exact Blo.at_new rfl
    have I3 : Hid (Blo U g3 22 #[.int .u8 (a0.toNat : Int), .int .u8 (a1.toNat : Int), .int .u8 (a2.toNat : Int), .int .u8 (a3.toNat : Int), .int .u8 (a4.toNat : Int), .int .u8 (a5.toNat : Int)]) := by unfold Hid; rw [hU]; exact J3.out.alloc _
    have I4 : Hid (Blo U g4 22 #[.int .u8 (m0.toNat : Int), .int .u8 (m1.toNat : Int), .int .u8 (m2.toNat : Int), .int .u8 (m3.toNat : Int), .int .u8 (m4.toNat : Int), .int .u8 (m5.toNat : Int)]) := by unfold Hid; rw [hU]; exact J4.out.alloc _
    have I7 : Hid (Blo U g7 24 #[.int .u8 (a0.toNat : Int), .int .u8 (a1.toNat : Int), .int .u8 (a2.toNat : Int), .int .u8 (a3.toNat : Int), .int .u8 (a4.toNat : Int), .int .u8 (a5.toNat : Int)]) := by unfold Hid; rw [hU]; exact J7.out.alloc _
    have I8 : Hid (Blo U g8 24 #[.int .u8 (m0.toNat : Int), .int .u8 (m1.toNat : Int), .int .u8 (m2.toNat : Int), .int .u8 (m3.toNat : Int), .int .u8 (m4.toNat : Int), .int .u8 (m5.toNat : Int)]) := by unfold Hid; rw [hU]; exact J8.out.alloc _
    have I9 : Hid (Blo U g9 26 #[.int .u8 (a0.toNat : Int), .int .u8 (a1.toNat : Int), .int .u8 (a2.toNat : Int), .int .u8 (a3.toNat : Int), .int .u8 (a4.toNat : Int), .int .u8 (a5.toNat : Int), .int .u8 (m0.toNat : Int), .int .u8 (m1.toNat : Int), .int .u8 (m2.toNat : Int), .int .u8 (m3.toNat : Int), .int .u8 (m4.toNat : Int), .int .u8 (m5.toNat : Int)]) := by unfold Hid; rw [hU]; exact H9.out.alloc _
    have KU : Hid (Kept Nil w U) := by unfold Hid; rw [hU]; exact KV.out.alloc _
    go_upto_region 4 with (fail)
    rw [← hU]
    clear hU ca0 cb0 ca1 cb1 ca2 cb2 ca3 cb3 ca4 cb4 ca5 cb5 J3 J4 J7 J8 KV H9
    generalize hg10 : V.heap.size = g10 at *
    go_upto_region 5 with (fail)
    have Rq1 := PK.out.1
    have Rq2 := PK.out.2.1
    have Rq3 := PK.out.2.2.1
    have Rq4 := PK.out.2.2.2.1
    have Rq5 := PK.out.2.2.2.2.1
    have Rq6 := PK.out.2.2.2.2.2.1
    have Rq7 := PK.out.2.2.2.2.2.2.1
    have Rq8 := PK.out.2.2.2.2.2.2.2.1
    have Rq9 := PK.out.2.2.2.2.2.2.2.2.1
    have Rq10 := PK.out.2.2.2.2.2.2.2.2.2.1
    have Rq11 := PK.out.2.2.2.2.2.2.2.2.2.2.1
    have Rq12 := PK.out.2.2.2.2.2.2.2.2.2.2.2.1
    have Rq13 := PK.out.2.2.2.2.2.2.2.2.2.2.2.2.1
    have Rq14 := PK.out.2.2.2.2.2.2.2.2.2.2.2.2.2.1
    have Rq15 := PK.out.2.2.2.2.2.2.2.2.2.2.2.2.2.2.1
    have Rq16 := PK.out.2.2.2.2.2.2.2.2.2.2.2.2.2.2.2.1
    have Rq17 := PK.out.2.2.2.2.2.2.2.2.2.2.2.2.2.2.2.2
    have RT := Lib.hid tells_yes
    clear PK
    have c3_0 := I3.out.gcell 0
    have c3_1 := I3.out.gcell 1
    have c3_2 := I3.out.gcell 2
    have c3_3 := I3.out.gcell 3
    have c3_4 := I3.out.gcell 4
    have c3_5 := I3.out.gcell 5
    simp at c3_0 c3_1 c3_2 c3_3 c3_4 c3_5
    have c4_0 := I4.out.gcell 0
    have c4_1 := I4.out.gcell 1
    have c4_2 := I4.out.gcell 2
    have c4_3 := I4.out.gcell 3
    have c4_4 := I4.out.gcell 4
    have c4_5 := I4.out.gcell 5
    simp at c4_0 c4_1 c4_2 c4_3 c4_4 c4_5
    have c7_0 := I7.out.gcell 0
    have c7_1 := I7.out.gcell 1
    have c7_2 := I7.out.gcell 2
    have c7_3 := I7.out.gcell 3
    have c7_4 := I7.out.gcell 4
    have c7_5 := I7.out.gcell 5
    simp at c7_0 c7_1 c7_2 c7_3 c7_4 c7_5
    have c8_0 := I8.out.gcell 0
    have c8_1 := I8.out.gcell 1
    have c8_2 := I8.out.gcell 2
    have c8_3 := I8.out.gcell 3
    have c8_4 := I8.out.gcell 4
    have c8_5 := I8.out.gcell 5
    simp at c8_0 c8_1 c8_2 c8_3 c8_4 c8_5
    have c9_0 := I9.out.gcell 0
    have c9_1 := I9.out.gcell 1
    have c9_2 := I9.out.gcell 2
    have c9_3 := I9.out.gcell 3
    have c9_4 := I9.out.gcell 4
    have c9_5 := I9.out.gcell 5
    have c9_6 := I9.out.gcell 6
    have c9_7 := I9.out.gcell 7
    have c9_8 := I9.out.gcell 8
    have c9_9 := I9.out.gcell 9
    have c9_10 := I9.out.gcell 10
    have c9_11 := I9.out.gcell 11
    simp at c9_0 c9_1 c9_2 c9_3 c9_4 c9_5 c9_6 c9_7 c9_8 c9_9 c9_10 c9_11
    have c10_0 := I10.out.gcell 0
    have c10_1 := I10.out.gcell 1
    have c10_2 := I10.out.gcell 2
    have c10_3 := I10.out.gcell 3
    have c10_4 := I10.out.gcell 4
    have c10_5 := I10.out.gcell 5
    have c10_6 := I10.out.gcell 6
    have c10_7 := I10.out.gcell 7
    have c10_8 := I10.out.gcell 8
    have c10_9 := I10.out.gcell 9
    have c10_10 := I10.out.gcell 10
    have c10_11 := I10.out.gcell 11
    simp at c10_0 c10_1 c10_2 c10_3 c10_4 c10_5 c10_6 c10_7 c10_8 c10_9 c10_10 c10_11
    rcases gb with _ | _ <;> rcases mt with _ | _
    all_goals
      dsimp only [List.append]
      refine wp_region_quiet_below (by kernel_rfl) (by kernel_rfl) ?_
      repeat (go_big_quiet_step (first | (with_reducible exact quietK (Rq1.out _)) | (with_reducible exact quietK (Rq2.out _)) | (with_reducible exact quietK (Rq3.out _)) | (with_reducible exact quietK (Rq4.out _)) | (with_reducible exact quietK (Rq5.out _)) | (with_reducible exact quietK (Rq6.out _)) | (with_reducible exact quietK (Rq7.out _)) | (with_reducible exact quietK (Rq8.out _)) | (with_reducible exact quietK (Rq9.out _)) | (with_reducible exact quietK (Rq10.out _)) | (with_reducible exact quietK (Rq11.out _)) | (with_reducible exact quietK (Rq12.out _)) | (with_reducible exact quietK (Rq13.out _)) | (with_reducible exact quietK (Rq14.out _)) | (with_reducible exact quietK (Rq15.out _)) | (with_reducible exact quietK (Rq16.out _)) | (with_reducible exact quietK (Rq17.out _)) | (with_reducible exact quietK (RT.out _))))
      refine wpQuiet_nil ?_
      rintro wn ⟨nq, hw⟩
      have hkn := Lib.hid (show Kept Nil U wn by rw [hw]; exact kept_grown _ _)
      clear hw
      go_wp2_with fail
      go_ret
      exact ⟨rfl, (KU.out.then hkn.out).below (by omega) (fun k hf => hf.elim)⟩
theorem tells_go (a0 a1 a2 a3 a4 a5 m0 m1 m2 m3 m4 m5 : UInt8) (x : Int) (w : World) (h : (Lit.int .u64 x).wf = true) :
    Calls Tryd.prog 3 #[.agg #[.int .u8 (a0.toNat : Int), .int .u8 (a1.toNat : Int), .int .u8 (a2.toNat : Int), .int .u8 (a3.toNat : Int), .int .u8 (a4.toNat : Int), .int .u8 (a5.toNat : Int)], .agg #[.int .u8 (m0.toNat : Int), .int .u8 (m1.toNat : Int), .int .u8 (m2.toNat : Int), .int .u8 (m3.toNat : Int), .int .u8 (m4.toNat : Int), .int .u8 (m5.toNat : Int)], .int .u64 x] w fun r w' => r = .returned (.bool true) ∧ Below w.heap.size w w' := by
  have hb : 0 ≤ x ∧ x ≤ 18446744073709551615 := by simp [Lit.wf, IntKind.min, IntKind.max, IntKind.signed, IntKind.bits] at h; omega
  obtain ⟨n, rfl⟩ := Int.eq_ofNat_of_zero_le hb.1
  exact tells_all a0 a1 a2 a3 a4 a5 m0 m1 m2 m3 m4 m5 n (by omega) w
end Go.Proofs.YtjfffddaiefggabDoor
