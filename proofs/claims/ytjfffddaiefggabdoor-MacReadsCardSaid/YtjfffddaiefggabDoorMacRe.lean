/- tolllaw02.MacReads: the walk. -/
import Derived.Test.YtjfffddaiefggabDoorRefS
import Derived.Test.YtjfffddaiefggabDoorMacT
import Derived.Test.YtjfffddaiefggabDoorLaid
import Derived.Test.YtjfffddaiefggabDoorFrame
namespace Go.Proofs.YtjfffddaiefggabDoor
open Go.RowKit Go.Sort Go.BigFrame
set_option linter.unusedVariables false

theorem puP_form (o : Option (List UInt8)) (h : ∀ bs, o = some bs → bs.length = 6) : ∃ (v0 v1 v2 v3 v4 v5 : UInt8) (ev : Int), puP o = .tuple #[mv [v0, v1, v2, v3, v4, v5], .int .i64 ev] := by
  rcases o with _ | bs
  · exact ⟨0, 0, 0, 0, 0, 0, 5, rfl⟩
  · obtain ⟨v0, v1, v2, v3, v4, v5, rfl⟩ := six bs (h _ rfl)
    exact ⟨v0, v1, v2, v3, v4, v5, 0, rfl⟩
theorem ppt_len (l a m : List UInt8) (h : ppt l = .ok (a, m)) : a.length = 6 ∧ m.length = 6 := by
  unfold ppt at h
  split at h
  · cases h
  · rename_i b hb
    have hl := prs_len _ _ hb
    split at h
    · cases h
      exact ⟨by simp [andL, hl], rfl⟩
    · split at h
      · cases h
      · rename_i m' hm'
        have hl2 := pmk_len _ _ hm'
        cases h
        exact ⟨by simp [andL, hl, hl2], hl2⟩
theorem puX_form (l : List UInt8) : ∃ (a0 a1 a2 a3 a4 a5 m0 m1 m2 m3 m4 m5 : UInt8) (ev : Int), puX (ppt l) = .tuple #[.agg #[.int .u8 (a0.toNat : Int), .int .u8 (a1.toNat : Int), .int .u8 (a2.toNat : Int), .int .u8 (a3.toNat : Int), .int .u8 (a4.toNat : Int), .int .u8 (a5.toNat : Int), .int .u8 (m0.toNat : Int), .int .u8 (m1.toNat : Int), .int .u8 (m2.toNat : Int), .int .u8 (m3.toNat : Int), .int .u8 (m4.toNat : Int), .int .u8 (m5.toNat : Int)], .int .i64 ev] := by
  rcases h : ppt l with e | ⟨a, m⟩
  · exact ⟨0, 0, 0, 0, 0, 0, 0, 0, 0, 0, 0, 0, (e : Int), rfl⟩
  · obtain ⟨h1, h2⟩ := ppt_len _ _ _ h
    obtain ⟨a0, a1, a2, a3, a4, a5, rfl⟩ := six a h1
    obtain ⟨m0, m1, m2, m3, m4, m5, rfl⟩ := six m h2
    exact ⟨a0, a1, a2, a3, a4, a5, m0, m1, m2, m3, m4, m5, 0, rfl⟩
theorem reads_tail (t : ByteArray) (ht : t.size ≤ 60) : ∃ (v0 v1 v2 v3 v4 v5 a0 a1 a2 a3 a4 a5 m0 m1 m2 m3 m4 m5 : UInt8) (ev eq : Int),
    (∀ w, Syn w → Calls Tryd.prog 27 #[.string t] w fun e w' => e = .returned (.tuple #[.agg #[.int .u8 (v0.toNat : Int), .int .u8 (v1.toNat : Int), .int .u8 (v2.toNat : Int), .int .u8 (v3.toNat : Int), .int .u8 (v4.toNat : Int), .int .u8 (v5.toNat : Int)], .int .i64 ev]) ∧ Kept Nil w w') ∧
    (∀ w, Calls Tryd.prog 28 #[.string t] w fun e w' => e = .returned (.tuple #[.agg #[.int .u8 (v0.toNat : Int), .int .u8 (v1.toNat : Int), .int .u8 (v2.toNat : Int), .int .u8 (v3.toNat : Int), .int .u8 (v4.toNat : Int), .int .u8 (v5.toNat : Int)], .int .i64 ev]) ∧ Kept Nil w w') ∧
    (∀ w, Syn w → Calls Tryd.prog 29 #[.string t] w fun e w' => e = .returned (.tuple #[.agg #[.int .u8 (a0.toNat : Int), .int .u8 (a1.toNat : Int), .int .u8 (a2.toNat : Int), .int .u8 (a3.toNat : Int), .int .u8 (a4.toNat : Int), .int .u8 (a5.toNat : Int), .int .u8 (m0.toNat : Int), .int .u8 (m1.toNat : Int), .int .u8 (m2.toNat : Int), .int .u8 (m3.toNat : Int), .int .u8 (m4.toNat : Int), .int .u8 (m5.toNat : Int)], .int .i64 eq]) ∧ Kept Nil w w') ∧
    (∀ w, Calls Tryd.prog 30 #[.string t] w fun e w' => e = .returned (.tuple #[.agg #[.int .u8 (a0.toNat : Int), .int .u8 (a1.toNat : Int), .int .u8 (a2.toNat : Int), .int .u8 (a3.toNat : Int), .int .u8 (a4.toNat : Int), .int .u8 (a5.toNat : Int), .int .u8 (m0.toNat : Int), .int .u8 (m1.toNat : Int), .int .u8 (m2.toNat : Int), .int .u8 (m3.toNat : Int), .int .u8 (m4.toNat : Int), .int .u8 (m5.toNat : Int)], .int .i64 eq]) ∧ Kept Nil w w') := by
  obtain ⟨v0, v1, v2, v3, v4, v5, ev, hv⟩ := puP_form (prs t.data.toList) (fun bs h => prs_len _ _ h)
  obtain ⟨a0, a1, a2, a3, a4, a5, m0, m1, m2, m3, m4, m5, eq, hx⟩ := puX_form t.data.toList
  refine ⟨v0, v1, v2, v3, v4, v5, a0, a1, a2, a3, a4, a5, m0, m1, m2, m3, m4, m5, ev, eq, fun w hS => ?_, fun w => ?_, fun w hS => ?_, fun w => ?_⟩
  · have h := Parse_any t (by omega) w hS
    rw [hv] at h
    exact h
  · have h := RParse_any t (by omega) w
    rw [hv] at h
    exact h
  · have h := PPat_any t (by omega) w hS
    rw [hx] at h
    exact h
  · have h := RPPat_any t (by omega) w
    rw [hx] at h
    exact h

set_option maxHeartbeats 8000000 in
set_option maxRecDepth 100000 in
theorem reads_all (s : ByteArray) (hs63 : s.size ≤ 9223372036854775807) (w : World) (hS : Syn w) :
    Calls Tryd.prog 4 #[.string s] w fun r w' => r = .returned (.bool true) ∧ Below w.heap.size w w' := by
  have hs0 : (0 : Int) ≤ (s.size : Int) := by omega
  have hs1 : (s.size : Int) ≤ 9223372036854775807 := by omega
  have HS := Lib.hid hS
  clear hS
  obtain ⟨v0, v1, v2, v3, v4, v5, a0, a1, a2, a3, a4, a5, m0, m1, m2, m3, m4, m5, ev, eq, c1, c2, c3, c4⟩ := reads_tail (s.extract 0 (min (s.size : Int) 60).toNat) (by rw [ByteArray.size_extract]; omega)
  have e1 : ∀ w, (Op.equalIn 10000 24 (.agg #[.int .u8 (v0.toNat : Int), .int .u8 (v1.toNat : Int), .int .u8 (v2.toNat : Int), .int .u8 (v3.toNat : Int), .int .u8 (v4.toNat : Int), .int .u8 (v5.toNat : Int)]) (.agg #[.int .u8 (v0.toNat : Int), .int .u8 (v1.toNat : Int), .int .u8 (v2.toNat : Int), .int .u8 (v3.toNat : Int), .int .u8 (v4.toNat : Int), .int .u8 (v5.toNat : Int)])).run Tryd.prog w = .ok true w := fun w => by
    have h := meq [v0, v1, v2, v3, v4, v5] [v0, v1, v2, v3, v4, v5] rfl rfl w
    rw [beq_self_eq_true] at h
    exact h
  have e2 : ∀ w, (Op.equalIn 10000 24 (.agg #[.int .u8 (a0.toNat : Int), .int .u8 (a1.toNat : Int), .int .u8 (a2.toNat : Int), .int .u8 (a3.toNat : Int), .int .u8 (a4.toNat : Int), .int .u8 (a5.toNat : Int)]) (.agg #[.int .u8 (a0.toNat : Int), .int .u8 (a1.toNat : Int), .int .u8 (a2.toNat : Int), .int .u8 (a3.toNat : Int), .int .u8 (a4.toNat : Int), .int .u8 (a5.toNat : Int)])).run Tryd.prog w = .ok true w := fun w => by
    have h := meq [a0, a1, a2, a3, a4, a5] [a0, a1, a2, a3, a4, a5] rfl rfl w
    rw [beq_self_eq_true] at h
    exact h
  have e3 : ∀ w, (Op.equalIn 10000 24 (.agg #[.int .u8 (m0.toNat : Int), .int .u8 (m1.toNat : Int), .int .u8 (m2.toNat : Int), .int .u8 (m3.toNat : Int), .int .u8 (m4.toNat : Int), .int .u8 (m5.toNat : Int)]) (.agg #[.int .u8 (m0.toNat : Int), .int .u8 (m1.toNat : Int), .int .u8 (m2.toNat : Int), .int .u8 (m3.toNat : Int), .int .u8 (m4.toNat : Int), .int .u8 (m5.toNat : Int)])).run Tryd.prog w = .ok true w := fun w => by
    have h := meq [m0, m1, m2, m3, m4, m5] [m0, m1, m2, m3, m4, m5] rfl rfl w
    rw [beq_self_eq_true] at h
    exact h
  have C1 := Lib.hid c1
  have C2 := Lib.hid c2
  have C3 := Lib.hid c3
  have C4 := Lib.hid c4
  clear c1 c2 c3 c4
  go_enter Tryd.func4, Tryd.ntmps4
  go_wp2_with fail
  refine (C1.out _ HS.out).mono ?_
  rintro r w1 ⟨rfl, hk1⟩
  have KT := Lib.hid (hk1.alloc (.cells #[.int .u8 (v0.toNat : Int), .int .u8 (v1.toNat : Int), .int .u8 (v2.toNat : Int), .int .u8 (v3.toNat : Int), .int .u8 (v4.toNat : Int), .int .u8 (v5.toNat : Int)] 24))
  have B3 := Lib.hid (Blo.new w1 24 #[.int .u8 (v0.toNat : Int), .int .u8 (v1.toNat : Int), .int .u8 (v2.toNat : Int), .int .u8 (v3.toNat : Int), .int .u8 (v4.toNat : Int), .int .u8 (v5.toNat : Int)])
  clear hk1
  go_wp2_with fail
  refine (C2.out _).mono ?_
  rintro r w2 ⟨rfl, hk2⟩
  have hz2 : w1.heap.size < w2.heap.size := (B3.out.kept hk2 (fun hf => hf)).lt
  have KT := Lib.hid ((KT.out.then hk2).alloc (.cells #[.int .u8 (v0.toNat : Int), .int .u8 (v1.toNat : Int), .int .u8 (v2.toNat : Int), .int .u8 (v3.toNat : Int), .int .u8 (v4.toNat : Int), .int .u8 (v5.toNat : Int)] 22))
  have B3 := Lib.hid ((B3.out.kept hk2 (fun hf => hf)).alloc (.cells #[.int .u8 (v0.toNat : Int), .int .u8 (v1.toNat : Int), .int .u8 (v2.toNat : Int), .int .u8 (v3.toNat : Int), .int .u8 (v4.toNat : Int), .int .u8 (v5.toNat : Int)] 22))
  have B5 := Lib.hid (Blo.new w2 22 #[.int .u8 (v0.toNat : Int), .int .u8 (v1.toNat : Int), .int .u8 (v2.toNat : Int), .int .u8 (v3.toNat : Int), .int .u8 (v4.toNat : Int), .int .u8 (v5.toNat : Int)])
  clear hk2
  go_wp2_with fail
  refine (C3.out _ (HS.out.kept KT.out)).mono ?_
  rintro r w3 ⟨rfl, hk3⟩
  have hz3 : w2.heap.size < w3.heap.size := (B5.out.kept hk3 (fun hf => hf)).lt
  have KT := Lib.hid ((KT.out.then hk3).alloc (.cells #[.int .u8 (a0.toNat : Int), .int .u8 (a1.toNat : Int), .int .u8 (a2.toNat : Int), .int .u8 (a3.toNat : Int), .int .u8 (a4.toNat : Int), .int .u8 (a5.toNat : Int), .int .u8 (m0.toNat : Int), .int .u8 (m1.toNat : Int), .int .u8 (m2.toNat : Int), .int .u8 (m3.toNat : Int), .int .u8 (m4.toNat : Int), .int .u8 (m5.toNat : Int)] 26))
  have B3 := Lib.hid ((B3.out.kept hk3 (fun hf => hf)).alloc (.cells #[.int .u8 (a0.toNat : Int), .int .u8 (a1.toNat : Int), .int .u8 (a2.toNat : Int), .int .u8 (a3.toNat : Int), .int .u8 (a4.toNat : Int), .int .u8 (a5.toNat : Int), .int .u8 (m0.toNat : Int), .int .u8 (m1.toNat : Int), .int .u8 (m2.toNat : Int), .int .u8 (m3.toNat : Int), .int .u8 (m4.toNat : Int), .int .u8 (m5.toNat : Int)] 26))
  have B5 := Lib.hid ((B5.out.kept hk3 (fun hf => hf)).alloc (.cells #[.int .u8 (a0.toNat : Int), .int .u8 (a1.toNat : Int), .int .u8 (a2.toNat : Int), .int .u8 (a3.toNat : Int), .int .u8 (a4.toNat : Int), .int .u8 (a5.toNat : Int), .int .u8 (m0.toNat : Int), .int .u8 (m1.toNat : Int), .int .u8 (m2.toNat : Int), .int .u8 (m3.toNat : Int), .int .u8 (m4.toNat : Int), .int .u8 (m5.toNat : Int)] 26))
  have B7 := Lib.hid (Blo.new w3 26 #[.int .u8 (a0.toNat : Int), .int .u8 (a1.toNat : Int), .int .u8 (a2.toNat : Int), .int .u8 (a3.toNat : Int), .int .u8 (a4.toNat : Int), .int .u8 (a5.toNat : Int), .int .u8 (m0.toNat : Int), .int .u8 (m1.toNat : Int), .int .u8 (m2.toNat : Int), .int .u8 (m3.toNat : Int), .int .u8 (m4.toNat : Int), .int .u8 (m5.toNat : Int)])
  clear hk3
  go_wp2_with fail
  refine (C4.out _).mono ?_
  rintro r w4 ⟨rfl, hk4⟩
  have hz4 : w3.heap.size < w4.heap.size := (B7.out.kept hk4 (fun hf => hf)).lt
  have KT := Lib.hid ((KT.out.then hk4).alloc (.cells #[.int .u8 (a0.toNat : Int), .int .u8 (a1.toNat : Int), .int .u8 (a2.toNat : Int), .int .u8 (a3.toNat : Int), .int .u8 (a4.toNat : Int), .int .u8 (a5.toNat : Int), .int .u8 (m0.toNat : Int), .int .u8 (m1.toNat : Int), .int .u8 (m2.toNat : Int), .int .u8 (m3.toNat : Int), .int .u8 (m4.toNat : Int), .int .u8 (m5.toNat : Int)] 28))
  have B3 := Lib.hid ((B3.out.kept hk4 (fun hf => hf)).alloc (.cells #[.int .u8 (a0.toNat : Int), .int .u8 (a1.toNat : Int), .int .u8 (a2.toNat : Int), .int .u8 (a3.toNat : Int), .int .u8 (a4.toNat : Int), .int .u8 (a5.toNat : Int), .int .u8 (m0.toNat : Int), .int .u8 (m1.toNat : Int), .int .u8 (m2.toNat : Int), .int .u8 (m3.toNat : Int), .int .u8 (m4.toNat : Int), .int .u8 (m5.toNat : Int)] 28))
  have B5 := Lib.hid ((B5.out.kept hk4 (fun hf => hf)).alloc (.cells #[.int .u8 (a0.toNat : Int), .int .u8 (a1.toNat : Int), .int .u8 (a2.toNat : Int), .int .u8 (a3.toNat : Int), .int .u8 (a4.toNat : Int), .int .u8 (a5.toNat : Int), .int .u8 (m0.toNat : Int), .int .u8 (m1.toNat : Int), .int .u8 (m2.toNat : Int), .int .u8 (m3.toNat : Int), .int .u8 (m4.toNat : Int), .int .u8 (m5.toNat : Int)] 28))
  have B7 := Lib.hid ((B7.out.kept hk4 (fun hf => hf)).alloc (.cells #[.int .u8 (a0.toNat : Int), .int .u8 (a1.toNat : Int), .int .u8 (a2.toNat : Int), .int .u8 (a3.toNat : Int), .int .u8 (a4.toNat : Int), .int .u8 (a5.toNat : Int), .int .u8 (m0.toNat : Int), .int .u8 (m1.toNat : Int), .int .u8 (m2.toNat : Int), .int .u8 (m3.toNat : Int), .int .u8 (m4.toNat : Int), .int .u8 (m5.toNat : Int)] 28))
  have B9 := Lib.hid (Blo.new w4 28 #[.int .u8 (a0.toNat : Int), .int .u8 (a1.toNat : Int), .int .u8 (a2.toNat : Int), .int .u8 (a3.toNat : Int), .int .u8 (a4.toNat : Int), .int .u8 (a5.toNat : Int), .int .u8 (m0.toNat : Int), .int .u8 (m1.toNat : Int), .int .u8 (m2.toNat : Int), .int .u8 (m3.toNat : Int), .int .u8 (m4.toNat : Int), .int .u8 (m5.toNat : Int)])
  clear hk4
  go_upto_region 6 with (fail)
  obtain ⟨W, hW⟩ : ∃ W, W = w4.alloc (.cells #[.int .u8 (a0.toNat : Int), .int .u8 (a1.toNat : Int), .int .u8 (a2.toNat : Int), .int .u8 (a3.toNat : Int), .int .u8 (a4.toNat : Int), .int .u8 (a5.toNat : Int), .int .u8 (m0.toNat : Int), .int .u8 (m1.toNat : Int), .int .u8 (m2.toNat : Int), .int .u8 (m3.toNat : Int), .int .u8 (m4.toNat : Int), .int .u8 (m5.toNat : Int)] 28) := ⟨_, rfl⟩
  rw [← hW] at KT B3 B5 B7 B9 ⊢
  clear hW
  have x0 := B3.out.cell 0
  have x1 := B3.out.cell 1
  have x2 := B3.out.cell 2
  have x3 := B3.out.cell 3
  have x4 := B3.out.cell 4
  have x5 := B3.out.cell 5
  simp at x0 x1 x2 x3 x4 x5
  have y0 := B5.out.cell 0
  have y1 := B5.out.cell 1
  have y2 := B5.out.cell 2
  have y3 := B5.out.cell 3
  have y4 := B5.out.cell 4
  have y5 := B5.out.cell 5
  simp at y0 y1 y2 y3 y4 y5
  have z0 := B7.out.cell 0
  have z1 := B7.out.cell 1
  have z2 := B7.out.cell 2
  have z3 := B7.out.cell 3
  have z4 := B7.out.cell 4
  have z5 := B7.out.cell 5
  have z6 := B7.out.cell 6
  have z7 := B7.out.cell 7
  have z8 := B7.out.cell 8
  have z9 := B7.out.cell 9
  have z10 := B7.out.cell 10
  have z11 := B7.out.cell 11
  simp at z0 z1 z2 z3 z4 z5 z6 z7 z8 z9 z10 z11
  have u0 := B9.out.cell 0
  have u1 := B9.out.cell 1
  have u2 := B9.out.cell 2
  have u3 := B9.out.cell 3
  have u4 := B9.out.cell 4
  have u5 := B9.out.cell 5
  have u6 := B9.out.cell 6
  have u7 := B9.out.cell 7
  have u8 := B9.out.cell 8
  have u9 := B9.out.cell 9
  have u10 := B9.out.cell 10
  have u11 := B9.out.cell 11
  simp at u0 u1 u2 u3 u4 u5 u6 u7 u8 u9 u10 u11
  go_wp2_with fail
  refine (tells_yes _).mono ?_
  rintro r w5 ⟨rfl, hk5⟩
  have KT := Lib.hid (KT.out.then hk5)
  clear hk5
  go_wp2
  go_ret
  exact ⟨rfl, KT.out.below (Nat.le_refl _) (fun k hf => hf.elim)⟩
theorem reads_go (s : ByteArray) (w : World) (hs : s.size ≤ 9223372036854775807) (h : laidMetH Tryd.prog Rows.macReadsRow.laid w) :
    Calls Tryd.prog 4 #[.string s] w fun r w' => r = .returned (.bool true) ∧ Below w.heap.size w w' :=
  reads_all s hs w (syn_of h (by kernel_rfl))
end Go.Proofs.YtjfffddaiefggabDoor
