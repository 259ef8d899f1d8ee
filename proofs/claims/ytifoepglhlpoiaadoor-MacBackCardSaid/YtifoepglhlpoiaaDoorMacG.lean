/- Contracts of mac.parseMask and mac.ParsePattern, where they succeed. -/
import Derived.Test.YtifoepglhlpoiaaDoorMacF
import Derived.Test.YtifoepglhlpoiaaDoorMacB
namespace Go.Proofs.YtifoepglhlpoiaaDoor
open Go.RowKit
set_option linter.unusedVariables false

theorem strCut (s : ByteArray) (c : UInt8) (i : Nat) (hs : s.size ≤ 9223372036854775806) (hi : Lib.indexByte s.data.toList c = (i : Int)) (w : World) :
    Calls Tryd.prog 39 #[.string s, .string ⟨#[c]⟩] w fun e w' => e = .returned (.tuple #[.string (s.extract 0 i), .string (s.extract (i + 1) s.size), .bool true]) ∧ ∃ q, w' = w.drewN q := by
  have HC := Lib.hid (cutAt s c i hs hi)
  clear hi
  go_enter Tryd.func39, Tryd.ntmps39
  go_wp2_with fail
  refine (HC.out _).mono ?_
  rintro e w1 ⟨rfl, q, rfl⟩
  go_wp2
  go_ret3
  exact ⟨rfl, q, rfl⟩

set_option maxHeartbeats 4000000 in
set_option maxRecDepth 100000 in
theorem parseMask_ok (t : ByteArray) (hne : t.size ≠ 0) (h2 : t.size ≤ 2) (n : Nat) (h : numB 10 0 t.data.toList = some n) (hn : n ≤ 48) (w : World) :
    Calls Tryd.prog 40 #[.string t] w fun e w' => e = .returned (.tuple #[mv (maskL n), .int .i64 0]) ∧ Kept Nil w w' := by
  have HP := Lib.hid (pub10 t hne h2 n h)
  have HBI := Lib.hid (Bits_at (n : Int) n hn (.inr (.inr rfl)))
  have HZ := Lib.hid (Blo.new w 24 #[.int .u8 0, .int .u8 0, .int .u8 0, .int .u8 0, .int .u8 0, .int .u8 0])
  obtain ⟨a, b, c, d, e, f, hm⟩ := six (maskL n) rfl
  have HM := Lib.hid hm
  clear h hm hne
  go_enter Tryd.func40, Tryd.ntmps40
  go_wp2_with fail
  refine (HP.out _).mono ?_
  rintro e' w1 ⟨rfl, hk1⟩
  have HK1 := Lib.hid (((Kept.refl Nil w).alloc _).then hk1)
  have HZ1 := Lib.hid (HZ.out.kept hk1 (fun hf => hf))
  clear hk1
  go_wp2_with fail
  refine (HBI.out _).mono ?_
  rintro e' w2 ⟨rfl, hk2⟩
  rw [HM.out, mv6]
  have HK2 := Lib.hid (HK1.out.then hk2)
  have hz2 := HZ1.out.kept hk2 (fun hf => hf)
  have y0 := hz2.cell 0
  have z0 := hz2.frozen 0
  have y1 := hz2.cell 1
  have z1 := hz2.frozen 1
  have y2 := hz2.cell 2
  have z2 := hz2.frozen 2
  have y3 := hz2.cell 3
  have z3 := hz2.frozen 3
  have y4 := hz2.cell 4
  have z4 := hz2.frozen 4
  have y5 := hz2.cell 5
  have z5 := hz2.frozen 5
  simp at y0 y1 y2 y3 y4 y5
  clear hk2 hz2
  go_wp2
  refine bodyPost_ret (v := .tuple #[.agg #[.int .u8 (a.toNat : Int), .int .u8 (b.toNat : Int), .int .u8 (c.toNat : Int), .int .u8 (d.toNat : Int), .int .u8 (e.toNat : Int), .int .u8 (f.toNat : Int)], .int .i64 0]) (by simp [results, Tryd.results40, go_sem, y0, y1, y2, y3, y4, y5]) rfl ⟨by rw [HM.out, mv6], ?_⟩
  exact HK2.out.fresh (((((((Kept.refl (fun i => w.heap.size ≤ i) w2).put (Nat.le_refl _) _).put (Nat.le_refl _) _).put (Nat.le_refl _) _).put (Nat.le_refl _) _).put (Nat.le_refl _) _).put (Nat.le_refl _) _) (fun i hi => hi)

set_option maxHeartbeats 8000000 in
set_option maxRecDepth 100000 in
theorem PPat_bits (s : ByteArray) (i : Nat) (hs : s.size ≤ 1000) (hi : Lib.indexByte s.data.toList 47 = (i : Int)) (a b c d e f : UInt8) (n : Nat) (hn : n ≤ 48)
    (hp : ∀ w, Calls Tryd.prog 27 #[.string (s.extract 0 i)] w fun e' w' => e' = .returned (.tuple #[mv [a, b, c, d, e, f], .int .i64 0]) ∧ Kept Nil w w')
    (hm : ∀ w, Calls Tryd.prog 40 #[.string (s.extract (i + 1) s.size)] w fun e' w' => e' = .returned (.tuple #[mv (maskL n), .int .i64 0]) ∧ Kept Nil w w') (w : World) :
    Calls Tryd.prog 29 #[.string s] w fun e' w' => e' = .returned (.tuple #[pv (andL [a, b, c, d, e, f] (maskL n)) (maskL n), .int .i64 0]) ∧ Kept Nil w w' := by
  have HC := Lib.hid (strCut s 47 i (by omega) hi)
  have HP := Lib.hid hp
  have HM := Lib.hid hm
  have HB := Lib.hid (Bits_at 48 48 (by omega) (.inr (.inr rfl)))
  obtain ⟨m0, m1, m2, m3, m4, m5, hmm⟩ := six (maskL n) rfl
  have HMM := Lib.hid hmm
  clear hi hp hm hmm
  have HZ := Lib.hid (Blo.new w 26 #[.int .u8 0, .int .u8 0, .int .u8 0, .int .u8 0, .int .u8 0, .int .u8 0, .int .u8 0, .int .u8 0, .int .u8 0, .int .u8 0, .int .u8 0, .int .u8 0])
  go_enter Tryd.func29, Tryd.ntmps29
  go_wp2_with fail
  refine (HC.out _).mono ?_
  rintro e' w1 ⟨rfl, q, hw1⟩
  have hk1 : Kept Nil w w1 := by rw [hw1]; exact ((Kept.refl Nil w).alloc _).drewN q
  have HZ1 : Hid (Blo w1 w.heap.size 26 #[.int .u8 0, .int .u8 0, .int .u8 0, .int .u8 0, .int .u8 0, .int .u8 0, .int .u8 0, .int .u8 0, .int .u8 0, .int .u8 0, .int .u8 0, .int .u8 0]) := by unfold Hid; rw [hw1]; exact HZ.out.heap rfl
  have HK1 := Lib.hid hk1
  clear hw1 hk1 HZ
  go_wp2_with fail
  refine (HP.out _).mono ?_
  rintro e' w2 ⟨rfl, hk2⟩
  rw [mv6]
  have HZ2 := Lib.hid (HZ1.out.kept hk2 (fun hf => hf))
  have HK2 := Lib.hid (HK1.out.then hk2)
  clear hk2
  go_wp2_with fail
  refine (HB.out _).mono ?_
  rintro e' w3 ⟨rfl, hk3⟩
  rw [mask48, mv6]
  have HK3 := Lib.hid ((HK2.out.alloc _).then hk3)
  have HZ3 := Lib.hid ((HZ2.out.alloc _).kept hk3 (fun hf => hf))
  have HA3 := Lib.hid ((Blo.new w2 24 #[.int .u8 (a.toNat : Int), .int .u8 (b.toNat : Int), .int .u8 (c.toNat : Int), .int .u8 (d.toNat : Int), .int .u8 (e.toNat : Int), .int .u8 (f.toNat : Int)]).kept hk3 (fun hf => hf))
  have hs2 : w2.heap.size < w3.heap.size := by have := hk3.size; simp at this; omega
  have hs0 : w.heap.size < w2.heap.size := HZ2.out.lt
  have H9 := Lib.hid (Blo.new w3 24 #[.int .u8 255, .int .u8 255, .int .u8 255, .int .u8 255, .int .u8 255, .int .u8 255])
  clear hk3
  generalize hg7 : w2.heap.size = g7 at *
  go_wp2_with fail
  refine (HM.out _).mono ?_
  rintro e' w4 ⟨rfl, hk4⟩
  rw [HMM.out, mv6]
  have HK4 := Lib.hid ((HK3.out.alloc _).then hk4)
  have HZ4 := Lib.hid ((HZ3.out.alloc _).kept hk4 (fun hf => hf))
  have HA4 := Lib.hid ((HA3.out.alloc _).kept hk4 (fun hf => hf))
  have h94 := H9.out.kept hk4 (fun hf => hf)
  have y0 := h94.cell 0
  have z0 := h94.frozen 0
  have y1 := h94.cell 1
  have z1 := h94.frozen 1
  have y2 := h94.cell 2
  have z2 := h94.frozen 2
  have y3 := h94.cell 3
  have z3 := h94.frozen 3
  have y4 := h94.cell 4
  have z4 := h94.frozen 4
  have y5 := h94.cell 5
  have z5 := h94.frozen 5
  simp at y0 y1 y2 y3 y4 y5
  have H94 := Lib.hid h94
  clear hk4 h94
  generalize hg9 : w3.heap.size = g9 at *
  go_wp2_with fail
  obtain ⟨W, hW⟩ : ∃ W, W = ((((((w4.setCell ⟨g9, 0, none⟩ (.int .u8 (m0.toNat : Int))).setCell ⟨g9, 1, none⟩ (.int .u8 (m1.toNat : Int))).setCell ⟨g9, 2, none⟩ (.int .u8 (m2.toNat : Int))).setCell ⟨g9, 3, none⟩ (.int .u8 (m3.toNat : Int))).setCell ⟨g9, 4, none⟩ (.int .u8 (m4.toNat : Int))).setCell ⟨g9, 5, none⟩ (.int .u8 (m5.toNat : Int))) := ⟨_, rfl⟩
  rw [← hW]
  have hbA : Blo W g7 24 #[.int .u8 (a.toNat : Int), .int .u8 (b.toNat : Int), .int .u8 (c.toNat : Int), .int .u8 (d.toNat : Int), .int .u8 (e.toNat : Int), .int .u8 (f.toNat : Int)] := by rw [hW]; exact ((((((HA4.out.far (by simp; omega) _).far (by simp; omega) _).far (by simp; omega) _).far (by simp; omega) _).far (by simp; omega) _).far (by simp; omega) _)
  have hbZ : Blo W w.heap.size 26 #[.int .u8 0, .int .u8 0, .int .u8 0, .int .u8 0, .int .u8 0, .int .u8 0, .int .u8 0, .int .u8 0, .int .u8 0, .int .u8 0, .int .u8 0, .int .u8 0] := by rw [hW]; exact ((((((HZ4.out.far (by simp; omega) _).far (by simp; omega) _).far (by simp; omega) _).far (by simp; omega) _).far (by simp; omega) _).far (by simp; omega) _)
  have hbM : Blo W g9 24 #[.int .u8 (m0.toNat : Int), .int .u8 (m1.toNat : Int), .int .u8 (m2.toNat : Int), .int .u8 (m3.toNat : Int), .int .u8 (m4.toNat : Int), .int .u8 (m5.toNat : Int)] := by rw [hW]; exact ((((((H94.out.set 0 _).set 1 _).set 2 _).set 3 _).set 4 _).set 5 _)
  have hKW : Kept Nil w W := by rw [hW]; exact HK4.out.fresh ((((((((Kept.refl (fun i => w.heap.size ≤ i) w4).put (by omega) _).put (by omega) _).put (by omega) _).put (by omega) _).put (by omega) _).put (by omega) _)) (fun i hi => hi)
  clear hW y0 y1 y2 y3 y4 y5 z0 z1 z2 z3 z4 z5
  have u0 := hbA.cell 0
  have u1 := hbA.cell 1
  have u2 := hbA.cell 2
  have u3 := hbA.cell 3
  have u4 := hbA.cell 4
  have u5 := hbA.cell 5
  simp at u0 u1 u2 u3 u4 u5
  have v0 := hbM.cell 0
  have v1 := hbM.cell 1
  have v2 := hbM.cell 2
  have v3 := hbM.cell 3
  have v4 := hbM.cell 4
  have v5 := hbM.cell 5
  simp at v0 v1 v2 v3 v4 v5
  have HBA := Lib.hid hbA
  have HBM := Lib.hid hbM
  have HBZ := Lib.hid hbZ
  have HKW := Lib.hid hKW
  clear hbA hbM hbZ hKW
  go_region_law (go_simp; go_at_call 20; (with_reducible refine (Masked_e a b c d e f m0 m1 m2 m3 m4 m5 _).mono ?_); rintro e1 w5 ⟨y0, y1, y2, y3, y4, y5, hy, rfl, hk5⟩; have hk5' := (Kept.refl Nil W).drew.then hk5; have hb5 := HBM.out.kept hk5' (fun hf => hf); have hz5 := HBZ.out.kept hk5' (fun hf => hf); have p0 := hb5.cell 0; have p1 := hb5.cell 1; have p2 := hb5.cell 2; have p3 := hb5.cell 3; have p4 := hb5.cell 4; have p5 := hb5.cell 5; have r0 := hz5.cell 0; have t0 := hz5.frozen 0; have r1 := hz5.cell 1; have t1 := hz5.frozen 1; have r2 := hz5.cell 2; have t2 := hz5.frozen 2; have r3 := hz5.cell 3; have t3 := hz5.frozen 3; have r4 := hz5.cell 4; have t4 := hz5.frozen 4; have r5 := hz5.cell 5; have t5 := hz5.frozen 5; have r6 := hz5.cell 6; have t6 := hz5.frozen 6; have r7 := hz5.cell 7; have t7 := hz5.frozen 7; have r8 := hz5.cell 8; have t8 := hz5.frozen 8; have r9 := hz5.cell 9; have t9 := hz5.frozen 9; have r10 := hz5.cell 10; have t10 := hz5.frozen 10; have r11 := hz5.cell 11; have t11 := hz5.frozen 11; simp at p0 p1 p2 p3 p4 p5 r0 r1 r2 r3 r4 r5 r6 r7 r8 r9 r10 r11; have HY := Lib.hid hy; have HK5 := Lib.hid (HKW.out.then hk5'); clear hk5 hk5' hb5 hz5 hy)
  all_goals
    go_wp2
    refine bodyPost_ret (v := .tuple #[.agg #[.int .u8 (y0.toNat : Int), .int .u8 (y1.toNat : Int), .int .u8 (y2.toNat : Int), .int .u8 (y3.toNat : Int), .int .u8 (y4.toNat : Int), .int .u8 (y5.toNat : Int), .int .u8 (m0.toNat : Int), .int .u8 (m1.toNat : Int), .int .u8 (m2.toNat : Int), .int .u8 (m3.toNat : Int), .int .u8 (m4.toNat : Int), .int .u8 (m5.toNat : Int)], .int .i64 0]) (by simp [results, Tryd.results29, go_sem, r0, r1, r2, r3, r4, r5, r6, r7, r8, r9, r10, r11]) rfl ⟨?_, ?_⟩
    · rw [HMM.out, ← HY.out]
      rfl
    · exact HK5.out.fresh (((((((((((((Kept.refl (fun i => w.heap.size ≤ i) w5).put (Nat.le_refl _) _).put (Nat.le_refl _) _).put (Nat.le_refl _) _).put (Nat.le_refl _) _).put (Nat.le_refl _) _).put (Nat.le_refl _) _).put (Nat.le_refl _) _).put (Nat.le_refl _) _).put (Nat.le_refl _) _).put (Nat.le_refl _) _).put (Nat.le_refl _) _).put (Nat.le_refl _) _) (fun i hi => hi)
end Go.Proofs.YtifoepglhlpoiaaDoor
