/- Contracts of mac.Parse, where it succeeds. -/
import Derived.Test.YtifoepglhlpoiaaDoorMacD
import Derived.Test.YtifoepglhlpoiaaDoorMacE
namespace Go.Proofs.YtifoepglhlpoiaaDoor
open Go.RowKit
set_option linter.unusedVariables false

set_option maxHeartbeats 2000000 in
set_option maxRecDepth 100000 in
theorem pub16 (t : ByteArray) (hne : t.size ≠ 0) (h2 : t.size ≤ 2) (n : Nat) (h : numB 16 0 t.data.toList = some n) (w : World) :
    Calls Tryd.prog 37 #[.string t, .int .i64 16, .int .i64 8] w fun e w' => e = .returned (.tuple #[.int .u64 (n : Int), .nilIface]) ∧ Kept Nil w w' := by
  have hp := fun w => pu16 t hne h2 w
  rw [h] at hp
  have hp2 : ∀ w, Calls Tryd.prog 50 #[.string t, .int .i64 16, .int .i64 8] w fun e w' => e = .returned (.tuple #[.int .u64 (n : Int), .nilIface]) ∧ Kept Nil w w' := hp
  have HP := Lib.hid hp2
  clear hp hp2 h
  go_enter Tryd.func37, Tryd.ntmps37
  go_wp2_with fail
  refine (HP.out _).mono ?_
  rintro e w1 ⟨rfl, hk1⟩
  have HK1 := Lib.hid hk1
  clear hk1
  go_wp2
  go_ret2
  exact ⟨rfl, HK1.out⟩
set_option maxHeartbeats 2000000 in
set_option maxRecDepth 100000 in
theorem pub10 (t : ByteArray) (hne : t.size ≠ 0) (h2 : t.size ≤ 2) (n : Nat) (h : numB 10 0 t.data.toList = some n) (w : World) :
    Calls Tryd.prog 37 #[.string t, .int .i64 10, .int .i64 8] w fun e w' => e = .returned (.tuple #[.int .u64 (n : Int), .nilIface]) ∧ Kept Nil w w' := by
  have hp := fun w => pu10 t hne h2 w
  rw [h] at hp
  have hp2 : ∀ w, Calls Tryd.prog 50 #[.string t, .int .i64 10, .int .i64 8] w fun e w' => e = .returned (.tuple #[.int .u64 (n : Int), .nilIface]) ∧ Kept Nil w w' := hp
  have HP := Lib.hid hp2
  clear hp hp2 h
  go_enter Tryd.func37, Tryd.ntmps37
  go_wp2_with fail
  refine (HP.out _).mono ?_
  rintro e w1 ⟨rfl, hk1⟩
  have HK1 := Lib.hid hk1
  clear hk1
  go_wp2
  go_ret2
  exact ⟨rfl, HK1.out⟩

/-- What an index into a text reads. -/
theorem idxS (s : ByteArray) (k : Nat) (c : UInt8) (h : s.data.toList[k]? = some c) (w : World) : (Instr.index 9 (.string s) (.int .i64 (k : Int))).run Tryd.prog w = .ok (.int .u8 (c.toNat : Int)) w := by
  have hk : k < s.size := by
    have := (List.getElem?_eq_some_iff.1 h).1
    rw [Lib.size_eq]
    exact this
  have hc : s[k]'hk = c := by
    have h2 := (List.getElem?_eq_some_iff.1 h).2
    rw [← h2]
    rfl
  simp [Instr.index, asIntOf, run_underlying Tryd.underlying9, hk, hc]
theorem ext_ok (s : ByteArray) (k : Nat) (hs : s.size = 17) (hk : k + 2 ≤ 17) : (s.extract k (k + 2)).size ≠ 0 ∧ (s.extract k (k + 2)).size ≤ 2 := by
  rw [ByteArray.size_extract]
  omega
set_option maxHeartbeats 4000000 in
set_option maxRecDepth 100000 in
theorem Parse_ok (s : ByteArray) (b0 b1 b2 b3 b4 b5 : UInt8) (hs : s.size = 17) (h0 : numB 16 0 ((s.data.toList.drop 0).take 2) = some b0.toNat) (h1 : numB 16 0 ((s.data.toList.drop 3).take 2) = some b1.toNat) (h2 : numB 16 0 ((s.data.toList.drop 6).take 2) = some b2.toNat) (h3 : numB 16 0 ((s.data.toList.drop 9).take 2) = some b3.toNat) (h4 : numB 16 0 ((s.data.toList.drop 12).take 2) = some b4.toNat) (h5 : numB 16 0 ((s.data.toList.drop 15).take 2) = some b5.toNat) (c1 : s.data.toList[2]? = some 58) (c2 : s.data.toList[5]? = some 58) (c3 : s.data.toList[8]? = some 58) (c4 : s.data.toList[11]? = some 58) (c5 : s.data.toList[14]? = some 58) (w : World) :
    Calls Tryd.prog 27 #[.string s] w fun e w' => e = .returned (.tuple #[mv [b0, b1, b2, b3, b4, b5], .int .i64 0]) ∧ Kept Nil w w' := by
  have p0 := fun w => pub16 (s.extract 0 2) (ext_ok s 0 hs (by omega)).1 (ext_ok s 0 hs (by omega)).2 b0.toNat (by rw [Lib.extract_data]; exact h0) w
  have P0 := Lib.hid p0
  have p1 := fun w => pub16 (s.extract 3 5) (ext_ok s 3 hs (by omega)).1 (ext_ok s 3 hs (by omega)).2 b1.toNat (by rw [Lib.extract_data]; exact h1) w
  have P1 := Lib.hid p1
  have p2 := fun w => pub16 (s.extract 6 8) (ext_ok s 6 hs (by omega)).1 (ext_ok s 6 hs (by omega)).2 b2.toNat (by rw [Lib.extract_data]; exact h2) w
  have P2 := Lib.hid p2
  have p3 := fun w => pub16 (s.extract 9 11) (ext_ok s 9 hs (by omega)).1 (ext_ok s 9 hs (by omega)).2 b3.toNat (by rw [Lib.extract_data]; exact h3) w
  have P3 := Lib.hid p3
  have p4 := fun w => pub16 (s.extract 12 14) (ext_ok s 12 hs (by omega)).1 (ext_ok s 12 hs (by omega)).2 b4.toNat (by rw [Lib.extract_data]; exact h4) w
  have P4 := Lib.hid p4
  have p5 := fun w => pub16 (s.extract 15 17) (ext_ok s 15 hs (by omega)).1 (ext_ok s 15 hs (by omega)).2 b5.toNat (by rw [Lib.extract_data]; exact h5) w
  have P5 := Lib.hid p5
  have j1 : ∀ w, (Instr.index 9 (.string s) (.int .i64 2)).run Tryd.prog w = .ok (.int .u8 58) w := idxS s 2 58 c1
  have j2 : ∀ w, (Instr.index 9 (.string s) (.int .i64 5)).run Tryd.prog w = .ok (.int .u8 58) w := idxS s 5 58 c2
  have j3 : ∀ w, (Instr.index 9 (.string s) (.int .i64 8)).run Tryd.prog w = .ok (.int .u8 58) w := idxS s 8 58 c3
  have j4 : ∀ w, (Instr.index 9 (.string s) (.int .i64 11)).run Tryd.prog w = .ok (.int .u8 58) w := idxS s 11 58 c4
  have j5 : ∀ w, (Instr.index 9 (.string s) (.int .i64 14)).run Tryd.prog w = .ok (.int .u8 58) w := idxS s 14 58 c5
  have J1 := Lib.hid j1
  have J2 := Lib.hid j2
  have J3 := Lib.hid j3
  have J4 := Lib.hid j4
  have J5 := Lib.hid j5
  clear h0 h1 h2 h3 h4 h5 c1 c2 c3 c4 c5 p0 p1 p2 p3 p4 p5 j1 j2 j3 j4 j5
  have hz0 := (Blo.new w 24 #[.int .u8 0, .int .u8 0, .int .u8 0, .int .u8 0, .int .u8 0, .int .u8 0]).alloc (.cells #[.int .u8 0, .int .u8 0, .int .u8 0, .int .u8 0, .int .u8 0, .int .u8 0] 24)
  have hz1 := Blo.new (w.alloc (.cells #[.int .u8 0, .int .u8 0, .int .u8 0, .int .u8 0, .int .u8 0, .int .u8 0] 24)) 24 #[.int .u8 0, .int .u8 0, .int .u8 0, .int .u8 0, .int .u8 0, .int .u8 0]
  rw [World.size_alloc] at hz1
  have HZ0 := Lib.hid hz0
  have HZ1 := Lib.hid hz1
  clear hz0 hz1
  go_enter Tryd.func27, Tryd.ntmps27
  go_wp2
  go_loopw [13] (fun i wr => ∃ (k : Nat), k ≤ 6 ∧ i = .int .i64 k ∧ Hid (Blo wr w.heap.size 24 #[.int .u8 0, .int .u8 0, .int .u8 0, .int .u8 0, .int .u8 0, .int .u8 0]) ∧ Hid (Blo wr (w.heap.size + 1) 24 (bys (([b0, b1, b2, b3, b4, b5].take k) ++ List.replicate (6 - k) 0)).toArray) ∧ Hid (Kept Nil w wr)) (fun i _ => 6 - (intOf i).toNat)
  case atStart => exact ⟨0, Nat.zero_le _, rfl, HZ0.out, HZ1.out, ((Kept.refl Nil w).alloc _).alloc _⟩
  case round =>
    obtain ⟨k, hk, rfl, HB0, HB1, HK⟩ := hrel
    by_cases hlt : k < 6
    · rcases (show k = 0 ∨ k = 1 ∨ k = 2 ∨ k = 3 ∨ k = 4 ∨ k = 5 by omega) with rfl | rfl | rfl | rfl | rfl | rfl
      · go_wp2_with fail
        refine (P0.out _).mono ?_
        rintro e w1 ⟨rfl, hk1⟩
        have hb0 := HB0.out.kept hk1 (fun hf => hf)
        have hb1 := HB1.out.kept hk1 (fun hf => hf)
        have ck := hb1.cell 0
        have fk := hb1.frozen 0
        simp [bys] at ck
        have HB0' := Lib.hid (hb0.far (p := ⟨w.heap.size + 1, 0, none⟩) (by simp) (.int .u8 (b0.toNat : Int)))
        have HB1' := Lib.hid (hb1.set 0 (.int .u8 (b0.toNat : Int)))
        have HK' := Lib.hid ((HK.out.then hk1).setCell (p := ⟨w.heap.size + 1, 0, none⟩) (fun hl => absurd hl (by simp)) (.int .u8 (b0.toNat : Int)))
        have hbd := b0.toNat_lt
        clear hb0 hb1 hk1
        go_wp2
        go_roundw
        case rel => exact ⟨1, by omega, rfl, HB0'.out, HB1'.out, HK'.out⟩
        case measure => simp [intOf]
      · have hj := J1.out
        go_wp2_with fail
        refine (P1.out _).mono ?_
        rintro e w1 ⟨rfl, hk1⟩
        have hb0 := HB0.out.kept hk1 (fun hf => hf)
        have hb1 := HB1.out.kept hk1 (fun hf => hf)
        have ck := hb1.cell 1
        have fk := hb1.frozen 1
        simp [bys] at ck
        have HB0' := Lib.hid (hb0.far (p := ⟨w.heap.size + 1, 1, none⟩) (by simp) (.int .u8 (b1.toNat : Int)))
        have HB1' := Lib.hid (hb1.set 1 (.int .u8 (b1.toNat : Int)))
        have HK' := Lib.hid ((HK.out.then hk1).setCell (p := ⟨w.heap.size + 1, 1, none⟩) (fun hl => absurd hl (by simp)) (.int .u8 (b1.toNat : Int)))
        have hbd := b1.toNat_lt
        clear hb0 hb1 hk1
        go_wp2
        go_roundw
        case rel => exact ⟨2, by omega, rfl, HB0'.out, HB1'.out, HK'.out⟩
        case measure => simp [intOf]
      · rw [show ((2 : Nat) : Int) = 2 from rfl]
        have hj := J2.out
        go_wp2_with fail
        refine (P2.out _).mono ?_
        rintro e w1 ⟨rfl, hk1⟩
        have hb0 := HB0.out.kept hk1 (fun hf => hf)
        have hb1 := HB1.out.kept hk1 (fun hf => hf)
        have ck := hb1.cell 2
        have fk := hb1.frozen 2
        simp [bys] at ck
        have HB0' := Lib.hid (hb0.far (p := ⟨w.heap.size + 1, 2, none⟩) (by simp) (.int .u8 (b2.toNat : Int)))
        have HB1' := Lib.hid (hb1.set 2 (.int .u8 (b2.toNat : Int)))
        have HK' := Lib.hid ((HK.out.then hk1).setCell (p := ⟨w.heap.size + 1, 2, none⟩) (fun hl => absurd hl (by simp)) (.int .u8 (b2.toNat : Int)))
        have hbd := b2.toNat_lt
        clear hb0 hb1 hk1
        go_wp2
        go_roundw
        case rel => exact ⟨3, by omega, rfl, HB0'.out, HB1'.out, HK'.out⟩
        case measure => simp [intOf]
      · rw [show ((3 : Nat) : Int) = 3 from rfl]
        have hj := J3.out
        go_wp2_with fail
        refine (P3.out _).mono ?_
        rintro e w1 ⟨rfl, hk1⟩
        have hb0 := HB0.out.kept hk1 (fun hf => hf)
        have hb1 := HB1.out.kept hk1 (fun hf => hf)
        have ck := hb1.cell 3
        have fk := hb1.frozen 3
        simp [bys] at ck
        have HB0' := Lib.hid (hb0.far (p := ⟨w.heap.size + 1, 3, none⟩) (by simp) (.int .u8 (b3.toNat : Int)))
        have HB1' := Lib.hid (hb1.set 3 (.int .u8 (b3.toNat : Int)))
        have HK' := Lib.hid ((HK.out.then hk1).setCell (p := ⟨w.heap.size + 1, 3, none⟩) (fun hl => absurd hl (by simp)) (.int .u8 (b3.toNat : Int)))
        have hbd := b3.toNat_lt
        clear hb0 hb1 hk1
        go_wp2
        go_roundw
        case rel => exact ⟨4, by omega, rfl, HB0'.out, HB1'.out, HK'.out⟩
        case measure => simp [intOf]
      · rw [show ((4 : Nat) : Int) = 4 from rfl]
        have hj := J4.out
        go_wp2_with fail
        refine (P4.out _).mono ?_
        rintro e w1 ⟨rfl, hk1⟩
        have hb0 := HB0.out.kept hk1 (fun hf => hf)
        have hb1 := HB1.out.kept hk1 (fun hf => hf)
        have ck := hb1.cell 4
        have fk := hb1.frozen 4
        simp [bys] at ck
        have HB0' := Lib.hid (hb0.far (p := ⟨w.heap.size + 1, 4, none⟩) (by simp) (.int .u8 (b4.toNat : Int)))
        have HB1' := Lib.hid (hb1.set 4 (.int .u8 (b4.toNat : Int)))
        have HK' := Lib.hid ((HK.out.then hk1).setCell (p := ⟨w.heap.size + 1, 4, none⟩) (fun hl => absurd hl (by simp)) (.int .u8 (b4.toNat : Int)))
        have hbd := b4.toNat_lt
        clear hb0 hb1 hk1
        go_wp2
        go_roundw
        case rel => exact ⟨5, by omega, rfl, HB0'.out, HB1'.out, HK'.out⟩
        case measure => simp [intOf]
      · rw [show ((5 : Nat) : Int) = 5 from rfl]
        have hj := J5.out
        go_wp2_with fail
        refine (P5.out _).mono ?_
        rintro e w1 ⟨rfl, hk1⟩
        have hb0 := HB0.out.kept hk1 (fun hf => hf)
        have hb1 := HB1.out.kept hk1 (fun hf => hf)
        have ck := hb1.cell 5
        have fk := hb1.frozen 5
        simp [bys] at ck
        have HB0' := Lib.hid (hb0.far (p := ⟨w.heap.size + 1, 5, none⟩) (by simp) (.int .u8 (b5.toNat : Int)))
        have HB1' := Lib.hid (hb1.set 5 (.int .u8 (b5.toNat : Int)))
        have HK' := Lib.hid ((HK.out.then hk1).setCell (p := ⟨w.heap.size + 1, 5, none⟩) (fun hl => absurd hl (by simp)) (.int .u8 (b5.toNat : Int)))
        have hbd := b5.toNat_lt
        clear hb0 hb1 hk1
        go_wp2
        go_roundw
        case rel => exact ⟨6, by omega, rfl, HB0'.out, HB1'.out, HK'.out⟩
        case measure => simp [intOf]
    · have : k = 6 := by omega
      subst this
      have hb1 : Blo wr (w.heap.size + 1) 24 #[.int .u8 (b0.toNat : Int), .int .u8 (b1.toNat : Int), .int .u8 (b2.toNat : Int), .int .u8 (b3.toNat : Int), .int .u8 (b4.toNat : Int), .int .u8 (b5.toNat : Int)] := HB1.out
      have x0 := hb1.cell 0
      have y0 := HB0.out.cell 0
      have z0 := HB0.out.frozen 0
      have x1 := hb1.cell 1
      have y1 := HB0.out.cell 1
      have z1 := HB0.out.frozen 1
      have x2 := hb1.cell 2
      have y2 := HB0.out.cell 2
      have z2 := HB0.out.frozen 2
      have x3 := hb1.cell 3
      have y3 := HB0.out.cell 3
      have z3 := HB0.out.frozen 3
      have x4 := hb1.cell 4
      have y4 := HB0.out.cell 4
      have z4 := HB0.out.frozen 4
      have x5 := hb1.cell 5
      have y5 := HB0.out.cell 5
      have z5 := HB0.out.frozen 5
      simp at x0 x1 x2 x3 x4 x5 y0 y1 y2 y3 y4 y5
      clear hb1
      go_wp2
      refine bodyPost_ret (v := .tuple #[.agg #[.int .u8 (b0.toNat : Int), .int .u8 (b1.toNat : Int), .int .u8 (b2.toNat : Int), .int .u8 (b3.toNat : Int), .int .u8 (b4.toNat : Int), .int .u8 (b5.toNat : Int)], .int .i64 0]) (by simp [results, Tryd.results27, go_sem, y0, y1, y2, y3, y4, y5]) rfl ⟨rfl, ?_⟩
      exact HK.out.fresh (((((((Kept.refl (fun i => w.heap.size ≤ i) wr).put (Nat.le_refl _) _).put (Nat.le_refl _) _).put (Nat.le_refl _) _).put (Nat.le_refl _) _).put (Nat.le_refl _) _).put (Nat.le_refl _) _) (fun i hi => hi)
end Go.Proofs.YtifoepglhlpoiaaDoor
