/- Package internal/strconv: fmtEFG in the cases that the examples meet. -/
import Derived.Test.YtiehmpiaddjhiaaDoorRaF
namespace Go.Proofs.YtiehmpiaddjhiaaDoor
open Go.RowKit Go.Sort
set_option linter.unusedVariables false

set_option maxRecDepth 100000 in
set_option maxHeartbeats 8000000 in
theorem efg_z (B : Nat) (v0 : Value) (w : World) (ho : w.ownsRow B 5 1 v0 0 (bys [])) (hB : B ≤ w.heap.size) : Calls Tryd.prog 46 #[v0, .bool false, .slice none 0 0, .int .i64 0, .int .i64 0, .int .i64 (-1), .int .u8 102, .bool true] w fun e w' => ∃ v, e = .returned v ∧ w'.ownsRow B 5 1 v 1 (bys [48]) ∧ Kept (fun k => B ≤ k) w w' := by
  have HO := Lib.hid ho
  have HOB := Lib.hid hB
  clear ho hB
  go_enter Tryd.func46, Tryd.ntmps46
  go_upto_region 67 with (first
    | (refine wpList_push rfl rfl _ _ 210 rfl rfl rfl (Nat.le_of_ble_eq_true rfl) 48 rfl B _ [] (fun z => rfl) HO.out (by decide) HOB.out ?_; intro q1 v1 w1 hn1 hk1 hor1; simp only [Act.put, List.setIfInBounds_toArray, List.set_cons_succ, List.set_cons_zero])
    | fail)
  have HR := Lib.hid (show w1.ownsRow B 5 1 v1 1 (bys [48]) from hn1)
  have HK := Lib.hid (hk1.mono (fun i _ hi => own_geq HO.out i hi) : Kept (fun k => B ≤ k) w w1)
  clear hn1 hk1 HO HOB hor1
  go_wp2_with (fail)
  go_ret
  exact ⟨_, rfl, HR.out, HK.out⟩
set_option maxRecDepth 100000 in
set_option maxHeartbeats 8000000 in
theorem efg_a (B g : Nat) (v0 : Value) (w : World) (h : PsI w B g v0 [] w) : Calls Tryd.prog 46 #[v0, .bool false, .slice (some ⟨g, 0, none⟩) 32 32, .int .i64 0, .int .i64 1, .int .i64 1, .int .u8 102, .bool true] w fun e w' => ∃ v, e = .returned v ∧ w'.ownsRow B 5 1 v 3 (bys [48, 46, 49]) ∧ Kept (fun k => B ≤ k) w w' := by
  have HS := Lib.hid h
  clear h
  go_enter Tryd.func46, Tryd.ntmps46
  go_upto_region 67 with (first
    | (refine wpList_pushS rfl rfl _ _ 210 rfl rfl rfl (Nat.le_of_ble_eq_true rfl) 48 rfl HS.out (fun z => rfl) (by first | decide | (simp; omega)) ?_; intro q1 v1 w1 hp1; simp only [Act.put, List.setIfInBounds_toArray, List.set_cons_succ, List.set_cons_zero])
    | fail)
  have HS1 := Lib.hid hp1
  clear hp1 HS
  go_upto_region 69 with (first
    | (refine wpList_pushS rfl rfl _ _ 215 rfl rfl rfl (Nat.le_of_ble_eq_true rfl) 46 rfl HS1.out (fun z => rfl) (by first | decide | (simp; omega)) ?_; intro q2 v2 w2 hp2; simp only [Act.put, List.setIfInBounds_toArray, List.set_cons_succ, List.set_cons_zero])
    | fail)
  have HS2 := Lib.hid (show PsI w B g v2 [48, 46] w2 from hp2)
  clear hp2 HS1
  have m1 : min (1 : Int) 0 = 0 := by decide
  have m2 : max (0 : Int) 1 = 1 := by decide
  have m3 : min (1 : Int) 1 = 1 := by decide
  have m4 : max (0 : Int) 0 = 0 := by decide
  go_upto_region 74 with (fail)
  go_loopw [0, 240] (fun v i wr => v = v2 ∧ i = .int .i64 0 ∧ wr = w2) (fun _ _ _ => 0)
  case atStart => exact ⟨rfl, rfl, rfl⟩
  case round =>
    obtain ⟨rfl, rfl, rfl⟩ := hrel
    go_upto_region 78 with (fail)
    go_loopw [0, 247] (fun v i wr => ∃ (k : Nat) (vv : Value), vv = v ∧ k ≤ 1 ∧ i = .int .i64 (k : Int) ∧ Hid (PsI w B g vv ([48, 46] ++ List.replicate k 49) wr)) (fun _ i _ => 1 - (intOf i).toNat)
    case atStart => exact ⟨0, _, rfl, by omega, rfl, HS2⟩
    case round =>
      obtain ⟨k, vv, rfl, hk, rfl, HR⟩ := hrel
      rcases (show k = 0 ∨ k = 1 by omega) with rfl | rfl
      · have hc := HR.out.cell
        go_wp2_with (first
          | (refine wpList_pushS rfl rfl _ _ 257 rfl rfl rfl (Nat.le_of_ble_eq_true rfl) 49 rfl HR.out (fun z => rfl) (by decide) ?_; intro q3 v3 w3 hp3; simp only [Act.put, List.setIfInBounds_toArray, List.set_cons_succ, List.set_cons_zero])
          | fail)
        have HS3 := Lib.hid hp3
        clear hp3 hc
        go_wp2
        go_roundw
        case rel => exact ⟨1, _, rfl, by omega, by go_num, HS3⟩
        case measure => simp [intOf]
      · have HS4 := Lib.hid (show PsI w B g _ [48, 46, 49] _ from HR.out)
        go_upto_region 83 with (fail)
        go_loopw [0, 261] (fun v i wr => v = vv ∧ i = .int .i64 0 ∧ Hid (PsI w B g vv [48, 46, 49] wr)) (fun _ _ _ => 0)
        case atStart => exact ⟨rfl, rfl, HS4⟩
        case round =>
          obtain ⟨rfl, rfl, HR⟩ := hrel
          go_wp2_with (fail)
          go_ret
          exact ⟨_, rfl, HR.out.own, HR.out.kept⟩
end Go.Proofs.YtiehmpiaddjhiaaDoor
