/- Package internal/strconv: fmtEFG at 1e21. -/
import Derived.Test.YtiehmpiaddjhiaaDoorRaF
namespace Go.Proofs.YtiehmpiaddjhiaaDoor
open Go.RowKit Go.Sort
set_option linter.unusedVariables false

def e21 : List UInt8 := 49 :: List.replicate 21 48
theorem rep_snoc (k : Nat) : ([49] ++ List.replicate k 48 : List UInt8) ++ [48] = [49] ++ List.replicate (k + 1) 48 := by rw [List.append_assoc, List.replicate_succ']
set_option maxRecDepth 100000 in
set_option maxHeartbeats 8000000 in
theorem efg_b (B g : Nat) (v0 : Value) (w : World) (h : PsI w B g v0 [] w) : Calls Tryd.prog 46 #[v0, .bool false, .slice (some ⟨g, 0, none⟩) 32 32, .int .i64 22, .int .i64 1, .int .i64 0, .int .u8 102, .bool true] w fun e w' => ∃ v, e = .returned v ∧ w'.ownsRow B 5 1 v 22 (bys e21) ∧ Kept (fun k => B ≤ k) w w' := by
  have HS := Lib.hid h
  have hsl := run_cut_hi (P := Tryd.prog) Tryd.underlying68 inf5.1 (some ⟨g, 0, none⟩) 32 32 1 1 rfl (by decide)
  have m1 : min (1 : Int) 22 = 1 := by decide
  clear h
  go_enter Tryd.func46, Tryd.ntmps46
  go_upto_region 58 with (fail)
  clear hsl
  go_loopw [0, 191] (fun v i wr => ∃ (k : Nat) (vv : Value), vv = v ∧ k ≤ 1 ∧ i = .int .i64 (k : Int) ∧ Hid (PsI w B g vv (List.replicate k 49) wr)) (fun _ i _ => 1 - (intOf i).toNat)
  case atStart => exact ⟨0, _, rfl, by omega, rfl, HS⟩
  case round =>
    clear HS
    obtain ⟨k, vv, rfl, hk, rfl, HR⟩ := hrel
    rcases (show k = 0 ∨ k = 1 by omega) with rfl | rfl
    · have hc := HR.out.cell
      go_wp2_with (first
        | (refine wpList_pushS rfl rfl _ _ 197 rfl rfl rfl (Nat.le_of_ble_eq_true rfl) 49 rfl HR.out (fun z => rfl) (by decide) ?_; intro q3 v3 w3 hp3; simp only [Act.put, List.setIfInBounds_toArray, List.set_cons_succ, List.set_cons_zero])
        | fail)
      have HS3 := Lib.hid hp3
      clear hp3 hc
      go_wp2
      go_roundw
      case rel => exact ⟨1, _, rfl, by omega, by go_num, HS3⟩
      case measure => simp [intOf]
    · go_upto_region 63 with (fail)
      go_loopw [0, 203] (fun v i wr => ∃ (k : Nat) (vv : Value), vv = v ∧ k ≤ 21 ∧ i = .int .i64 (k : Int) ∧ Hid (PsI w B g vv ([49] ++ List.replicate k 48) wr)) (fun _ i _ => 21 - (intOf i).toNat)
      case atStart => exact ⟨0, _, rfl, by omega, rfl, HR⟩
      case round =>
        clear HR
        obtain ⟨k, vv, rfl, hk, rfl, HR⟩ := hrel
        by_cases hlt : k < 21
        · go_wp2_with (first
            | (refine wpList_pushS rfl rfl _ _ 206 rfl rfl rfl (Nat.le_of_ble_eq_true rfl) 48 rfl HR.out (fun z => rfl) (by simp; omega) ?_; intro q3 v3 w3 hp3; simp only [Act.put, List.setIfInBounds_toArray, List.set_cons_succ, List.set_cons_zero])
            | fail)
          rw [rep_snoc] at hp3
          have HS3 := Lib.hid hp3
          clear hp3
          go_wp2
          go_roundw
          case rel => exact ⟨k + 1, _, rfl, by omega, by go_num, HS3⟩
          case measure => simp [intOf]; omega
        · obtain rfl : k = 21 := by omega
          have HS4 := Lib.hid (show PsI w B g vv e21 _ from HR.out)
          clear HR
          go_wp2_with (fail)
          go_ret
          exact ⟨_, rfl, HS4.out.own, HS4.out.kept⟩
end Go.Proofs.YtiehmpiaddjhiaaDoor
