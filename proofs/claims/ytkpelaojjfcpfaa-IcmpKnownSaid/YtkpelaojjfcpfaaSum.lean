/- The contract of cut.Sum. -/
import Derived.Test.YtkpelaojjfcpfaaCutC
import Derived.Test.YtkpelaojjfcpfaaSumM
namespace Go.Proofs.Ytkpelaojjfcpfaa
open Go.RowKit
set_option linter.unusedVariables false

/-- A slice of slices of bytes reads as these lists. -/
def Rowz (w : World) (A : Option Addr) (n c : Nat) (ls : List (List UInt8)) : Prop :=
  ls.length = n ∧ n ≤ c ∧ c ≤ 9223372036854775807 ∧ (0 < n → ∃ b o, A = some ⟨b, o, none⟩ ∧ ∀ i (h : i < ls.length), ∃ A' n' c', w.cell? ⟨b, o + i, none⟩ = some (.slice A' n' c') ∧ Byt w A' n' c' ls[i])

theorem take_snocL (ls : List (List UInt8)) (k : Nat) (h : k < ls.length) : (ls.take (k + 1)).flatten = (ls.take k).flatten ++ ls[k] := by
  rw [List.take_succ_eq_append_getElem h, List.flatten_append]
  simp only [List.flatten_cons, List.flatten_nil, List.append_nil]
/-- How far a byte is moved up. -/
def shOf : Bool → Int | true => 8 | false => 0
theorem flat_len (ls : List (List UInt8)) (k : Nat) : (ls.take k).flatten.length ≤ ls.flatten.length := by
  have h := congrArg (fun l : List (List UInt8) => l.flatten.length) (List.take_append_drop k ls)
  simp only [List.flatten_append, List.length_append] at h
  omega

theorem part_bound (ls : List (List UInt8)) (k j : Nat) (hk : k < ls.length) (X : Nat × Bool) (hX : runS (0, true) (ls.take k).flatten = X) (hn : ls.flatten.length ≤ 1099511627776) :
    (runS X (ls[k].take j)).1 ≤ 71776119061217280 := by
  have h1 := runS_le ((ls.take k).flatten ++ ls[k].take j) (0, true)
  rw [runS_app, hX] at h1
  have h2 := flat_len ls (k + 1)
  rw [take_snocL ls k hk] at h2
  simp only [List.length_append, List.length_take] at h1 h2
  omega

theorem low_u64 (x : Nat) (h : x ≤ 71776119061217280) : IntKind.u64.wrap ((x : Int) / 65536 + bits .and .u64 (x : Int) 65535) = ((x / 65536 + x % 65536 : Nat) : Int) := by
  have e : bits .and .u64 (x : Int) 65535 = ((x % 65536 : Nat) : Int) := by
    have := u64_and_nat x 65535 (by omega) (by omega)
    rw [show ((65535 : Nat) : Int) = 65535 from rfl] at this
    rw [this, show (65535 : Nat) = 2 ^ 16 - 1 from rfl, Nat.and_two_pow_sub_one_eq_mod]
  rw [e, IntWalk.u64_in _ (by omega)]
  omega
theorem flip16 (x : Nat) (h : x ≤ 65535) : 65535 ^^^ x = 65535 - x := by
  have h1 : (BitVec.allOnes 16 ^^^ BitVec.ofNat 16 x).toNat = 65535 - x := by
    rw [BitVec.allOnes_xor, BitVec.toNat_not, BitVec.toNat_ofNat, Nat.mod_eq_of_lt (by omega)]
  rw [BitVec.toNat_xor, BitVec.toNat_allOnes, BitVec.toNat_ofNat, Nat.mod_eq_of_lt (by omega)] at h1
  exact h1
theorem not_u16 (x : Nat) (h : x ≤ 65535) : bits .xor .u16 IntKind.u16.max (x : Int) = ((65535 - x : Nat) : Int) := by
  have := u16_xor_nat 65535 x (by omega) (by omega)
  rw [flip16 x h] at this
  exact this

set_option maxHeartbeats 400000 in
theorem Sum_yes (A : Option Addr) (n c : Nat) (ls : List (List UInt8)) (w : World) (h : Rowz w A n c ls) (hn : ls.flatten.length ≤ 1099511627776) :
    Calls Try.prog 44 #[.slice A n c] w fun e w' => e = .returned (.int .u16 (csumM ls.flatten : Int)) ∧ w = w' := by
  have hnc := h.2.1
  have hcc := h.2.2.1
  go_enter Try.func44, Try.ntmps44
  go_wp2
  go_loop [3, 4, 11] (fun t sh i => ∃ k : Nat, k ≤ n ∧ i = .int .i64 k ∧ t = .int .u64 ((runS (0, true) (ls.take k).flatten).1 : Int) ∧ sh = .int .i64 (shOf (runS (0, true) (ls.take k).flatten).2)) (fun _ _ i => n - (intOf i).toNat)
  case atStart => exact ⟨0, Nat.zero_le _, rfl, rfl, rfl⟩
  case round =>
    obtain ⟨k, hk, rfl, rfl, rfl⟩ := hrel
    by_cases hlt : k < n
    · have hkl : k < ls.length := by rw [h.1]; exact hlt
      obtain ⟨b, o, rfl, hcell⟩ := h.2.2.2 (by omega)
      obtain ⟨A', n', c', hce, hby⟩ := hcell k hkl
      have hn' : n' ≤ c' := hby.2.1
      have hc' : c' ≤ 9223372036854775807 := hby.2.2.1
      clear hcell
      generalize hX : runS (0, true) (ls.take k).flatten = X
      have HX := Lib.hid hX
      clear hX
      go_wp2
      go_loop [3, 4, 17] (fun t sh i => ∃ j : Nat, j ≤ n' ∧ i = .int .i64 j ∧ t = .int .u64 ((runS X (ls[k].take j)).1 : Int) ∧ sh = .int .i64 (shOf (runS X (ls[k].take j)).2)) (fun _ _ i => n' - (intOf i).toNat)
      case atStart => exact ⟨0, Nat.zero_le _, rfl, rfl, rfl⟩
      case round =>
        obtain ⟨j, hj, rfl, rfl, rfl⟩ := hrel
        by_cases hjl : j < n'
        · have hjl' : j < ls[k].length := by rw [hby.1]; exact hjl
          obtain ⟨b', o', rfl, hcb⟩ := hby.at (i := j) hjl'
          have hsn := runS_snoc X (ls[k].take j) (ls[k][j])
          rw [← take_snoc' _ _ hjl'] at hsn
          have hbo := part_bound ls k j hkl X HX.out hn
          generalize runS X (ls[k].take j) = Y at *
          have HB := Lib.hid hbo
          clear hbo
          obtain ⟨ys, yb⟩ := Y
          have hbd := (ls[k][j]).toNat_lt
          have hys : (ys, yb).1 ≤ 71776119061217280 := HB.out
          simp only at hys
          have HSN := Lib.hid hsn
          clear hsn
          cases yb
          · have hs0 : shOf false = 0 := rfl
            go_wp2
            go_round
            case rel => exact ⟨j + 1, by omega, by go_num, by rw [HSN.out]; rfl, by rw [HSN.out]; rfl⟩
            case measure => simp [intOf]; omega
          · have hs8 : shOf true = 8 := rfl
            go_wp2
            go_round
            case rel => exact ⟨j + 1, by omega, by go_num, by rw [HSN.out]; simp [stepS], by rw [HSN.out]; rfl⟩
            case measure => simp [intOf]; omega
        · have hfull : ls[k].take j = ls[k] := List.take_of_length_le (by rw [hby.1]; omega)
          have HF := Lib.hid hfull
          clear hfull
          go_wp2
          go_round
          case rel => exact ⟨k + 1, by omega, by go_num, by rw [HF.out, take_snocL ls k hkl, runS_app, HX.out], by rw [HF.out, take_snocL ls k hkl, runS_app, HX.out]⟩
          case measure => simp [intOf]; omega
    · have hfull : ls.take k = ls := List.take_of_length_le (by rw [h.1]; omega)
      rw [hfull]
      have hS : (runS (0, true) ls.flatten).1 ≤ 71776119061217280 := by have := runS_le ls.flatten (0, true); simp only at this; omega
      have hsum : csumM ls.flatten = 65535 - fold16 (runS (0, true) ls.flatten).1 := rfl
      generalize runS (0, true) ls.flatten = X at *
      have HS := Lib.hid hsum
      clear hsum hfull
      go_wp2
      go_loop [3] (fun t => ∃ x : Nat, x ≤ 71776119061217280 ∧ fold16 x = fold16 X.1 ∧ t = .int .u64 (x : Int)) (fun t => (intOf t).toNat)
      case atStart => exact ⟨X.1, hS, rfl, rfl⟩
      case round =>
        obtain ⟨x, hx, hfx, rfl⟩ := hrel
        have HFX := Lib.hid hfx
        clear hfx
        by_cases hbig : 65535 < x
        · have HLo := Lib.hid (low_u64 x hx)
          have HFs := Lib.hid (fold16_step x hbig)
          have HLe := Lib.hid (fold_less x hbig)
          go_wp2
          go_round
          case rel => exact ⟨x / 65536 + x % 65536, by have := HLe.out; omega, by rw [HFs.out, HFX.out], by rw [HLo.out]⟩
          case measure => rw [HLo.out]; have := HLe.out; simp [intOf]; omega
        · have HNo := Lib.hid (not_u16 x (by omega))
          have HFs := Lib.hid (fold16_small x (by omega))
          go_wp2
          go_ret
          refine ⟨?_, rfl⟩
          refine congrArg (fun z => Ending.returned (.int .u16 z)) ?_
          rw [HS.out, ← HFX.out, HFs.out]
          exact HNo.out
end Go.Proofs.Ytkpelaojjfcpfaa
