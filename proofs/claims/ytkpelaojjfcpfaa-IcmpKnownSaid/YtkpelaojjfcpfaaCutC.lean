/- Contracts of package cut's cutter, third part: numbers and addresses. -/
import Derived.Test.YtkpelaojjfcpfaaCutB
import Derived.Test.YtkpelaojjfcpfaaNum
import Derived.Laws.CopyOwn
import Derived.Deep.RegionLaw
import Derived.RegionTactic
namespace Go.Proofs.Ytkpelaojjfcpfaa
open Go.RowKit
set_option linter.unusedVariables false

theorem join_u64 (a : Nat) (b : UInt8) (ha : a < 281474976710656) : bits .or .u64 (IntKind.u64.wrap ((a : Int) * 256)) (IntKind.u64.wrap (b.toNat : Int)) = ((a * 256 + b.toNat : Nat) : Int) := by
  have hb := b.toNat_lt
  rw [IntWalk.u64_in _ (by omega), IntWalk.u64_in (b.toNat : Int) (by omega)]
  have e : ((a : Int) * 256) = ((a * 256 : Nat) : Int) := by omega
  rw [e, u64_or_nat _ _ (by omega) (by omega), nat_join 8 _ _ (by omega) (by omega)]
theorem take_snoc' (l : List UInt8) (k : Nat) (h : k < l.length) : l.take (k + 1) = l.take k ++ [l[k]] := by
  rw [List.take_succ_eq_append_getElem h]
theorem takeM_len2 (s : Cst) (x : Int) : (takeM s x).1.length ≤ x.toNat := by
  unfold takeM
  split <;> try simp
  split <;> try simp
  split <;> try simp
  omega

theorem num8 (g : Nat) (A : Option Addr) (n c : Nat) (s : Cst) (w : World) (h : Cutr w g A n c s) :
    Calls Try.prog 45 #[.pointer (some ⟨g, 0, none⟩), .int .i64 1] w fun e w' =>
      e = .returned (.int .u8 (numM (takeM s 1).1 : Int)) ∧ Cutr w' g A n c (takeM s 1).2 ∧ Kept (One g) w w' := by
  have hlen := takeM_len2 s 1
  go_enter Try.func45, Try.ntmps45
  go_wp2_with fail
  refine (take_yes g A n c s 1 _ h (by omega)).mono ?_
  rintro e w1 ⟨A', m, c', rfl, hb, hc, hk, hl⟩
  have Hc := Lib.hid hc
  have Hk := Lib.hid hk
  clear hc hk hl h
  generalize hG : (takeM s 1).1 = l at *
  have HG := Lib.hid hG
  clear hG
  have hm0 : m ≤ 1 := by have := hb.1; have : (((1 : Int)).toNat) = 1 := rfl; omega
  have hm : m ≤ c' := hb.2.1
  have hm' : c' ≤ 9223372036854775807 := hb.2.2.1
  have Hb := Lib.hid hb
  have HL := Lib.hid hlen
  clear hb hlen
  go_wp2
  go_loop [5, 12] (fun t i => ∃ k : Nat, k ≤ m ∧ i = .int .i64 k ∧ t = .int .u64 (numM (l.take k) : Int)) (fun _ i => m - (intOf i).toNat)
  case atStart => exact ⟨0, Nat.zero_le _, rfl, rfl⟩
  case round =>
    obtain ⟨k, hk, rfl, rfl⟩ := hrel
    by_cases hlt : k < m
    · have hkl : k < l.length := by rw [Hb.out.1]; exact hlt
      obtain ⟨b, o, rfl, hcell⟩ := Hb.out.at (i := k) hkl
      have hlt2 : numM (l.take k) < 281474976710656 := by
        have h1 := numM_lt (l.take k)
        have h2 : (256 : Nat) ^ (l.take k).length ≤ 256 ^ 4 := Nat.pow_le_pow_right (by omega) (by simp; omega)
        omega
      have HJ := Lib.hid (join_u64 (numM (l.take k)) l[k] hlt2)
      have HS := Lib.hid (numM_snoc (l.take k) l[k])
      have HT := Lib.hid (take_snoc' l k hkl)
      clear hlt2
      go_wp2
      go_round
      case rel => exact ⟨k + 1, by omega, by go_num, by rw [HJ.out, HT.out, HS.out]⟩
      case measure => simp [intOf]; omega
    · have hkm : k = m := by omega
      have ht : l.take k = l := by rw [List.take_of_length_le]; rw [Hb.out.1]; omega
      have hbd : numM l ≤ 255 := by
        have h1 := numM_lt l
        have h2 : (256 : Nat) ^ l.length ≤ 256 ^ 1 := Nat.pow_le_pow_right (by omega) (by rw [Hb.out.1]; exact hm0)
        have h3 : (256 : Nat) ^ 1 = 255 + 1 := by decide
        omega
      have HC := Lib.hid (IntWalk.u8_in (numM l : Int) (by omega))
      have HT := Lib.hid ht
      have HB := Lib.hid hbd
      clear ht hkm hbd
      go_wp2
      go_ret
      refine ⟨?_, Hc.out, Hk.out⟩
      rw [HT.out]
      refine congrArg (fun z => Ending.returned (.int .u8 z)) ?_
      rw [HG.out]
      have hbd := HB.out
      first | exact HC.out | omega
theorem num16 (g : Nat) (A : Option Addr) (n c : Nat) (s : Cst) (w : World) (h : Cutr w g A n c s) :
    Calls Try.prog 57 #[.pointer (some ⟨g, 0, none⟩), .int .i64 2] w fun e w' =>
      e = .returned (.int .u16 (numM (takeM s 2).1 : Int)) ∧ Cutr w' g A n c (takeM s 2).2 ∧ Kept (One g) w w' := by
  have hlen := takeM_len2 s 2
  go_enter Try.func57, Try.ntmps57
  go_wp2_with fail
  refine (take_yes g A n c s 2 _ h (by omega)).mono ?_
  rintro e w1 ⟨A', m, c', rfl, hb, hc, hk, hl⟩
  have Hc := Lib.hid hc
  have Hk := Lib.hid hk
  clear hc hk hl h
  generalize hG : (takeM s 2).1 = l at *
  have HG := Lib.hid hG
  clear hG
  have hm0 : m ≤ 2 := by have := hb.1; have : (((2 : Int)).toNat) = 2 := rfl; omega
  have hm : m ≤ c' := hb.2.1
  have hm' : c' ≤ 9223372036854775807 := hb.2.2.1
  have Hb := Lib.hid hb
  have HL := Lib.hid hlen
  clear hb hlen
  go_wp2
  go_loop [5, 12] (fun t i => ∃ k : Nat, k ≤ m ∧ i = .int .i64 k ∧ t = .int .u64 (numM (l.take k) : Int)) (fun _ i => m - (intOf i).toNat)
  case atStart => exact ⟨0, Nat.zero_le _, rfl, rfl⟩
  case round =>
    obtain ⟨k, hk, rfl, rfl⟩ := hrel
    by_cases hlt : k < m
    · have hkl : k < l.length := by rw [Hb.out.1]; exact hlt
      obtain ⟨b, o, rfl, hcell⟩ := Hb.out.at (i := k) hkl
      have hlt2 : numM (l.take k) < 281474976710656 := by
        have h1 := numM_lt (l.take k)
        have h2 : (256 : Nat) ^ (l.take k).length ≤ 256 ^ 4 := Nat.pow_le_pow_right (by omega) (by simp; omega)
        omega
      have HJ := Lib.hid (join_u64 (numM (l.take k)) l[k] hlt2)
      have HS := Lib.hid (numM_snoc (l.take k) l[k])
      have HT := Lib.hid (take_snoc' l k hkl)
      clear hlt2
      go_wp2
      go_round
      case rel => exact ⟨k + 1, by omega, by go_num, by rw [HJ.out, HT.out, HS.out]⟩
      case measure => simp [intOf]; omega
    · have hkm : k = m := by omega
      have ht : l.take k = l := by rw [List.take_of_length_le]; rw [Hb.out.1]; omega
      have hbd : numM l ≤ 65535 := by
        have h1 := numM_lt l
        have h2 : (256 : Nat) ^ l.length ≤ 256 ^ 2 := Nat.pow_le_pow_right (by omega) (by rw [Hb.out.1]; exact hm0)
        have h3 : (256 : Nat) ^ 2 = 65535 + 1 := by decide
        omega
      have HC := Lib.hid (IntWalk.u16_in (numM l : Int) (by omega))
      have HT := Lib.hid ht
      have HB := Lib.hid hbd
      clear ht hkm hbd
      go_wp2
      go_ret
      refine ⟨?_, Hc.out, Hk.out⟩
      rw [HT.out]
      refine congrArg (fun z => Ending.returned (.int .u16 z)) ?_
      rw [HG.out]
      have hbd := HB.out
      first | exact HC.out | omega
theorem num32 (g : Nat) (A : Option Addr) (n c : Nat) (s : Cst) (w : World) (h : Cutr w g A n c s) :
    Calls Try.prog 64 #[.pointer (some ⟨g, 0, none⟩), .int .i64 4] w fun e w' =>
      e = .returned (.int .u32 (numM (takeM s 4).1 : Int)) ∧ Cutr w' g A n c (takeM s 4).2 ∧ Kept (One g) w w' := by
  have hlen := takeM_len2 s 4
  go_enter Try.func64, Try.ntmps64
  go_wp2_with fail
  refine (take_yes g A n c s 4 _ h (by omega)).mono ?_
  rintro e w1 ⟨A', m, c', rfl, hb, hc, hk, hl⟩
  have Hc := Lib.hid hc
  have Hk := Lib.hid hk
  clear hc hk hl h
  generalize hG : (takeM s 4).1 = l at *
  have HG := Lib.hid hG
  clear hG
  have hm0 : m ≤ 4 := by have := hb.1; have : (((4 : Int)).toNat) = 4 := rfl; omega
  have hm : m ≤ c' := hb.2.1
  have hm' : c' ≤ 9223372036854775807 := hb.2.2.1
  have Hb := Lib.hid hb
  have HL := Lib.hid hlen
  clear hb hlen
  go_wp2
  go_loop [5, 12] (fun t i => ∃ k : Nat, k ≤ m ∧ i = .int .i64 k ∧ t = .int .u64 (numM (l.take k) : Int)) (fun _ i => m - (intOf i).toNat)
  case atStart => exact ⟨0, Nat.zero_le _, rfl, rfl⟩
  case round =>
    obtain ⟨k, hk, rfl, rfl⟩ := hrel
    by_cases hlt : k < m
    · have hkl : k < l.length := by rw [Hb.out.1]; exact hlt
      obtain ⟨b, o, rfl, hcell⟩ := Hb.out.at (i := k) hkl
      have hlt2 : numM (l.take k) < 281474976710656 := by
        have h1 := numM_lt (l.take k)
        have h2 : (256 : Nat) ^ (l.take k).length ≤ 256 ^ 4 := Nat.pow_le_pow_right (by omega) (by simp; omega)
        omega
      have HJ := Lib.hid (join_u64 (numM (l.take k)) l[k] hlt2)
      have HS := Lib.hid (numM_snoc (l.take k) l[k])
      have HT := Lib.hid (take_snoc' l k hkl)
      clear hlt2
      go_wp2
      go_round
      case rel => exact ⟨k + 1, by omega, by go_num, by rw [HJ.out, HT.out, HS.out]⟩
      case measure => simp [intOf]; omega
    · have hkm : k = m := by omega
      have ht : l.take k = l := by rw [List.take_of_length_le]; rw [Hb.out.1]; omega
      have hbd : numM l ≤ 4294967295 := by
        have h1 := numM_lt l
        have h2 : (256 : Nat) ^ l.length ≤ 256 ^ 4 := Nat.pow_le_pow_right (by omega) (by rw [Hb.out.1]; exact hm0)
        have h3 : (256 : Nat) ^ 4 = 4294967295 + 1 := by decide
        omega
      have HC := Lib.hid (IntWalk.u32_in (numM l : Int) (by omega))
      have HT := Lib.hid ht
      have HB := Lib.hid hbd
      clear ht hkm hbd
      go_wp2
      go_ret
      refine ⟨?_, Hc.out, Hk.out⟩
      rw [HT.out]
      refine congrArg (fun z => Ending.returned (.int .u32 z)) ?_
      rw [HG.out]
      have hbd := HB.out
      first | exact HC.out | omega
theorem Byte_yes (g : Nat) (A : Option Addr) (n c : Nat) (s : Cst) (w : World) (h : Cutr w g A n c s) :
    Calls Try.prog 23 #[.pointer (some ⟨g, 0, none⟩)] w fun e w' =>
      e = .returned (.int .u8 (numM (takeM s 1).1 : Int)) ∧ Cutr w' g A n c (takeM s 1).2 ∧ Kept (One g) w w' := by
  go_enter Try.func23, Try.ntmps23
  go_wp2_with fail
  refine (num8 g A n c s _ h).mono ?_
  rintro e w1 ⟨rfl, hc, hk⟩
  have Hc := Lib.hid hc
  have Hk := Lib.hid hk
  clear hc hk h
  go_wp2
  go_ret
  exact ⟨rfl, Hc.out, Hk.out⟩
theorem Two_yes (g : Nat) (A : Option Addr) (n c : Nat) (s : Cst) (w : World) (h : Cutr w g A n c s) :
    Calls Try.prog 43 #[.pointer (some ⟨g, 0, none⟩)] w fun e w' =>
      e = .returned (.int .u16 (numM (takeM s 2).1 : Int)) ∧ Cutr w' g A n c (takeM s 2).2 ∧ Kept (One g) w w' := by
  go_enter Try.func43, Try.ntmps43
  go_wp2_with fail
  refine (num16 g A n c s _ h).mono ?_
  rintro e w1 ⟨rfl, hc, hk⟩
  have Hc := Lib.hid hc
  have Hk := Lib.hid hk
  clear hc hk h
  go_wp2
  go_ret
  exact ⟨rfl, Hc.out, Hk.out⟩
theorem Four_yes (g : Nat) (A : Option Addr) (n c : Nat) (s : Cst) (w : World) (h : Cutr w g A n c s) :
    Calls Try.prog 63 #[.pointer (some ⟨g, 0, none⟩)] w fun e w' =>
      e = .returned (.int .u32 (numM (takeM s 4).1 : Int)) ∧ Cutr w' g A n c (takeM s 4).2 ∧ Kept (One g) w w' := by
  go_enter Try.func63, Try.ntmps63
  go_wp2_with fail
  refine (num32 g A n c s _ h).mono ?_
  rintro e w1 ⟨rfl, hc, hk⟩
  have Hc := Lib.hid hc
  have Hk := Lib.hid hk
  clear hc hk h
  go_wp2
  go_ret
  exact ⟨rfl, Hc.out, Hk.out⟩

/-- Six cells out of the bytes that were taken (all, or none). -/
def macM (l : List UInt8) : List UInt8 := l ++ List.replicate (6 - l.length) 0

theorem macM_len (l : List UInt8) (h : l.length ≤ 6) : (macM l).length = 6 := by simp [macM]; omega
theorem mac_splice (l : List UInt8) (_ : l.length ≤ 6) : splice (bys (List.replicate 6 0)) 0 (bys l) = bys (macM l) := by
  simp only [splice, macM, bys, List.map_append, List.map_replicate, List.take_zero, List.nil_append, List.length_map, Nat.zero_add, List.drop_replicate]
theorem sz5 : (Try.prog.info? 5).map (·.size) = some 1 := by kernel_rfl
end Go.Proofs.Ytkpelaojjfcpfaa
