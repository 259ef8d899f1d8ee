/- Contracts of strings.Cut at a text of one byte. Package inet: contracts of Text, parseBits, ParsePrefix, Prefix.Text, Has. -/
import Derived.Test.YtflhbidmjlfjkaaDoorLib
import Derived.Lib.Strings
import Derived.Lib.Slices
import Derived.Lib.Walk
import Derived.Lib.Bytealg
import Derived.Test.YtflhbidmjlfjkaaDoorInH
import Derived.Test.YtflhbidmjlfjkaaDoorRgF
namespace Go.Proofs.YtflhbidmjlfjkaaDoor
open Go.RowKit
set_option linter.unusedVariables false

set_option maxRecDepth 100000 in
theorem idxByte (s : ByteArray) (c : UInt8) (w : World) :
    Calls Tryd.prog 97 #[.string s, .int .u8 (c.toNat : Int)] w fun e w' => e = .returned (.int .i64 (Lib.indexByte s.data.toList c)) ∧ w = w' := by
  have hc : ((c.toNat : Int).toNat).toUInt8 = c := by simp
  have HC := Lib.hid hc
  clear hc
  go_enter Tryd.func97, Tryd.ntmps97
  go_wp2
  rw [run_callFunc_extern Tryd.func108 (by kernel_rfl) (by kernel_rfl) (by kernel_rfl) (e := Extern.BytealgIndexByte.indexByte) (by kernel_rfl), Lib.run_indexByteString]
  simp only [Result.andThen]
  rw [Oper.upon_value]
  go_wp2
  go_ret
  exact ⟨by rw [← HC.out]; rfl, rfl⟩

theorem indexByte_lt (l : List UInt8) (c : UInt8) : -1 ≤ Lib.indexByte l c ∧ Lib.indexByte l c < l.length := by
  induction l with
  | nil => simp [Lib.indexByte]
  | cons b l ih =>
    unfold Lib.indexByte
    split
    · simp <;> omega
    · split
      · simp <;> omega
      · simp <;> omega

set_option maxRecDepth 100000 in
set_option maxHeartbeats 2000000 in
theorem idxOne (s : ByteArray) (c : UInt8) (w : World) :
    Calls Tryd.prog 83 #[.string s, .string ⟨#[c]⟩] w fun e w' => e = .returned (.int .i64 (Lib.indexByte s.data.toList c)) ∧ w = w' := by
  have HI := Lib.hid (idxByte s c)
  go_enter Tryd.func83, Tryd.ntmps83
  go_wp2_with (go_at_call 97; refine (HI.out _).mono ?_; rintro e w' ⟨rfl, rfl⟩)
  · have h : ([c] == s.toList) = true := by assumption
    go_ret
    refine ⟨?_, rfl⟩
    have e : s.data.toList = [c] := by rw [← Lib.toList_data]; exact (beq_iff_eq.1 h).symm
    rw [e]
    simp [Lib.indexByte]
  · go_ret
    exact ⟨rfl, rfl⟩

set_option maxRecDepth 100000 in
set_option maxHeartbeats 2000000 in
theorem cutAt (s : ByteArray) (c : UInt8) (i : Nat) (hs : s.size ≤ 9223372036854775806) (hi : Lib.indexByte s.data.toList c = (i : Int)) (w : World) :
    Calls Tryd.prog 72 #[.string s, .string ⟨#[c]⟩] w fun e w' => e = .returned (.tuple #[.string (s.extract 0 i), .string (s.extract (i + 1) s.size), .bool true]) ∧ ∃ q, w' = w.drewN q := by
  have hlt := indexByte_lt s.data.toList c
  rw [hi] at hlt
  have hl : s.data.toList.length = s.size := by rw [Lib.size_eq]
  rw [hl] at hlt
  have hlt2 : i < s.size := by omega
  have hI := idxOne s c
  rw [hi] at hI
  have HI := Lib.hid hI
  clear hI hlt hl hi
  go_enter Tryd.func72, Tryd.ntmps72
  go_wp2_with fail
  refine (HI.out _).mono ?_
  rintro e w' ⟨rfl, rfl⟩
  go_wp2_with fail
  go_quiet (fail)
  go_wp2
  go_ret3
  exact ⟨rfl, _, rfl⟩
set_option maxRecDepth 100000 in
set_option maxHeartbeats 2000000 in
theorem cutNone (s : ByteArray) (c : UInt8) (hi : Lib.indexByte s.data.toList c = -1) (w : World) :
    Calls Tryd.prog 72 #[.string s, .string ⟨#[c]⟩] w fun e w' => e = .returned (.tuple #[.string s, .string ⟨#[]⟩, .bool false]) ∧ w = w' := by
  have hI := idxOne s c
  rw [hi] at hI
  have HI := Lib.hid hI
  clear hI hi
  go_enter Tryd.func72, Tryd.ntmps72
  go_wp2_with fail
  refine (HI.out _).mono ?_
  rintro e w' ⟨rfl, rfl⟩
  go_wp2
  go_ret3
  exact ⟨rfl, rfl⟩
end Go.Proofs.YtflhbidmjlfjkaaDoor
namespace Go.Proofs.YtflhbidmjlfjkaaDoor
open Go.RowKit Go.Sort
set_option linter.unusedVariables false

theorem istrCut (s : ByteArray) (c : UInt8) (i : Nat) (hs : s.size ≤ 9223372036854775806) (hi : Lib.indexByte s.data.toList c = (i : Int)) (w : World) :
    Calls Tryd.prog 53 #[.string s, .string ⟨#[c]⟩] w fun e w' => e = .returned (.tuple #[.string (s.extract 0 i), .string (s.extract (i + 1) s.size), .bool true]) ∧ ∃ q, w' = w.drewN q := by
  have HC := Lib.hid (cutAt s c i hs hi)
  clear hi
  go_enter Tryd.func53, Tryd.ntmps53
  go_wp2_with fail
  refine (HC.out _).mono ?_
  rintro e w1 ⟨rfl, q, rfl⟩
  go_wp2
  go_ret3
  exact ⟨rfl, q, rfl⟩
theorem istrCutN (s : ByteArray) (c : UInt8) (hi : Lib.indexByte s.data.toList c = -1) (w : World) :
    Calls Tryd.prog 53 #[.string s, .string ⟨#[c]⟩] w fun e w' => e = .returned (.tuple #[.string s, .string ⟨#[]⟩, .bool false]) ∧ w = w' := by
  have HC := Lib.hid (cutNone s c hi)
  clear hi
  go_enter Tryd.func53, Tryd.ntmps53
  go_wp2_with fail
  refine (HC.out _).mono ?_
  rintro e w1 ⟨rfl, rfl⟩
  go_wp2
  go_ret3
  exact ⟨rfl, rfl⟩
theorem itoa_yes (n : Nat) (hn : n < 256) (w : World) (hG : Gl w) : Calls Tryd.prog 57 #[.int .i64 (n : Int)] w fun e w' => e = .returned (.string ⟨(digM n).toArray⟩) ∧ Kept Nil w w' := by
  refine (Tryd.strconv_Itoa (n : Int) (by omega) (by omega) w hG.pow).mono ?_
  rintro e w' ⟨rfl, k, os, rfl⟩
  refine ⟨?_, ?_⟩
  · rw [itoa_dig ⟨n, hn⟩]
  · exact kept_grown' w (w.drawn + k) os
set_option maxRecDepth 100000 in
set_option maxHeartbeats 2000000 in
theorem itext_yes (ip : Nat) (hip : ip < 4294967296) (w : World) (hG : Gl w) : Calls Tryd.prog 25 #[.int .u32 (ip : Int)] w fun e w' => e = .returned (.string ⟨(textM ip).toArray⟩) ∧ Kept Nil w w' := by
  have HT := Lib.hid (show textM ip = digM (ip / 16777216) ++ dot :: (digM (ip / 65536 % 256) ++ dot :: (digM (ip / 256 % 256) ++ dot :: digM (ip % 256))) from rfl)
  have g0 : ∀ u, Gl u → Calls Tryd.prog 57 #[.int .i64 ((ip / 16777216 : Nat) : Int)] u _ := fun u h => itoa_yes (ip / 16777216) (by omega) u h
  have g1 : ∀ u, Gl u → Calls Tryd.prog 57 #[.int .i64 ((ip / 65536 % 256 : Nat) : Int)] u _ := fun u h => itoa_yes (ip / 65536 % 256) (by omega) u h
  have g2 : ∀ u, Gl u → Calls Tryd.prog 57 #[.int .i64 ((ip / 256 % 256 : Nat) : Int)] u _ := fun u h => itoa_yes (ip / 256 % 256) (by omega) u h
  have g3 : ∀ u, Gl u → Calls Tryd.prog 57 #[.int .i64 ((ip % 256 : Nat) : Int)] u _ := fun u h => itoa_yes (ip % 256) (by omega) u h
  have k0 := dig_len (ip / 16777216)
  have k1 := dig_len (ip / 65536 % 256)
  have k2 := dig_len (ip / 256 % 256)
  have k3 := dig_len (ip % 256)
  generalize digM (ip / 16777216) = d0 at *
  generalize digM (ip / 65536 % 256) = d1 at *
  generalize digM (ip / 256 % 256) = d2 at *
  generalize digM (ip % 256) = d3 at *
  have s0 : (⟨d0.toArray⟩ : ByteArray).size ≤ 3 := k0
  have s1 : (⟨d1.toArray⟩ : ByteArray).size ≤ 3 := k1
  have s2 : (⟨d2.toArray⟩ : ByteArray).size ≤ 3 := k2
  have s3 : (⟨d3.toArray⟩ : ByteArray).size ≤ 3 := k3
  have sd : (⟨#[46]⟩ : ByteArray).size = 1 := rfl
  have a1 : ((⟨#[46]⟩ : ByteArray) ++ ⟨d1.toArray⟩).size ≤ 4 := by rw [ByteArray.size_append]; omega
  have a2 : ((⟨#[46]⟩ : ByteArray) ++ ⟨d2.toArray⟩).size ≤ 4 := by rw [ByteArray.size_append]; omega
  have a3 : ((⟨#[46]⟩ : ByteArray) ++ ⟨d3.toArray⟩).size ≤ 4 := by rw [ByteArray.size_append]; omega
  have q1 : ((⟨d0.toArray⟩ : ByteArray) ++ ((⟨#[46]⟩ : ByteArray) ++ ⟨d1.toArray⟩)).size ≤ 7 := by rw [ByteArray.size_append]; omega
  have q2 : (((⟨d0.toArray⟩ : ByteArray) ++ ((⟨#[46]⟩ : ByteArray) ++ ⟨d1.toArray⟩)) ++ ((⟨#[46]⟩ : ByteArray) ++ ⟨d2.toArray⟩)).size ≤ 11 := by rw [ByteArray.size_append]; omega
  have HF := Lib.hid (show (((⟨d0.toArray⟩ : ByteArray) ++ ((⟨#[46]⟩ : ByteArray) ++ ⟨d1.toArray⟩)) ++ ((⟨#[46]⟩ : ByteArray) ++ ⟨d2.toArray⟩)) ++ ((⟨#[46]⟩ : ByteArray) ++ ⟨d3.toArray⟩) = (⟨(textM ip).toArray⟩ : ByteArray) by
    rw [HT.out]
    have hd : (⟨#[46]⟩ : ByteArray) = ⟨[dot].toArray⟩ := rfl
    rw [hd, str_app, str_app, str_app, str_app, str_app, str_app]
    simp)
  have HG := Lib.hid hG
  have G0 := Lib.hid g0
  have G1 := Lib.hid g1
  have G2 := Lib.hid g2
  have G3 := Lib.hid g3
  have e0 : (ip : Int) / 16777216 = ((ip / 16777216 : Nat) : Int) := by omega
  have e1 : (ip : Int) / 65536 % 256 = ((ip / 65536 % 256 : Nat) : Int) := by omega
  have e2 : (ip : Int) / 256 % 256 = ((ip / 256 % 256 : Nat) : Int) := by omega
  have e3 : (ip : Int) % 256 = ((ip % 256 : Nat) : Int) := by omega
  have E0 := Lib.hid e0
  have E1 := Lib.hid e1
  have E2 := Lib.hid e2
  have E3 := Lib.hid e3
  clear g0 g1 g2 g3 e0 e1 e2 e3 k0 k1 k2 k3 hG HT
  go_enter Tryd.func25, Tryd.ntmps25
  go_wp2_with (fail)
  try rw [E0.out]
  refine (G0.out _ HG.out).mono ?_
  rintro e w1 ⟨rfl, hk1⟩
  have HK1 := Lib.hid hk1
  clear hk1
  go_upto_region 3 with (fail)
  refine wp_loop_rounds 4 ?_
  rw [rounds_succ]
  go_wp2_with (fail)
  try rw [E1.out]
  refine (G1.out _ (HG.out.kept HK1.out)).mono ?_
  rintro e w2 ⟨rfl, hk2⟩
  have HK2 := Lib.hid (HK1.out.then hk2)
  clear hk2
  go_wp2_with (fail)
  rw [rounds_succ]
  go_wp2_with (fail)
  try rw [E2.out]
  refine (G2.out _ (HG.out.kept HK2.out)).mono ?_
  rintro e w3 ⟨rfl, hk3⟩
  have HK3 := Lib.hid (HK2.out.then hk3)
  clear hk3
  go_wp2_with (fail)
  rw [rounds_succ]
  go_wp2_with (fail)
  try rw [E3.out]
  refine (G3.out _ (HG.out.kept HK3.out)).mono ?_
  rintro e w4 ⟨rfl, hk4⟩
  have HK4 := Lib.hid (HK3.out.then hk4)
  clear hk4
  go_wp2_with (fail)
  rw [rounds_succ]
  go_wp2
  go_ret
  exact ⟨by rw [← HF.out]; rfl, HK4.out⟩
end Go.Proofs.YtflhbidmjlfjkaaDoor
