/- tolllaw09: contracts of plain, wakes. -/
import Derived.Test.YtbkjobmjapbmpaaDhG
import Derived.Test.YtbkjobmjapbmpaaDhW
import Derived.Test.YtbkjobmjapbmpaaMkC
namespace Go.Proofs.Ytbkjobmjapbmpaa
open Go.RowKit Go.Sort
set_option linter.unusedVariables false

def plainH : Dh := { Dh.zero with op := 1 }
theorem plainH_ok : plainH.ok := ⟨⟨rfl, rfl, rfl, rfl⟩, by decide, by decide, by decide, by decide, by decide, by decide, by decide⟩
/-- 240 bytes of a message, and options. -/
def plainB (l : List UInt8) : List UInt8 := headB plainH ++ (mrk ++ l)
def plainG (l : List UInt8) : Dh × Int := match optM l with
  | none => (Dh.zero, 4)
  | some x => ({ plainH with os := x.1, bh := x.2 }, 0)
theorem getD_plain (l : List UInt8) : getD (plainB l) = plainG l := by
  unfold plainB plainG
  rw [getD_form plainH plainH_ok (.inl rfl) l]
  cases optM l <;> rfl
theorem plainB_len (l : List UInt8) : (plainB l).length = 240 + l.length := by
  unfold plainB
  rw [List.length_append, List.length_append, headB_len plainH_ok.s6]
  show 236 + (4 + _) = _
  omega
/-- A block known whole is a row of the call's own. -/
theorem own_blo {w : World} {g B N : Nat} {l : List UInt8} (hb : Blo w g 5 (bys l).toArray) (hl : l.length = N) (hB : B ≤ g) (hN : N ≤ 1099511627776) : w.ownsRow B 5 1 (.slice (some ⟨g, 0, none⟩) N N) N (bys l) :=
  ⟨by rw [bys_len]; omega, .inr ⟨g, N, _, rfl, hB, hb, Nat.le_refl _, by unfold maxLen; omega, by simp [bys_len, hl], by simp [← hl, ← bys_len]⟩⟩
def pl1 : List UInt8 := [1, 1, 6] ++ (List.replicate 240 0).drop 3
def pl2 : List UInt8 := pl1.take 236 ++ mrk ++ pl1.drop 240
theorem pl2_eq : pl2 = headB plainH ++ mrk := by decide +kernel
theorem pl2_is (l : List UInt8) : pl2 ++ l = plainB l := by
  unfold plainB
  rw [← List.append_assoc, pl2_eq]
set_option maxRecDepth 100000 in
set_option maxHeartbeats 4000000 in
theorem plain_yes (A : Option Addr) (n c : Nat) (l : List UInt8) (w : World) (h : Byt w A n c l) (hn : n ≤ 1000) : Calls Try.prog 38 #[.slice A n c] w fun e w' => ∃ v, e = .returned v ∧ Made w w' v (plainB l) := by
  have HY := Lib.hid h
  have HN := Lib.hid hn
  have HL := Lib.hid h.1
  obtain ⟨i0, hi, hz0, hz1, hz2⟩ := info_parts Try.infb
  clear h hn
  go_enter Try.func38, Try.ntmps38
  go_upto_region 2 with (first | (refine wpList_mkC rfl _ _ rfl 240 (by omega) rfl rfl ?_; intro w1 hb1 hk1) | fail)
  have HK1 := Lib.hid hk1
  have HB1 := Lib.hid hb1
  obtain ⟨g, hg⟩ : ∃ g, w.heap.size = g := ⟨_, rfl⟩
  have HG := Lib.hid hg
  rw [hg] at HB1 ⊢
  have HGL := Lib.hid (show g < w1.heap.size from HB1.out.lt)
  clear hb1 hk1 hg
  have hb2 := HB1.out.alloc (.cells #[.int .u8 1, .int .u8 1, .int .u8 6] 5)
  have HB2 := Lib.hid hb2
  have HS2 := Lib.hid (byt_lit w1 [1, 1, 6] 5 #[.int .u8 1, .int .u8 1, .int .u8 6] rfl 3 rfl _ rfl (by decide))
  clear hb2
  go_upto_region 3 with (first | (refine wpList_cp rfl _ _ 31 31 rfl 5 Try.underlying31 sz5 g 0 240 240 3 3 (some ⟨w1.heap.size, 0, none⟩) rfl rfl [1, 1, 6] HS2.out (by decide) (bys (List.replicate 240 0)) 5 HB2.out (by rw [bys_len]; decide) ?_; intro w3 hb3 hk3) | fail)
  have HB3 := Lib.hid (show Blo w3 g 5 (bys pl1).toArray from hb3)
  have HK3 := Lib.hid (HK1.out.trans (((Kept.refl (One g) w1).alloc _).same hk3) (fun i hi hf => by have := HG.out; cases hf; omega))
  clear hb3 hk3 HB2 HS2 HB1 HK1 HGL
  have hb4 := HB3.out.alloc (.cells #[.int .u8 99, .int .u8 130, .int .u8 83, .int .u8 99] 5)
  have HB4 := Lib.hid hb4
  have HS4 := Lib.hid (byt_lit w3 mrk 5 #[.int .u8 99, .int .u8 130, .int .u8 83, .int .u8 99] rfl 4 rfl _ rfl (by decide))
  clear hb4
  go_upto_region 4 with (first | (refine wpList_cp rfl _ _ 31 31 rfl 5 Try.underlying31 sz5 g 236 4 4 4 4 (some ⟨w3.heap.size, 0, none⟩) rfl rfl mrk HS4.out (by decide) (bys pl1) 5 HB4.out (by rw [bys_len]; decide) ?_; intro w5 hb5 hk5) | fail)
  have HB5 := Lib.hid (show Blo w5 g 5 (bys pl2).toArray from hb5)
  have HK5 := Lib.hid (HK3.out.trans (((Kept.refl (One g) w3).alloc _).same hk5) (fun i hi hf => by have := HG.out; cases hf; omega))
  have HO5 := Lib.hid (own_blo HB5.out (N := 240) (by decide) (show w.heap.size ≤ g by have := HG.out; omega) (by decide))
  have HY5 := Lib.hid (HY.out.kept HK5.out (fun _ _ hf => hf))
  clear hb5 hk5 HB4 HS4 HB3 HK3
  go_wp2_with (at_builtin; refine wpList_any rfl _ _ 31 rfl w.heap.size 5 i0 (.int .u8 0) Try.underlying31 hi hz0 hz1 hz2 rfl _ _ _ rfl HO5.out _ _ _ l rfl HY5.out (by have := HN.out; omega) HK5.out.size ?_; intro v' w6 hown hgr _)
  go_ret
  refine ⟨_, rfl, ?_, HK5.out.grown hgr (fun k hk hk' => by have e : g = k := Option.some.inj hk; have := HG.out; omega)⟩
  rw [← bys_app, pl2_is] at hown
  have e : (plainB l).length = 240 + n := by rw [plainB_len, HL.out]
  rw [e]
  exact hown
end Go.Proofs.Ytbkjobmjapbmpaa
