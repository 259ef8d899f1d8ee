/- tollref10: contract of lay. -/
import Derived.Test.YtbkjobmjapbmpaaMg4
import Derived.Test.YtbkjobmjapbmpaaMg26
import Derived.Test.YtbkjobmjapbmpaaMg3
import Derived.IntWalk
import Derived.Lib.Hide
namespace Go.Proofs.Ytbkjobmjapbmpaa
open Go.RowKit Go.Sort
set_option linter.unusedVariables false

theorem bys_appB (a b : List UInt8) : bys (a ++ b) = bys a ++ bys b := by simp [bys]
theorem made_appB {W u u1 u2 : World} {v v' : Value} {L l : List UInt8} {n m : Nat} (h : Made W u v L) (h1 : Kept Nil u u1) (ho : u2.ownsRow W.heap.size 5 1 v' (n + m) (bys L ++ bys l)) (hg : u1.grownBy u2 v.ownBlock) (hn : L.length = n) (hm : l.length = m) : Made W u2 v' (L ++ l) := by
  subst hn hm
  refine ⟨by rw [List.length_append, bys_appB]; exact ho, (h.2.then h1).grown hg (fun k hk hl => ?_)⟩
  have := (h.1.lt k hk).1
  omega
def z8 (W : Nat) : Array Value := (bys (List.replicate W 0)).toArray
set_option maxRecDepth 100000 in
set_option maxHeartbeats 2000000 in
theorem blay2 (V : World) (v : Value) (L : List UInt8) (x : Nat) (u : World) (h : Made V u v L) (hx : x < 18446744073709551616) (hL : L.length ≤ 100000) : Calls Try.prog 46 #[v, .int .u64 (x : Int), .int .i64 2] u fun e u' => ∃ v', e = .returned v' ∧ Made V u' v' (L ++ beM 2 x) := by
  have hmk : ∀ w, (Instr.makeSlice 31 (.int .i64 2) (.int .i64 2)).run Try.prog w = .ok (.slice (some ⟨w.heap.size, 0, none⟩) 2 2) (w.alloc (.cells (bys (List.replicate 2 0)).toArray 5)) := fun _ => by kernel_rfl
  have HM := Lib.hid h
  have HLL := Lib.hid hL
  have HS := Lib.hid h.2.size
  clear h hL
  go_enter Try.func46, Try.ntmps46
  go_wp2
  clear hmk
  obtain ⟨g, hg⟩ : ∃ g, g = u.heap.size := ⟨_, rfl⟩
  rw [← hg]
  have HG := Lib.hid hg
  clear hg
  go_loopw [1, 8] (fun q i wr => ∃ j : Nat, j ≤ 2 ∧ i = .int .i64 (2 - 1 - (j : Int)) ∧ q = .int .u64 ((x / 256 ^ j : Nat) : Int) ∧ Blo wr g 5 (bys (curB 2 x j)).toArray ∧ Kept Nil u wr) (fun _ i _ => (intOf i + 1).toNat)
  case atStart => exact ⟨0, by omega, rfl, by simp, by rw [HG.out]; exact Blo.new u _ _, (Kept.refl Nil u).alloc _⟩
  case round =>
    obtain ⟨j, hj, rfl, rfl, hb, hk⟩ := hrel
    have hq : x / 256 ^ j < 18446744073709551616 := Nat.lt_of_le_of_lt (Nat.div_le_self _ _) hx
    by_cases hlt : j < 2
    · have hst := cur_step 2 x j hlt hb
      have hc := hb.cell (2 - 1 - j)
      have hf := hb.frozen (2 - 1 - j)
      rw [cur_at 2 x j hlt] at hc
      have hi : (2 - 1 - (j : Int)) = ((2 - 1 - j : Nat) : Int) := by omega
      rw [hi] at *
      have hd : x / 256 ^ j / 256 = x / 256 ^ (j + 1) := by rw [Nat.div_div_eq_div_mul, Nat.pow_succ]
      have HD := Lib.hid hd
      have HST := Lib.hid hst
      have HK := Lib.hid hk
      clear hst hd hk hb hi
      generalize x / 256 ^ j = y at *
      generalize hz : 2 - 1 - j = z at *
      have HZ := Lib.hid hz
      have hz4 : z ≤ 2 - 1 := by omega
      have hwy : IntKind.wrap .u8 ((y : Int) % 256) = (y : Int) % 256 := IntWalk.u8_in _ (by omega)
      clear hz
      go_wp2
      go_roundw
      case rel => exact ⟨j + 1, by omega, by have h7 := HZ.out; go_num, by rw [← HD.out]; go_num, HST.out, HK.out.setCell (fun hl => by have := HG.out; simp at hl; omega) _⟩
      case measure => simp [intOf] <;> omega
    · have : j = 2 := by omega
      subst this
      obtain ⟨i0, hi, hz0, hz1, hz2⟩ := info_parts Try.infb
      have hcu : curB 2 x 2 = beM 2 x := cur_full _ _
      rw [hcu] at hb
      have HY := Lib.hid (show Byt wr (some ⟨g, 0, none⟩) 2 2 (beM 2 x) from blk_bytB (r := []) (by rw [List.append_nil]; exact hb) 2 2 (beM_len 2 x) (Nat.le_refl _) (by decide))
      have HO := Lib.hid (own_kept HM.out.1 hk (fun _ _ hf => hf))
      have HK := Lib.hid hk
      clear hb hk hcu
      go_wp2_with (at_builtin; refine wpList_any rfl _ _ 31 rfl V.heap.size 5 i0 (.int .u8 0) Try.underlying31 hi hz0 hz1 hz2 rfl v L.length (bys L) rfl HO.out (some ⟨g, 0, none⟩) 2 2 (beM 2 x) rfl HY.out (by have := HLL.out; omega) (by have := HS.out; have := HK.out.size; omega) ?_; intro v' w2 hown' hgrow hob)
      have HF := Lib.hid (made_appB HM.out HK.out hown' hgrow rfl (beM_len 2 x))
      clear hown' hgrow hob HK HO HM HY
      go_wp2
      go_ret
      exact ⟨v', rfl, HF.out⟩
set_option maxRecDepth 100000 in
set_option maxHeartbeats 2000000 in
theorem blay4 (V : World) (v : Value) (L : List UInt8) (x : Nat) (u : World) (h : Made V u v L) (hx : x < 18446744073709551616) (hL : L.length ≤ 100000) : Calls Try.prog 46 #[v, .int .u64 (x : Int), .int .i64 4] u fun e u' => ∃ v', e = .returned v' ∧ Made V u' v' (L ++ beM 4 x) := by
  have hmk : ∀ w, (Instr.makeSlice 31 (.int .i64 4) (.int .i64 4)).run Try.prog w = .ok (.slice (some ⟨w.heap.size, 0, none⟩) 4 4) (w.alloc (.cells (bys (List.replicate 4 0)).toArray 5)) := fun _ => by kernel_rfl
  have HM := Lib.hid h
  have HLL := Lib.hid hL
  have HS := Lib.hid h.2.size
  clear h hL
  go_enter Try.func46, Try.ntmps46
  go_wp2
  clear hmk
  obtain ⟨g, hg⟩ : ∃ g, g = u.heap.size := ⟨_, rfl⟩
  rw [← hg]
  have HG := Lib.hid hg
  clear hg
  go_loopw [1, 8] (fun q i wr => ∃ j : Nat, j ≤ 4 ∧ i = .int .i64 (4 - 1 - (j : Int)) ∧ q = .int .u64 ((x / 256 ^ j : Nat) : Int) ∧ Blo wr g 5 (bys (curB 4 x j)).toArray ∧ Kept Nil u wr) (fun _ i _ => (intOf i + 1).toNat)
  case atStart => exact ⟨0, by omega, rfl, by simp, by rw [HG.out]; exact Blo.new u _ _, (Kept.refl Nil u).alloc _⟩
  case round =>
    obtain ⟨j, hj, rfl, rfl, hb, hk⟩ := hrel
    have hq : x / 256 ^ j < 18446744073709551616 := Nat.lt_of_le_of_lt (Nat.div_le_self _ _) hx
    by_cases hlt : j < 4
    · have hst := cur_step 4 x j hlt hb
      have hc := hb.cell (4 - 1 - j)
      have hf := hb.frozen (4 - 1 - j)
      rw [cur_at 4 x j hlt] at hc
      have hi : (4 - 1 - (j : Int)) = ((4 - 1 - j : Nat) : Int) := by omega
      rw [hi] at *
      have hd : x / 256 ^ j / 256 = x / 256 ^ (j + 1) := by rw [Nat.div_div_eq_div_mul, Nat.pow_succ]
      have HD := Lib.hid hd
      have HST := Lib.hid hst
      have HK := Lib.hid hk
      clear hst hd hk hb hi
      generalize x / 256 ^ j = y at *
      generalize hz : 4 - 1 - j = z at *
      have HZ := Lib.hid hz
      have hz4 : z ≤ 4 - 1 := by omega
      have hwy : IntKind.wrap .u8 ((y : Int) % 256) = (y : Int) % 256 := IntWalk.u8_in _ (by omega)
      clear hz
      go_wp2
      go_roundw
      case rel => exact ⟨j + 1, by omega, by have h7 := HZ.out; go_num, by rw [← HD.out]; go_num, HST.out, HK.out.setCell (fun hl => by have := HG.out; simp at hl; omega) _⟩
      case measure => simp [intOf] <;> omega
    · have : j = 4 := by omega
      subst this
      obtain ⟨i0, hi, hz0, hz1, hz2⟩ := info_parts Try.infb
      have hcu : curB 4 x 4 = beM 4 x := cur_full _ _
      rw [hcu] at hb
      have HY := Lib.hid (show Byt wr (some ⟨g, 0, none⟩) 4 4 (beM 4 x) from blk_bytB (r := []) (by rw [List.append_nil]; exact hb) 4 4 (beM_len 4 x) (Nat.le_refl _) (by decide))
      have HO := Lib.hid (own_kept HM.out.1 hk (fun _ _ hf => hf))
      have HK := Lib.hid hk
      clear hb hk hcu
      go_wp2_with (at_builtin; refine wpList_any rfl _ _ 31 rfl V.heap.size 5 i0 (.int .u8 0) Try.underlying31 hi hz0 hz1 hz2 rfl v L.length (bys L) rfl HO.out (some ⟨g, 0, none⟩) 4 4 (beM 4 x) rfl HY.out (by have := HLL.out; omega) (by have := HS.out; have := HK.out.size; omega) ?_; intro v' w2 hown' hgrow hob)
      have HF := Lib.hid (made_appB HM.out HK.out hown' hgrow rfl (beM_len 4 x))
      clear hown' hgrow hob HK HO HM HY
      go_wp2
      go_ret
      exact ⟨v', rfl, HF.out⟩
set_option maxRecDepth 100000 in
set_option maxHeartbeats 2000000 in
theorem blay8 (V : World) (v : Value) (L : List UInt8) (x : Nat) (u : World) (h : Made V u v L) (hx : x < 18446744073709551616) (hL : L.length ≤ 100000) : Calls Try.prog 46 #[v, .int .u64 (x : Int), .int .i64 8] u fun e u' => ∃ v', e = .returned v' ∧ Made V u' v' (L ++ beM 8 x) := by
  have hmk : ∀ w, (Instr.makeSlice 31 (.int .i64 8) (.int .i64 8)).run Try.prog w = .ok (.slice (some ⟨w.heap.size, 0, none⟩) 8 8) (w.alloc (.cells (bys (List.replicate 8 0)).toArray 5)) := fun _ => by kernel_rfl
  have HM := Lib.hid h
  have HLL := Lib.hid hL
  have HS := Lib.hid h.2.size
  clear h hL
  go_enter Try.func46, Try.ntmps46
  go_wp2
  clear hmk
  obtain ⟨g, hg⟩ : ∃ g, g = u.heap.size := ⟨_, rfl⟩
  rw [← hg]
  have HG := Lib.hid hg
  clear hg
  go_loopw [1, 8] (fun q i wr => ∃ j : Nat, j ≤ 8 ∧ i = .int .i64 (8 - 1 - (j : Int)) ∧ q = .int .u64 ((x / 256 ^ j : Nat) : Int) ∧ Blo wr g 5 (bys (curB 8 x j)).toArray ∧ Kept Nil u wr) (fun _ i _ => (intOf i + 1).toNat)
  case atStart => exact ⟨0, by omega, rfl, by simp, by rw [HG.out]; exact Blo.new u _ _, (Kept.refl Nil u).alloc _⟩
  case round =>
    obtain ⟨j, hj, rfl, rfl, hb, hk⟩ := hrel
    have hq : x / 256 ^ j < 18446744073709551616 := Nat.lt_of_le_of_lt (Nat.div_le_self _ _) hx
    by_cases hlt : j < 8
    · have hst := cur_step 8 x j hlt hb
      have hc := hb.cell (8 - 1 - j)
      have hf := hb.frozen (8 - 1 - j)
      rw [cur_at 8 x j hlt] at hc
      have hi : (8 - 1 - (j : Int)) = ((8 - 1 - j : Nat) : Int) := by omega
      rw [hi] at *
      have hd : x / 256 ^ j / 256 = x / 256 ^ (j + 1) := by rw [Nat.div_div_eq_div_mul, Nat.pow_succ]
      have HD := Lib.hid hd
      have HST := Lib.hid hst
      have HK := Lib.hid hk
      clear hst hd hk hb hi
      generalize x / 256 ^ j = y at *
      generalize hz : 8 - 1 - j = z at *
      have HZ := Lib.hid hz
      have hz4 : z ≤ 8 - 1 := by omega
      have hwy : IntKind.wrap .u8 ((y : Int) % 256) = (y : Int) % 256 := IntWalk.u8_in _ (by omega)
      clear hz
      go_wp2
      go_roundw
      case rel => exact ⟨j + 1, by omega, by have h7 := HZ.out; go_num, by rw [← HD.out]; go_num, HST.out, HK.out.setCell (fun hl => by have := HG.out; simp at hl; omega) _⟩
      case measure => simp [intOf] <;> omega
    · have : j = 8 := by omega
      subst this
      obtain ⟨i0, hi, hz0, hz1, hz2⟩ := info_parts Try.infb
      have hcu : curB 8 x 8 = beM 8 x := cur_full _ _
      rw [hcu] at hb
      have HY := Lib.hid (show Byt wr (some ⟨g, 0, none⟩) 8 8 (beM 8 x) from blk_bytB (r := []) (by rw [List.append_nil]; exact hb) 8 8 (beM_len 8 x) (Nat.le_refl _) (by decide))
      have HO := Lib.hid (own_kept HM.out.1 hk (fun _ _ hf => hf))
      have HK := Lib.hid hk
      clear hb hk hcu
      go_wp2_with (at_builtin; refine wpList_any rfl _ _ 31 rfl V.heap.size 5 i0 (.int .u8 0) Try.underlying31 hi hz0 hz1 hz2 rfl v L.length (bys L) rfl HO.out (some ⟨g, 0, none⟩) 8 8 (beM 8 x) rfl HY.out (by have := HLL.out; omega) (by have := HS.out; have := HK.out.size; omega) ?_; intro v' w2 hown' hgrow hob)
      have HF := Lib.hid (made_appB HM.out HK.out hown' hgrow rfl (beM_len 8 x))
      clear hown' hgrow hob HK HO HM HY
      go_wp2
      go_ret
      exact ⟨v', rfl, HF.out⟩
end Go.Proofs.Ytbkjobmjapbmpaa
