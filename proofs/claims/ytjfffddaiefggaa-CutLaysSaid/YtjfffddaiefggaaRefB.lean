/- Contracts of the reference's Bytes and Sum (package tollref01). -/
import Derived.Test.YtjfffddaiefggaaPadB
import Derived.Test.YtjfffddaiefggaaSumM2
namespace Go.Proofs.Ytjfffddaiefggaa
open Go.RowKit
set_option linter.unusedVariables false

theorem fold_step (t x : Nat) (hx : x ≤ 65535) : fold16 (t + x) = if 65535 < fold16 t + x then fold16 t + x - 65535 else fold16 t + x := by
  unfold fold16
  by_cases ht : t = 0
  · subst ht
    by_cases h0 : x = 0
    · subst h0; simp
    · simp [h0]; rw [if_neg (by omega)]; omega
  · rw [if_neg ht, if_neg (by omega)]
    split <;> omega
theorem flag_take (l : List UInt8) (k : Nat) (hk : k ≤ l.length) : (runS (0, true) (l.take k)).2 = (k % 2 == 0) := by
  rw [runS_flag]
  have : (l.take k).length = k := by simp; omega
  rw [this]
  by_cases h : k % 2 = 0 <;> simp [h]
theorem ref_step (l : List UInt8) (k : Nat) (hk : k < l.length) : fold16 (runS (0, true) (l.take (k + 1))).1 =
    if 65535 < fold16 (runS (0, true) (l.take k)).1 + (if k % 2 = 0 then l[k].toNat * 256 else l[k].toNat) then fold16 (runS (0, true) (l.take k)).1 + (if k % 2 = 0 then l[k].toNat * 256 else l[k].toNat) - 65535 else fold16 (runS (0, true) (l.take k)).1 + (if k % 2 = 0 then l[k].toNat * 256 else l[k].toNat) := by
  rw [take_snoc' l k hk, runS_snoc]
  have hf := flag_take l k (by omega)
  have hb := l[k].toNat_lt
  unfold stepS
  rw [hf]
  rw [fold_step _ _ (by split <;> omega)]
  by_cases h : k % 2 = 0 <;> simp [h]

set_option maxHeartbeats 1000000 in
theorem rsum_yes (A : Option Addr) (n c : Nat) (l : List UInt8) (w : World) (h : Byt w A n c l) :
    Calls Try.prog 39 #[.slice A n c] w fun e w' => e = .returned (.int .u16 (sumM l : Int)) ∧ w = w' := by
  have hnc := h.2.1
  have hcc := h.2.2.1
  have Hb := Lib.hid h
  clear h
  go_enter Try.func39, Try.ntmps39
  go_wp2
  go_loop [3, 4] (fun t i => ∃ k : Nat, k ≤ n ∧ i = .int .i64 k ∧ t = .int .i64 (fold16 (runS (0, true) (l.take k)).1 : Int)) (fun _ i => n - (intOf i).toNat)
  case atStart => exact ⟨0, Nat.zero_le _, rfl, rfl⟩
  case round =>
    obtain ⟨k, hk, rfl, rfl⟩ := hrel
    have hle := fold16_le (runS (0, true) (l.take k)).1
    by_cases hlt : k < n
    · have hkl : k < l.length := by rw [Hb.out.1]; exact hlt
      obtain ⟨b, o, rfl, hcell⟩ := Hb.out.at (i := k) hkl
      have HS := Lib.hid (ref_step l k hkl)
      have hb2 := l[k].toNat_lt
      generalize l[k].toNat = y at *
      generalize fold16 (runS (0, true) (l.take k)).1 = f at *
      by_cases h2 : k % 2 = 0
      · have hb0 : ((k : Int) % 2 == 0) = true := by simp; omega
        have H2 := Lib.hid h2
        clear h2
        by_cases h3 : 65535 < f + y * 256
        · have h3' : (65535 : Int) < (f : Int) + 256 * (y : Int) := by omega
          go_wp2
          go_round
          case rel => exact ⟨k + 1, by omega, by go_num, by rw [HS.out, if_pos H2.out, if_pos h3]; go_num⟩
          case measure => simp [intOf]; omega
        · have h3' : ¬ (65535 : Int) < (f : Int) + 256 * (y : Int) := by omega
          go_wp2
          go_round
          case rel => exact ⟨k + 1, by omega, by go_num, by rw [HS.out, if_pos H2.out, if_neg h3]; go_num⟩
          case measure => simp [intOf]; omega
      · have hb0 : ((k : Int) % 2 == 0) = false := by simp; omega
        by_cases h3 : 65535 < f + y
        · have h3' : (65535 : Int) < (f : Int) + (y : Int) := by omega
          go_wp2
          go_round
          case rel => exact ⟨k + 1, by omega, by go_num, by rw [HS.out, if_neg h2, if_pos h3]; go_num⟩
          case measure => simp [intOf]; omega
        · have h3' : ¬ (65535 : Int) < (f : Int) + (y : Int) := by omega
          go_wp2
          go_round
          case rel => exact ⟨k + 1, by omega, by go_num, by rw [HS.out, if_neg h2, if_neg h3]; go_num⟩
          case measure => simp [intOf]; omega
    · have ht : l.take k = l := by rw [List.take_of_length_le]; rw [Hb.out.1]; omega
      rw [ht] at hle ⊢
      have hsm : ((sumM l : Nat) : Int) = 65535 - (fold16 (runS (0, true) l).1 : Int) := by unfold sumM; omega
      have HSM := Lib.hid hsm
      clear hsm ht
      generalize fold16 (runS (0, true) l).1 = f at *
      go_wp2
      go_ret
      exact ⟨by rw [HSM.out]; rfl, rfl⟩

/-- A number's bytes while they are laid, the lowest first. -/
def curB (W x j : Nat) : List UInt8 := List.replicate (W - j) 0 ++ (beM W x).drop (W - j)
theorem made_of {w w' : World} {W : Nat} {l : List UInt8} (hl : l.length = W) (hW : W ≤ 100) (hb : Blo w' w.heap.size 5 (bys l).toArray) (hk : Kept Nil w w') : Made w w' (.slice (some ⟨w.heap.size, 0, none⟩) W W) l := by
  refine ⟨⟨by rw [bys_len]; simp, .inr ⟨w.heap.size, W, _, by rw [hl], Nat.le_refl _, hb, Nat.le_of_eq hl, by unfold maxLen; omega, by simp [bys_len, hl], by simp [← hl, ← bys_len]⟩⟩, hk⟩
theorem cur_full (W x : Nat) : curB W x W = beM W x := by simp [curB]
theorem cur_at (W x j : Nat) (h : j < W) : (bys (curB W x j)).toArray[W - 1 - j]? = some (.int .u8 0) := by
  have : (curB W x j)[W - 1 - j]? = some 0 := by
    unfold curB
    rw [List.getElem?_append_left (by simp; omega), List.getElem?_replicate, if_pos (by omega)]
  simp [bys, this]
theorem cur_set (W x j : Nat) (h : j < W) : (curB W x j).set (W - 1 - j) (UInt8.ofNat (x / 256 ^ j)) = curB W x (j + 1) := by
  unfold curB
  have e1 : List.replicate (W - j) (0 : UInt8) = List.replicate (W - (j + 1)) 0 ++ [0] := by rw [show W - j = (W - (j + 1)) + 1 from by omega, List.replicate_succ']
  have e2 : (beM W x).drop (W - (j + 1)) = UInt8.ofNat (x / 256 ^ j) :: (beM W x).drop (W - j) := by
    have hl := beM_len W x
    rw [List.drop_eq_getElem_cons (by omega)]
    congr 1
    · simp only [beM, List.getElem_map, List.getElem_range]
      rw [show 8 * (W - 1 - (W - (j + 1))) = 8 * j from by omega, Nat.pow_mul]
    · congr 1; omega
  rw [e1, e2, List.append_assoc, List.set_append_right _ _ (by simp; omega)]
  simp
  rw [show W - 1 - j - (W - (j + 1)) = 0 from by omega]
  rfl
theorem cur_step {w : World} {g t : Nat} (W x j : Nat) (h : j < W) (hb : Blo w g t (bys (curB W x j)).toArray) : Blo (w.setCell ⟨g, W - 1 - j, none⟩ (.int .u8 (((x / 256 ^ j : Nat) : Int) % 256))) g t (bys (curB W x (j + 1))).toArray := by
  have := hb.set (W - 1 - j) (.int .u8 (((x / 256 ^ j : Nat) : Int) % 256))
  rw [List.setIfInBounds_toArray, show ((x / 256 ^ j : Nat) : Int) % 256 = ((UInt8.ofNat (x / 256 ^ j)).toNat : Int) from by rw [UInt8.toNat_ofNat']; omega, bys_set, cur_set W x j h] at this
  exact this
set_option maxHeartbeats 1000000 in
theorem rbytes2 (x : Nat) (w : World) (hx : x < 4294967296) :
    Calls Try.prog 32 #[.int .u32 (x : Int), .int .i64 2] w fun e w' => ∃ v, e = .returned v ∧ Made w w' v (beM 2 x) := by
  have hmk : ∀ w, (Instr.makeSlice 22 (.int .i64 2) (.int .i64 2)).run Try.prog w = .ok (.slice (some ⟨w.heap.size, 0, none⟩) 2 2) (w.alloc (.cells #[.int .u8 0, .int .u8 0] 5)) := fun _ => by kernel_rfl
  go_enter Try.func32, Try.ntmps32
  go_wp2
  clear hmk
  obtain ⟨g, hg⟩ : ∃ g, g = w.heap.size := ⟨_, rfl⟩
  rw [← hg]
  have HG := Lib.hid hg
  clear hg
  go_loopw [0, 6] (fun q i wr => ∃ j : Nat, j ≤ 2 ∧ i = .int .i64 (2 - 1 - (j : Int)) ∧ q = .int .u32 ((x / 256 ^ j : Nat) : Int) ∧ Blo wr g 5 (bys (curB 2 x j)).toArray ∧ Kept Nil w wr) (fun _ i _ => (intOf i + 1).toNat)
  case atStart => exact ⟨0, by omega, rfl, by simp, by rw [HG.out]; exact Blo.new w _ _, (Kept.refl Nil w).alloc _⟩
  case round =>
    obtain ⟨j, hj, rfl, rfl, hb, hk⟩ := hrel
    have hq : x / 256 ^ j < 4294967296 := Nat.lt_of_le_of_lt (Nat.div_le_self _ _) hx
    by_cases hlt : j < 2
    · have hst := cur_step 2 x j hlt hb
      have hc := hb.cell (2 - 1 - j)
      have hf := hb.frozen (2 - 1 - j)
      rw [cur_at 2 x j hlt] at hc
      have hi : (2 - 1 - (j : Int)) = ((2 - 1 - j : Nat) : Int) := by omega
      rw [hi] at *
      have hd : x / 256 ^ j / 256 = x / 256 ^ (j + 1) := by rw [Nat.div_div_eq_div_mul, Nat.pow_succ]
      have HD := Lib.hid hd
      have HST := Lib.hid hst
      have HK := Lib.hid hk
      clear hst hd hk hb hi
      generalize x / 256 ^ j = y at *
      generalize hz : 2 - 1 - j = z at *
      have HZ := Lib.hid hz
      have hz4 : z ≤ 2 - 1 := by omega
      clear hz
      go_wp2
      go_roundw
      case rel => exact ⟨j + 1, by omega, by have h7 := HZ.out; go_num, by rw [← HD.out]; go_num, HST.out, HK.out.setCell (fun hl => by have := HG.out; simp at hl; omega) _⟩
      case measure => simp [intOf] <;> omega
    · have : j = 2 := by omega
      subst this
      have HB := Lib.hid hb
      have HK := Lib.hid hk
      clear hb hk
      go_wp2
      go_ret
      refine ⟨_, rfl, ?_⟩
      rw [HG.out] at HB
      have hm := made_of (beM_len 2 x) (by omega) (by have := HB.out; rw [cur_full] at this; exact this) HK.out
      rw [← HG.out] at hm
      exact hm
set_option maxHeartbeats 1000000 in
theorem rbytes4 (x : Nat) (w : World) (hx : x < 4294967296) :
    Calls Try.prog 32 #[.int .u32 (x : Int), .int .i64 4] w fun e w' => ∃ v, e = .returned v ∧ Made w w' v (beM 4 x) := by
  have hmk : ∀ w, (Instr.makeSlice 22 (.int .i64 4) (.int .i64 4)).run Try.prog w = .ok (.slice (some ⟨w.heap.size, 0, none⟩) 4 4) (w.alloc (.cells #[.int .u8 0, .int .u8 0, .int .u8 0, .int .u8 0] 5)) := fun _ => by kernel_rfl
  go_enter Try.func32, Try.ntmps32
  go_wp2
  clear hmk
  obtain ⟨g, hg⟩ : ∃ g, g = w.heap.size := ⟨_, rfl⟩
  rw [← hg]
  have HG := Lib.hid hg
  clear hg
  go_loopw [0, 6] (fun q i wr => ∃ j : Nat, j ≤ 4 ∧ i = .int .i64 (4 - 1 - (j : Int)) ∧ q = .int .u32 ((x / 256 ^ j : Nat) : Int) ∧ Blo wr g 5 (bys (curB 4 x j)).toArray ∧ Kept Nil w wr) (fun _ i _ => (intOf i + 1).toNat)
  case atStart => exact ⟨0, by omega, rfl, by simp, by rw [HG.out]; exact Blo.new w _ _, (Kept.refl Nil w).alloc _⟩
  case round =>
    obtain ⟨j, hj, rfl, rfl, hb, hk⟩ := hrel
    have hq : x / 256 ^ j < 4294967296 := Nat.lt_of_le_of_lt (Nat.div_le_self _ _) hx
    by_cases hlt : j < 4
    · have hst := cur_step 4 x j hlt hb
      have hc := hb.cell (4 - 1 - j)
      have hf := hb.frozen (4 - 1 - j)
      rw [cur_at 4 x j hlt] at hc
      have hi : (4 - 1 - (j : Int)) = ((4 - 1 - j : Nat) : Int) := by omega
      rw [hi] at *
      have hd : x / 256 ^ j / 256 = x / 256 ^ (j + 1) := by rw [Nat.div_div_eq_div_mul, Nat.pow_succ]
      have HD := Lib.hid hd
      have HST := Lib.hid hst
      have HK := Lib.hid hk
      clear hst hd hk hb hi
      generalize x / 256 ^ j = y at *
      generalize hz : 4 - 1 - j = z at *
      have HZ := Lib.hid hz
      have hz4 : z ≤ 4 - 1 := by omega
      clear hz
      go_wp2
      go_roundw
      case rel => exact ⟨j + 1, by omega, by have h7 := HZ.out; go_num, by rw [← HD.out]; go_num, HST.out, HK.out.setCell (fun hl => by have := HG.out; simp at hl; omega) _⟩
      case measure => simp [intOf] <;> omega
    · have : j = 4 := by omega
      subst this
      have HB := Lib.hid hb
      have HK := Lib.hid hk
      clear hb hk
      go_wp2
      go_ret
      refine ⟨_, rfl, ?_⟩
      rw [HG.out] at HB
      have hm := made_of (beM_len 4 x) (by omega) (by have := HB.out; rw [cur_full] at this; exact this) HK.out
      rw [← HG.out] at hm
      exact hm
end Go.Proofs.Ytjfffddaiefggaa
