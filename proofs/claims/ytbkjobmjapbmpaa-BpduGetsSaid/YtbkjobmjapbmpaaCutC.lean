/- Contracts of package cut's cutter, third part: numbers and addresses. -/
import Derived.Test.YtbkjobmjapbmpaaCutB
import Derived.Test.YtbkjobmjapbmpaaNum
import Derived.Laws.CopyOwn
import Derived.Deep.RegionLaw
import Derived.RegionTactic
namespace Go.Proofs.Ytbkjobmjapbmpaa
open Go.RowKit
set_option linter.unusedVariables false

theorem join_u64 (a : Nat) (b : UInt8) (ha : a < 281474976710656) : bits .or .u64 (IntKind.u64.wrap ((a : Int) * 256)) (IntKind.u64.wrap (b.toNat : Int)) = ((a * 256 + b.toNat : Nat) : Int) := by
  have hb := b.toNat_lt
  rw [IntWalk.u64_in _ (by omega), IntWalk.u64_in (b.toNat : Int) (by omega)]
  have e : ((a : Int) * 256) = ((a * 256 : Nat) : Int) := by omega
  rw [e, u64_or_nat _ _ (by omega) (by omega), nat_join 8 _ _ (by omega) (by omega)]
theorem take_snoc' (l : List UInt8) (k : Nat) (h : k < l.length) : l.take (k + 1) = l.take k ++ [l[k]] := by
  rw [List.take_succ_eq_append_getElem h]
theorem takeM_len2 (s : Cst) (x : Int) : (takeM s x).1.length ≤ x.toNat := by
  unfold takeM
  split <;> try simp
  split <;> try simp
  split <;> try simp
  omega

theorem num8 (g : Nat) (A : Option Addr) (n c : Nat) (s : Cst) (w : World) (h : Cutr w g A n c s) :
    Calls Try.prog 88 #[.pointer (some ⟨g, 0, none⟩), .int .i64 1] w fun e w' =>
      e = .returned (.int .u8 (numM (takeM s 1).1 : Int)) ∧ Cutr w' g A n c (takeM s 1).2 ∧ Kept (One g) w w' := by
  have hlen := takeM_len2 s 1
  go_enter Try.func88, Try.ntmps88
  go_wp2_with fail
  refine (take_yes g A n c s 1 _ h (by omega)).mono ?_
  rintro e w1 ⟨A', m, c', rfl, hb, hc, hk, hl⟩
  have Hc := Lib.hid hc
  have Hk := Lib.hid hk
  clear hc hk hl h
  generalize hG : (takeM s 1).1 = l at *
  have HG := Lib.hid hG
  clear hG
  have hm0 : m ≤ 1 := by have := hb.1; have : (((1 : Int)).toNat) = 1 := rfl; omega
  have hm : m ≤ c' := hb.2.1
  have hm' : c' ≤ 9223372036854775807 := hb.2.2.1
  have Hb := Lib.hid hb
  have HL := Lib.hid hlen
  clear hb hlen
  go_wp2
  go_loop [5, 12] (fun t i => ∃ k : Nat, k ≤ m ∧ i = .int .i64 k ∧ t = .int .u64 (numM (l.take k) : Int)) (fun _ i => m - (intOf i).toNat)
  case atStart => exact ⟨0, Nat.zero_le _, rfl, rfl⟩
  case round =>
    obtain ⟨k, hk, rfl, rfl⟩ := hrel
    by_cases hlt : k < m
    · have hkl : k < l.length := by rw [Hb.out.1]; exact hlt
      obtain ⟨b, o, rfl, hcell⟩ := Hb.out.at (i := k) hkl
      have hlt2 : numM (l.take k) < 281474976710656 := by
        have h1 := numM_lt (l.take k)
        have h2 : (256 : Nat) ^ (l.take k).length ≤ 256 ^ 4 := Nat.pow_le_pow_right (by omega) (by simp; omega)
        omega
      have HJ := Lib.hid (join_u64 (numM (l.take k)) l[k] hlt2)
      have HS := Lib.hid (numM_snoc (l.take k) l[k])
      have HT := Lib.hid (take_snoc' l k hkl)
      clear hlt2
      go_wp2
      go_round
      case rel => exact ⟨k + 1, by omega, by go_num, by rw [HJ.out, HT.out, HS.out]⟩
      case measure => simp [intOf]; omega
    · have hkm : k = m := by omega
      have ht : l.take k = l := by rw [List.take_of_length_le]; rw [Hb.out.1]; omega
      have hbd : numM l ≤ 255 := by
        have h1 := numM_lt l
        have h2 : (256 : Nat) ^ l.length ≤ 256 ^ 1 := Nat.pow_le_pow_right (by omega) (by rw [Hb.out.1]; exact hm0)
        have h3 : (256 : Nat) ^ 1 = 255 + 1 := by decide
        omega
      have HC := Lib.hid (IntWalk.u8_in (numM l : Int) (by omega))
      have HT := Lib.hid ht
      have HB := Lib.hid hbd
      clear ht hkm hbd
      go_wp2
      go_ret
      refine ⟨?_, Hc.out, Hk.out⟩
      rw [HT.out]
      refine congrArg (fun z => Ending.returned (.int .u8 z)) ?_
      rw [HG.out]
      have hbd := HB.out
      first | exact HC.out | omega
theorem num16 (g : Nat) (A : Option Addr) (n c : Nat) (s : Cst) (w : World) (h : Cutr w g A n c s) :
    Calls Try.prog 113 #[.pointer (some ⟨g, 0, none⟩), .int .i64 2] w fun e w' =>
      e = .returned (.int .u16 (numM (takeM s 2).1 : Int)) ∧ Cutr w' g A n c (takeM s 2).2 ∧ Kept (One g) w w' := by
  have hlen := takeM_len2 s 2
  go_enter Try.func113, Try.ntmps113
  go_wp2_with fail
  refine (take_yes g A n c s 2 _ h (by omega)).mono ?_
  rintro e w1 ⟨A', m, c', rfl, hb, hc, hk, hl⟩
  have Hc := Lib.hid hc
  have Hk := Lib.hid hk
  clear hc hk hl h
  generalize hG : (takeM s 2).1 = l at *
  have HG := Lib.hid hG
  clear hG
  have hm0 : m ≤ 2 := by have := hb.1; have : (((2 : Int)).toNat) = 2 := rfl; omega
  have hm : m ≤ c' := hb.2.1
  have hm' : c' ≤ 9223372036854775807 := hb.2.2.1
  have Hb := Lib.hid hb
  have HL := Lib.hid hlen
  clear hb hlen
  go_wp2
  go_loop [5, 12] (fun t i => ∃ k : Nat, k ≤ m ∧ i = .int .i64 k ∧ t = .int .u64 (numM (l.take k) : Int)) (fun _ i => m - (intOf i).toNat)
  case atStart => exact ⟨0, Nat.zero_le _, rfl, rfl⟩
  case round =>
    obtain ⟨k, hk, rfl, rfl⟩ := hrel
    by_cases hlt : k < m
    · have hkl : k < l.length := by rw [Hb.out.1]; exact hlt
      obtain ⟨b, o, rfl, hcell⟩ := Hb.out.at (i := k) hkl
      have hlt2 : numM (l.take k) < 281474976710656 := by
        have h1 := numM_lt (l.take k)
        have h2 : (256 : Nat) ^ (l.take k).length ≤ 256 ^ 4 := Nat.pow_le_pow_right (by omega) (by simp; omega)
        omega
      have HJ := Lib.hid (join_u64 (numM (l.take k)) l[k] hlt2)
      have HS := Lib.hid (numM_snoc (l.take k) l[k])
      have HT := Lib.hid (take_snoc' l k hkl)
      clear hlt2
      go_wp2
      go_round
      case rel => exact ⟨k + 1, by omega, by go_num, by rw [HJ.out, HT.out, HS.out]⟩
      case measure => simp [intOf]; omega
    · have hkm : k = m := by omega
      have ht : l.take k = l := by rw [List.take_of_length_le]; rw [Hb.out.1]; omega
      have hbd : numM l ≤ 65535 := by
        have h1 := numM_lt l
        have h2 : (256 : Nat) ^ l.length ≤ 256 ^ 2 := Nat.pow_le_pow_right (by omega) (by rw [Hb.out.1]; exact hm0)
        have h3 : (256 : Nat) ^ 2 = 65535 + 1 := by decide
        omega
      have HC := Lib.hid (IntWalk.u16_in (numM l : Int) (by omega))
      have HT := Lib.hid ht
      have HB := Lib.hid hbd
      clear ht hkm hbd
      go_wp2
      go_ret
      refine ⟨?_, Hc.out, Hk.out⟩
      rw [HT.out]
      refine congrArg (fun z => Ending.returned (.int .u16 z)) ?_
      rw [HG.out]
      have hbd := HB.out
      first | exact HC.out | omega
theorem num32 (g : Nat) (A : Option Addr) (n c : Nat) (s : Cst) (w : World) (h : Cutr w g A n c s) :
    Calls Try.prog 105 #[.pointer (some ⟨g, 0, none⟩), .int .i64 4] w fun e w' =>
      e = .returned (.int .u32 (numM (takeM s 4).1 : Int)) ∧ Cutr w' g A n c (takeM s 4).2 ∧ Kept (One g) w w' := by
  have hlen := takeM_len2 s 4
  go_enter Try.func105, Try.ntmps105
  go_wp2_with fail
  refine (take_yes g A n c s 4 _ h (by omega)).mono ?_
  rintro e w1 ⟨A', m, c', rfl, hb, hc, hk, hl⟩
  have Hc := Lib.hid hc
  have Hk := Lib.hid hk
  clear hc hk hl h
  generalize hG : (takeM s 4).1 = l at *
  have HG := Lib.hid hG
  clear hG
  have hm0 : m ≤ 4 := by have := hb.1; have : (((4 : Int)).toNat) = 4 := rfl; omega
  have hm : m ≤ c' := hb.2.1
  have hm' : c' ≤ 9223372036854775807 := hb.2.2.1
  have Hb := Lib.hid hb
  have HL := Lib.hid hlen
  clear hb hlen
  go_wp2
  go_loop [5, 12] (fun t i => ∃ k : Nat, k ≤ m ∧ i = .int .i64 k ∧ t = .int .u64 (numM (l.take k) : Int)) (fun _ i => m - (intOf i).toNat)
  case atStart => exact ⟨0, Nat.zero_le _, rfl, rfl⟩
  case round =>
    obtain ⟨k, hk, rfl, rfl⟩ := hrel
    by_cases hlt : k < m
    · have hkl : k < l.length := by rw [Hb.out.1]; exact hlt
      obtain ⟨b, o, rfl, hcell⟩ := Hb.out.at (i := k) hkl
      have hlt2 : numM (l.take k) < 281474976710656 := by
        have h1 := numM_lt (l.take k)
        have h2 : (256 : Nat) ^ (l.take k).length ≤ 256 ^ 4 := Nat.pow_le_pow_right (by omega) (by simp; omega)
        omega
      have HJ := Lib.hid (join_u64 (numM (l.take k)) l[k] hlt2)
      have HS := Lib.hid (numM_snoc (l.take k) l[k])
      have HT := Lib.hid (take_snoc' l k hkl)
      clear hlt2
      go_wp2
      go_round
      case rel => exact ⟨k + 1, by omega, by go_num, by rw [HJ.out, HT.out, HS.out]⟩
      case measure => simp [intOf]; omega
    · have hkm : k = m := by omega
      have ht : l.take k = l := by rw [List.take_of_length_le]; rw [Hb.out.1]; omega
      have hbd : numM l ≤ 4294967295 := by
        have h1 := numM_lt l
        have h2 : (256 : Nat) ^ l.length ≤ 256 ^ 4 := Nat.pow_le_pow_right (by omega) (by rw [Hb.out.1]; exact hm0)
        have h3 : (256 : Nat) ^ 4 = 4294967295 + 1 := by decide
        omega
      have HC := Lib.hid (IntWalk.u32_in (numM l : Int) (by omega))
      have HT := Lib.hid ht
      have HB := Lib.hid hbd
      clear ht hkm hbd
      go_wp2
      go_ret
      refine ⟨?_, Hc.out, Hk.out⟩
      rw [HT.out]
      refine congrArg (fun z => Ending.returned (.int .u32 z)) ?_
      rw [HG.out]
      have hbd := HB.out
      first | exact HC.out | omega
theorem Byte_yes (g : Nat) (A : Option Addr) (n c : Nat) (s : Cst) (w : World) (h : Cutr w g A n c s) :
    Calls Try.prog 57 #[.pointer (some ⟨g, 0, none⟩)] w fun e w' =>
      e = .returned (.int .u8 (numM (takeM s 1).1 : Int)) ∧ Cutr w' g A n c (takeM s 1).2 ∧ Kept (One g) w w' := by
  go_enter Try.func57, Try.ntmps57
  go_wp2_with fail
  refine (num8 g A n c s _ h).mono ?_
  rintro e w1 ⟨rfl, hc, hk⟩
  have Hc := Lib.hid hc
  have Hk := Lib.hid hk
  clear hc hk h
  go_wp2
  go_ret
  exact ⟨rfl, Hc.out, Hk.out⟩
theorem Two_yes (g : Nat) (A : Option Addr) (n c : Nat) (s : Cst) (w : World) (h : Cutr w g A n c s) :
    Calls Try.prog 103 #[.pointer (some ⟨g, 0, none⟩)] w fun e w' =>
      e = .returned (.int .u16 (numM (takeM s 2).1 : Int)) ∧ Cutr w' g A n c (takeM s 2).2 ∧ Kept (One g) w w' := by
  go_enter Try.func103, Try.ntmps103
  go_wp2_with fail
  refine (num16 g A n c s _ h).mono ?_
  rintro e w1 ⟨rfl, hc, hk⟩
  have Hc := Lib.hid hc
  have Hk := Lib.hid hk
  clear hc hk h
  go_wp2
  go_ret
  exact ⟨rfl, Hc.out, Hk.out⟩
theorem Four_yes (g : Nat) (A : Option Addr) (n c : Nat) (s : Cst) (w : World) (h : Cutr w g A n c s) :
    Calls Try.prog 85 #[.pointer (some ⟨g, 0, none⟩)] w fun e w' =>
      e = .returned (.int .u32 (numM (takeM s 4).1 : Int)) ∧ Cutr w' g A n c (takeM s 4).2 ∧ Kept (One g) w w' := by
  go_enter Try.func85, Try.ntmps85
  go_wp2_with fail
  refine (num32 g A n c s _ h).mono ?_
  rintro e w1 ⟨rfl, hc, hk⟩
  have Hc := Lib.hid hc
  have Hk := Lib.hid hk
  clear hc hk h
  go_wp2
  go_ret
  exact ⟨rfl, Hc.out, Hk.out⟩

/-- Six cells out of the bytes that were taken (all, or none). -/
def macM (l : List UInt8) : List UInt8 := l ++ List.replicate (6 - l.length) 0

theorem macM_len (l : List UInt8) (h : l.length ≤ 6) : (macM l).length = 6 := by simp [macM]; omega
theorem mac_splice (l : List UInt8) (_ : l.length ≤ 6) : splice (bys (List.replicate 6 0)) 0 (bys l) = bys (macM l) := by
  simp only [splice, macM, bys, List.map_append, List.map_replicate, List.take_zero, List.nil_append, List.length_map, Nat.zero_add, List.drop_replicate]
theorem sz5 : (Try.prog.info? 5).map (·.size) = some 1 := by kernel_rfl
theorem mac_aux (w : World) (g : Nat) (A : Option Addr) (n c : Nat) (s : Cst) (A' : Option Addr) (m c' : Nat) (w0 w1 : World) (hb : Byt w1 A' m c' (takeM s 6).1) (hc : Cutr w1 g A n c (takeM s 6).2)
    (hk : Kept (One g) w0 w1) (hw0 : ∃ q, w0 = ((w.alloc (.cells (bys (List.replicate 6 0)).toArray 28)).alloc (.cells (bys (List.replicate 6 0)).toArray 28)).drewN q) (hg : g < w.heap.size) :
    Hid (Blo w1 w.heap.size 28 (bys (List.replicate 6 0)).toArray) ∧ Hid (Blo w1 (w.heap.size + 1) 28 (bys (List.replicate 6 0)).toArray) ∧ Hid (Cutr w1 g A n c (takeM s 6).2) ∧ Hid (Kept (One g) w w1) ∧
    ∃ l, Hid ((takeM s 6).1 = l) ∧ Hid ((bys l).length = Nat.min m 6) ∧
      Hid (0 < (bys l).length → some (⟨w.heap.size + 1, 0, none⟩ : Addr) = some ⟨w.heap.size + 1, 0, none⟩ ∧ ∃ ad, A' = some ad ∧ ∀ j v, (bys l)[j]? = some v → w1.cell? (ad.add j) = some v) ∧
      Hid (0 + (bys l).length ≤ (bys (List.replicate 6 0)).length) := by
  obtain ⟨q, rfl⟩ := hw0
  have h6 : (takeM s 6).1.length ≤ 6 := takeM_len2 s 6
  refine ⟨?_, ?_, hc, ?_, (takeM s 6).1, rfl, ?_, ?_, ?_⟩
  · exact (((Blo.new w _ _).alloc _).heap (w' := World.drewN _ q) rfl).kept hk (by unfold One; omega)
  · have := ((Blo.new (w.alloc (.cells (bys (List.replicate 6 0)).toArray 28)) 28 (bys (List.replicate 6 0)).toArray).heap (w' := World.drewN _ q) rfl).kept hk (by unfold One; simp; omega)
    rw [World.size_alloc] at this
    exact this
  · exact ((((Kept.refl (One g) w).alloc _).alloc _).drewN q).same hk
  · show (bys (takeM s 6).1).length = Nat.min m 6
    rw [bys_len, hb.1]
    have := hb.1
    simp only [Nat.min_def]
    split <;> omega
  · show 0 < (bys (takeM s 6).1).length → _
    intro h0
    refine ⟨rfl, ?_⟩
    obtain ⟨b, o, rfl, _⟩ := hb.at (i := 0) (by rw [bys_len] at h0; exact h0)
    exact ⟨_, rfl, hb.news⟩
  · show 0 + (bys (takeM s 6).1).length ≤ _
    rw [bys_len, bys_len]
    simp
    exact h6
set_option maxRecDepth 100000 in
theorem Mac_yes (g : Nat) (A : Option Addr) (n c : Nat) (s : Cst) (w : World) (h : Cutr w g A n c s) :
    Calls Try.prog 97 #[.pointer (some ⟨g, 0, none⟩)] w fun e w' =>
      e = .returned (.agg (bys (macM (takeM s 6).1)).toArray) ∧ Cutr w' g A n c (takeM s 6).2 ∧ Kept (One g) w w' := by
  have h2 := (h.kept ((Kept.refl Nil w).alloc (.cells #[.int .u8 0, .int .u8 0, .int .u8 0, .int .u8 0, .int .u8 0, .int .u8 0] 28)) (fun hf => hf) (fun _ _ hf => hf))
  have h3 := (h2.kept ((Kept.refl Nil _).alloc (.cells #[.int .u8 0, .int .u8 0, .int .u8 0, .int .u8 0, .int .u8 0, .int .u8 0] 28)) (fun hf => hf) (fun _ _ hf => hf))
  have H3 := Lib.hid h3
  have HG0 := Lib.hid h.blo.lt
  clear h2 h3
  go_enter Try.func97, Try.ntmps97
  go_wp2_with fail
  go_region_law (first
    | (refine step_copy_splice rfl (.tmp 4) (.tmp 6) 31 31 rfl 5 Try.underlying31 sz5 _ A' 6 6 m c' rfl rfl (w.heap.size + 1) 0 (bys (List.replicate 6 0)) 28 HB3.out (bys l) HM.out HP.out HF.out (bys_one l) (w.heap.size + 1) w1 (Below.refl _ _) (by simp) ?_; intro w2 hw2 hb2)
    | (go_simp; go_at_call 106; refine (take_yes g A n c s 6 _ (by exact H3.out.heap rfl) (by omega)).mono ?_; rintro e w1 ⟨A', m, c', rfl, hb, hc, hk, hl⟩; obtain ⟨HB2, HB3, HC, HK, l, HG, HM, HP, HF⟩ := mac_aux w g A n c s A' m c' _ w1 hb hc hk ⟨1, rfl⟩ HG0.out; clear hb hc hk hl))
  have h6 : l.length ≤ 6 := by have := HG.out; rw [← this]; exact takeM_len2 s 6
  have hm2 := hw2.out
  rw [mac_splice l h6] at hm2
  obtain ⟨x0, x1, x2, x3, x4, x5, hx⟩ := six_of _ (macM_len l h6)
  have hB2 : Blo w2 (w.heap.size + 1) 28 (bys (macM l)).toArray := hm2
  have hB1 : Blo w2 w.heap.size 28 (bys (List.replicate 6 0)).toArray := (hb2.block _ (by omega)).trans HB2.out
  rw [hx] at hB2
  have c0 := hB2.cell 0
  have c1 := hB2.cell 1
  have c2 := hB2.cell 2
  have c3 := hB2.cell 3
  have c4 := hB2.cell 4
  have c5 := hB2.cell 5
  have d0 := hB1.cell 0
  have d1 := hB1.cell 1
  have d2 := hB1.cell 2
  have d3 := hB1.cell 3
  have d4 := hB1.cell 4
  have d5 := hB1.cell 5
  have f0 := hB1.frozen 0
  have f1 := hB1.frozen 1
  have f2 := hB1.frozen 2
  have f3 := hB1.frozen 3
  have f4 := hB1.frozen 4
  have f5 := hB1.frozen 5
  simp [bys] at c0 c1 c2 c3 c4 c5 d0 d1 d2 d3 d4 d5
  have HX := Lib.hid hx
  have HB := Lib.hid hB1
  have HE := Lib.hid hb2
  clear hx hB1 hB2 hm2 hw2 hb2 h6
  go_wp2
  refine bodyPost_ret (v := .agg #[.int .u8 x0.toNat, .int .u8 x1.toNat, .int .u8 x2.toNat, .int .u8 x3.toNat, .int .u8 x4.toNat, .int .u8 x5.toNat]) (by simp [results, Try.results97, go_sem, d0, d1, d2, d3, d4, d5]) rfl ⟨?_, ?_, ?_⟩
  · rw [HG.out, HX.out]
    rfl
  · have K2 : Kept (fun k => w.heap.size ≤ k) w1 w2 := (Kept.of_below' HE.out).mono fun i _ hi => Nat.le_of_succ_le hi
    exact HC.out.kept ((((((K2.put (Nat.le_refl _) _).put (Nat.le_refl _) _).put (Nat.le_refl _) _).put (Nat.le_refl _) _).put (Nat.le_refl _) _).put (Nat.le_refl _) _)
      (by have := HG0.out; omega) (fun i hi => by have := h.byt.lt i hi; omega)
  · have K2 : Kept (fun k => w.heap.size ≤ k) w1 w2 := (Kept.of_below' HE.out).mono fun i _ hi => Nat.le_of_succ_le hi
    exact HK.out.fresh ((((((K2.put (Nat.le_refl _) _).put (Nat.le_refl _) _).put (Nat.le_refl _) _).put (Nat.le_refl _) _).put (Nat.le_refl _) _).put (Nat.le_refl _) _) (fun i hi => hi)
end Go.Proofs.Ytbkjobmjapbmpaa
