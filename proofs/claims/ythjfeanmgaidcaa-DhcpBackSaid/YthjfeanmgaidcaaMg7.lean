/- Texts that belong together, one behind the other: CutC, PadA. Conditions: those of each. -/
import Derived.Test.YthjfeanmgaidcaaMg6
import Derived.Laws.CopyOwn
import Derived.Deep.RegionLaw
import Derived.RegionTactic
import Derived.Test.YthjfeanmgaidcaaMg2
/- Contracts of package cut's cutter, third part: numbers and addresses. -/
namespace Go.Proofs.Ythjfeanmgaidcaa
open Go.RowKit
set_option linter.unusedVariables false

theorem join_u64 (a : Nat) (b : UInt8) (ha : a < 281474976710656) : bits .or .u64 (IntKind.u64.wrap ((a : Int) * 256)) (IntKind.u64.wrap (b.toNat : Int)) = ((a * 256 + b.toNat : Nat) : Int) := by
  have hb := b.toNat_lt
  rw [IntWalk.u64_in _ (by omega), IntWalk.u64_in (b.toNat : Int) (by omega)]
  have e : ((a : Int) * 256) = ((a * 256 : Nat) : Int) := by omega
  rw [e, u64_or_nat _ _ (by omega) (by omega), nat_join 8 _ _ (by omega) (by omega)]
theorem take_snoc' (l : List UInt8) (k : Nat) (h : k < l.length) : l.take (k + 1) = l.take k ++ [l[k]] := by
  rw [List.take_succ_eq_append_getElem h]
theorem takeM_len2 (s : Cst) (x : Int) : (takeM s x).1.length ≤ x.toNat := by
  unfold takeM
  split <;> try simp
  split <;> try simp
  split <;> try simp
  omega

theorem num8 (g : Nat) (A : Option Addr) (n c : Nat) (s : Cst) (w : World) (h : Cutr w g A n c s) :
    Calls Try.prog 68 #[.pointer (some ⟨g, 0, none⟩), .int .i64 1] w fun e w' =>
      e = .returned (.int .u8 (numM (takeM s 1).1 : Int)) ∧ Cutr w' g A n c (takeM s 1).2 ∧ Kept (One g) w w' := by
  have hlen := takeM_len2 s 1
  go_enter Try.func68, Try.ntmps68
  go_wp2_with fail
  refine (take_yes g A n c s 1 _ h (by omega)).mono ?_
  rintro e w1 ⟨A', m, c', rfl, hb, hc, hk, hl⟩
  have Hc := Lib.hid hc
  have Hk := Lib.hid hk
  clear hc hk hl h
  generalize hG : (takeM s 1).1 = l at *
  have HG := Lib.hid hG
  clear hG
  have hm0 : m ≤ 1 := by have := hb.1; have : (((1 : Int)).toNat) = 1 := rfl; omega
  have hm : m ≤ c' := hb.2.1
  have hm' : c' ≤ 9223372036854775807 := hb.2.2.1
  have Hb := Lib.hid hb
  have HL := Lib.hid hlen
  clear hb hlen
  go_wp2
  go_loop [5, 12] (fun t i => ∃ k : Nat, k ≤ m ∧ i = .int .i64 k ∧ t = .int .u64 (numM (l.take k) : Int)) (fun _ i => m - (intOf i).toNat)
  case atStart => exact ⟨0, Nat.zero_le _, rfl, rfl⟩
  case round =>
    obtain ⟨k, hk, rfl, rfl⟩ := hrel
    by_cases hlt : k < m
    · have hkl : k < l.length := by rw [Hb.out.1]; exact hlt
      obtain ⟨b, o, rfl, hcell⟩ := Hb.out.at (i := k) hkl
      have hlt2 : numM (l.take k) < 281474976710656 := by
        have h1 := numM_lt (l.take k)
        have h2 : (256 : Nat) ^ (l.take k).length ≤ 256 ^ 4 := Nat.pow_le_pow_right (by omega) (by simp; omega)
        omega
      have HJ := Lib.hid (join_u64 (numM (l.take k)) l[k] hlt2)
      have HS := Lib.hid (numM_snoc (l.take k) l[k])
      have HT := Lib.hid (take_snoc' l k hkl)
      clear hlt2
      go_wp2
      go_round
      case rel => exact ⟨k + 1, by omega, by go_num, by rw [HJ.out, HT.out, HS.out]⟩
      case measure => simp [intOf]; omega
    · have hkm : k = m := by omega
      have ht : l.take k = l := by rw [List.take_of_length_le]; rw [Hb.out.1]; omega
      have hbd : numM l ≤ 255 := by
        have h1 := numM_lt l
        have h2 : (256 : Nat) ^ l.length ≤ 256 ^ 1 := Nat.pow_le_pow_right (by omega) (by rw [Hb.out.1]; exact hm0)
        have h3 : (256 : Nat) ^ 1 = 255 + 1 := by decide
        omega
      have HC := Lib.hid (IntWalk.u8_in (numM l : Int) (by omega))
      have HT := Lib.hid ht
      have HB := Lib.hid hbd
      clear ht hkm hbd
      go_wp2
      go_ret
      refine ⟨?_, Hc.out, Hk.out⟩
      rw [HT.out]
      refine congrArg (fun z => Ending.returned (.int .u8 z)) ?_
      rw [HG.out]
      have hbd := HB.out
      first | exact HC.out | omega
theorem num16 (g : Nat) (A : Option Addr) (n c : Nat) (s : Cst) (w : World) (h : Cutr w g A n c s) :
    Calls Try.prog 79 #[.pointer (some ⟨g, 0, none⟩), .int .i64 2] w fun e w' =>
      e = .returned (.int .u16 (numM (takeM s 2).1 : Int)) ∧ Cutr w' g A n c (takeM s 2).2 ∧ Kept (One g) w w' := by
  have hlen := takeM_len2 s 2
  go_enter Try.func79, Try.ntmps79
  go_wp2_with fail
  refine (take_yes g A n c s 2 _ h (by omega)).mono ?_
  rintro e w1 ⟨A', m, c', rfl, hb, hc, hk, hl⟩
  have Hc := Lib.hid hc
  have Hk := Lib.hid hk
  clear hc hk hl h
  generalize hG : (takeM s 2).1 = l at *
  have HG := Lib.hid hG
  clear hG
  have hm0 : m ≤ 2 := by have := hb.1; have : (((2 : Int)).toNat) = 2 := rfl; omega
  have hm : m ≤ c' := hb.2.1
  have hm' : c' ≤ 9223372036854775807 := hb.2.2.1
  have Hb := Lib.hid hb
  have HL := Lib.hid hlen
  clear hb hlen
  go_wp2
  go_loop [5, 12] (fun t i => ∃ k : Nat, k ≤ m ∧ i = .int .i64 k ∧ t = .int .u64 (numM (l.take k) : Int)) (fun _ i => m - (intOf i).toNat)
  case atStart => exact ⟨0, Nat.zero_le _, rfl, rfl⟩
  case round =>
    obtain ⟨k, hk, rfl, rfl⟩ := hrel
    by_cases hlt : k < m
    · have hkl : k < l.length := by rw [Hb.out.1]; exact hlt
      obtain ⟨b, o, rfl, hcell⟩ := Hb.out.at (i := k) hkl
      have hlt2 : numM (l.take k) < 281474976710656 := by
        have h1 := numM_lt (l.take k)
        have h2 : (256 : Nat) ^ (l.take k).length ≤ 256 ^ 4 := Nat.pow_le_pow_right (by omega) (by simp; omega)
        omega
      have HJ := Lib.hid (join_u64 (numM (l.take k)) l[k] hlt2)
      have HS := Lib.hid (numM_snoc (l.take k) l[k])
      have HT := Lib.hid (take_snoc' l k hkl)
      clear hlt2
      go_wp2
      go_round
      case rel => exact ⟨k + 1, by omega, by go_num, by rw [HJ.out, HT.out, HS.out]⟩
      case measure => simp [intOf]; omega
    · have hkm : k = m := by omega
      have ht : l.take k = l := by rw [List.take_of_length_le]; rw [Hb.out.1]; omega
      have hbd : numM l ≤ 65535 := by
        have h1 := numM_lt l
        have h2 : (256 : Nat) ^ l.length ≤ 256 ^ 2 := Nat.pow_le_pow_right (by omega) (by rw [Hb.out.1]; exact hm0)
        have h3 : (256 : Nat) ^ 2 = 65535 + 1 := by decide
        omega
      have HC := Lib.hid (IntWalk.u16_in (numM l : Int) (by omega))
      have HT := Lib.hid ht
      have HB := Lib.hid hbd
      clear ht hkm hbd
      go_wp2
      go_ret
      refine ⟨?_, Hc.out, Hk.out⟩
      rw [HT.out]
      refine congrArg (fun z => Ending.returned (.int .u16 z)) ?_
      rw [HG.out]
      have hbd := HB.out
      first | exact HC.out | omega
theorem num32 (g : Nat) (A : Option Addr) (n c : Nat) (s : Cst) (w : World) (h : Cutr w g A n c s) :
    Calls Try.prog 78 #[.pointer (some ⟨g, 0, none⟩), .int .i64 4] w fun e w' =>
      e = .returned (.int .u32 (numM (takeM s 4).1 : Int)) ∧ Cutr w' g A n c (takeM s 4).2 ∧ Kept (One g) w w' := by
  have hlen := takeM_len2 s 4
  go_enter Try.func78, Try.ntmps78
  go_wp2_with fail
  refine (take_yes g A n c s 4 _ h (by omega)).mono ?_
  rintro e w1 ⟨A', m, c', rfl, hb, hc, hk, hl⟩
  have Hc := Lib.hid hc
  have Hk := Lib.hid hk
  clear hc hk hl h
  generalize hG : (takeM s 4).1 = l at *
  have HG := Lib.hid hG
  clear hG
  have hm0 : m ≤ 4 := by have := hb.1; have : (((4 : Int)).toNat) = 4 := rfl; omega
  have hm : m ≤ c' := hb.2.1
  have hm' : c' ≤ 9223372036854775807 := hb.2.2.1
  have Hb := Lib.hid hb
  have HL := Lib.hid hlen
  clear hb hlen
  go_wp2
  go_loop [5, 12] (fun t i => ∃ k : Nat, k ≤ m ∧ i = .int .i64 k ∧ t = .int .u64 (numM (l.take k) : Int)) (fun _ i => m - (intOf i).toNat)
  case atStart => exact ⟨0, Nat.zero_le _, rfl, rfl⟩
  case round =>
    obtain ⟨k, hk, rfl, rfl⟩ := hrel
    by_cases hlt : k < m
    · have hkl : k < l.length := by rw [Hb.out.1]; exact hlt
      obtain ⟨b, o, rfl, hcell⟩ := Hb.out.at (i := k) hkl
      have hlt2 : numM (l.take k) < 281474976710656 := by
        have h1 := numM_lt (l.take k)
        have h2 : (256 : Nat) ^ (l.take k).length ≤ 256 ^ 4 := Nat.pow_le_pow_right (by omega) (by simp; omega)
        omega
      have HJ := Lib.hid (join_u64 (numM (l.take k)) l[k] hlt2)
      have HS := Lib.hid (numM_snoc (l.take k) l[k])
      have HT := Lib.hid (take_snoc' l k hkl)
      clear hlt2
      go_wp2
      go_round
      case rel => exact ⟨k + 1, by omega, by go_num, by rw [HJ.out, HT.out, HS.out]⟩
      case measure => simp [intOf]; omega
    · have hkm : k = m := by omega
      have ht : l.take k = l := by rw [List.take_of_length_le]; rw [Hb.out.1]; omega
      have hbd : numM l ≤ 4294967295 := by
        have h1 := numM_lt l
        have h2 : (256 : Nat) ^ l.length ≤ 256 ^ 4 := Nat.pow_le_pow_right (by omega) (by rw [Hb.out.1]; exact hm0)
        have h3 : (256 : Nat) ^ 4 = 4294967295 + 1 := by decide
        omega
      have HC := Lib.hid (IntWalk.u32_in (numM l : Int) (by omega))
      have HT := Lib.hid ht
      have HB := Lib.hid hbd
      clear ht hkm hbd
      go_wp2
      go_ret
      refine ⟨?_, Hc.out, Hk.out⟩
      rw [HT.out]
      refine congrArg (fun z => Ending.returned (.int .u32 z)) ?_
      rw [HG.out]
      have hbd := HB.out
      first | exact HC.out | omega
theorem Byte_yes (g : Nat) (A : Option Addr) (n c : Nat) (s : Cst) (w : World) (h : Cutr w g A n c s) :
    Calls Try.prog 44 #[.pointer (some ⟨g, 0, none⟩)] w fun e w' =>
      e = .returned (.int .u8 (numM (takeM s 1).1 : Int)) ∧ Cutr w' g A n c (takeM s 1).2 ∧ Kept (One g) w w' := by
  go_enter Try.func44, Try.ntmps44
  go_wp2_with fail
  refine (num8 g A n c s _ h).mono ?_
  rintro e w1 ⟨rfl, hc, hk⟩
  have Hc := Lib.hid hc
  have Hk := Lib.hid hk
  clear hc hk h
  go_wp2
  go_ret
  exact ⟨rfl, Hc.out, Hk.out⟩
theorem Two_yes (g : Nat) (A : Option Addr) (n c : Nat) (s : Cst) (w : World) (h : Cutr w g A n c s) :
    Calls Try.prog 60 #[.pointer (some ⟨g, 0, none⟩)] w fun e w' =>
      e = .returned (.int .u16 (numM (takeM s 2).1 : Int)) ∧ Cutr w' g A n c (takeM s 2).2 ∧ Kept (One g) w w' := by
  go_enter Try.func60, Try.ntmps60
  go_wp2_with fail
  refine (num16 g A n c s _ h).mono ?_
  rintro e w1 ⟨rfl, hc, hk⟩
  have Hc := Lib.hid hc
  have Hk := Lib.hid hk
  clear hc hk h
  go_wp2
  go_ret
  exact ⟨rfl, Hc.out, Hk.out⟩
theorem Four_yes (g : Nat) (A : Option Addr) (n c : Nat) (s : Cst) (w : World) (h : Cutr w g A n c s) :
    Calls Try.prog 59 #[.pointer (some ⟨g, 0, none⟩)] w fun e w' =>
      e = .returned (.int .u32 (numM (takeM s 4).1 : Int)) ∧ Cutr w' g A n c (takeM s 4).2 ∧ Kept (One g) w w' := by
  go_enter Try.func59, Try.ntmps59
  go_wp2_with fail
  refine (num32 g A n c s _ h).mono ?_
  rintro e w1 ⟨rfl, hc, hk⟩
  have Hc := Lib.hid hc
  have Hk := Lib.hid hk
  clear hc hk h
  go_wp2
  go_ret
  exact ⟨rfl, Hc.out, Hk.out⟩

/-- Six cells out of the bytes that were taken (all, or none). -/
def macM (l : List UInt8) : List UInt8 := l ++ List.replicate (6 - l.length) 0

theorem macM_len (l : List UInt8) (h : l.length ≤ 6) : (macM l).length = 6 := by simp [macM]; omega
theorem mac_splice (l : List UInt8) (_ : l.length ≤ 6) : splice (bys (List.replicate 6 0)) 0 (bys l) = bys (macM l) := by
  simp only [splice, macM, bys, List.map_append, List.map_replicate, List.take_zero, List.nil_append, List.length_map, Nat.zero_add, List.drop_replicate]
theorem sz5 : (Try.prog.info? 5).map (·.size) = some 1 := by kernel_rfl
theorem mac_aux (w : World) (g : Nat) (A : Option Addr) (n c : Nat) (s : Cst) (A' : Option Addr) (m c' : Nat) (w0 w1 : World) (hb : Byt w1 A' m c' (takeM s 6).1) (hc : Cutr w1 g A n c (takeM s 6).2)
    (hk : Kept (One g) w0 w1) (hw0 : ∃ q, w0 = ((w.alloc (.cells (bys (List.replicate 6 0)).toArray 26)).alloc (.cells (bys (List.replicate 6 0)).toArray 26)).drewN q) (hg : g < w.heap.size) :
    Hid (Blo w1 w.heap.size 26 (bys (List.replicate 6 0)).toArray) ∧ Hid (Blo w1 (w.heap.size + 1) 26 (bys (List.replicate 6 0)).toArray) ∧ Hid (Cutr w1 g A n c (takeM s 6).2) ∧ Hid (Kept (One g) w w1) ∧
    ∃ l, Hid ((takeM s 6).1 = l) ∧ Hid ((bys l).length = Nat.min m 6) ∧
      Hid (0 < (bys l).length → some (⟨w.heap.size + 1, 0, none⟩ : Addr) = some ⟨w.heap.size + 1, 0, none⟩ ∧ ∃ ad, A' = some ad ∧ ∀ j v, (bys l)[j]? = some v → w1.cell? (ad.add j) = some v) ∧
      Hid (0 + (bys l).length ≤ (bys (List.replicate 6 0)).length) := by
  obtain ⟨q, rfl⟩ := hw0
  have h6 : (takeM s 6).1.length ≤ 6 := takeM_len2 s 6
  refine ⟨?_, ?_, hc, ?_, (takeM s 6).1, rfl, ?_, ?_, ?_⟩
  · exact (((Blo.new w _ _).alloc _).heap (w' := World.drewN _ q) rfl).kept hk (by unfold One; omega)
  · have := ((Blo.new (w.alloc (.cells (bys (List.replicate 6 0)).toArray 26)) 26 (bys (List.replicate 6 0)).toArray).heap (w' := World.drewN _ q) rfl).kept hk (by unfold One; simp; omega)
    rw [World.size_alloc] at this
    exact this
  · exact ((((Kept.refl (One g) w).alloc _).alloc _).drewN q).same hk
  · show (bys (takeM s 6).1).length = Nat.min m 6
    rw [bys_len, hb.1]
    have := hb.1
    simp only [Nat.min_def]
    split <;> omega
  · show 0 < (bys (takeM s 6).1).length → _
    intro h0
    refine ⟨rfl, ?_⟩
    obtain ⟨b, o, rfl, _⟩ := hb.at (i := 0) (by rw [bys_len] at h0; exact h0)
    exact ⟨_, rfl, hb.news⟩
  · show 0 + (bys (takeM s 6).1).length ≤ _
    rw [bys_len, bys_len]
    simp
    exact h6
set_option maxRecDepth 100000 in
theorem Mac_yes (g : Nat) (A : Option Addr) (n c : Nat) (s : Cst) (w : World) (h : Cutr w g A n c s) :
    Calls Try.prog 61 #[.pointer (some ⟨g, 0, none⟩)] w fun e w' =>
      e = .returned (.agg (bys (macM (takeM s 6).1)).toArray) ∧ Cutr w' g A n c (takeM s 6).2 ∧ Kept (One g) w w' := by
  have h2 := (h.kept ((Kept.refl Nil w).alloc (.cells #[.int .u8 0, .int .u8 0, .int .u8 0, .int .u8 0, .int .u8 0, .int .u8 0] 26)) (fun hf => hf) (fun _ _ hf => hf))
  have h3 := (h2.kept ((Kept.refl Nil _).alloc (.cells #[.int .u8 0, .int .u8 0, .int .u8 0, .int .u8 0, .int .u8 0, .int .u8 0] 26)) (fun hf => hf) (fun _ _ hf => hf))
  have H3 := Lib.hid h3
  have HG0 := Lib.hid h.blo.lt
  clear h2 h3
  go_enter Try.func61, Try.ntmps61
  go_wp2_with fail
  go_region_law (first
    | (refine step_copy_splice rfl (.tmp 4) (.tmp 6) 31 31 rfl 5 Try.underlying31 sz5 _ A' 6 6 m c' rfl rfl (w.heap.size + 1) 0 (bys (List.replicate 6 0)) 26 HB3.out (bys l) HM.out HP.out HF.out (bys_one l) (w.heap.size + 1) w1 (Below.refl _ _) (by simp) ?_; intro w2 hw2 hb2)
    | (go_simp; go_at_call 80; refine (take_yes g A n c s 6 _ (by exact H3.out.heap rfl) (by omega)).mono ?_; rintro e w1 ⟨A', m, c', rfl, hb, hc, hk, hl⟩; obtain ⟨HB2, HB3, HC, HK, l, HG, HM, HP, HF⟩ := mac_aux w g A n c s A' m c' _ w1 hb hc hk ⟨1, rfl⟩ HG0.out; clear hb hc hk hl))
  have h6 : l.length ≤ 6 := by have := HG.out; rw [← this]; exact takeM_len2 s 6
  have hm2 := hw2.out
  rw [mac_splice l h6] at hm2
  obtain ⟨x0, x1, x2, x3, x4, x5, hx⟩ := six_of _ (macM_len l h6)
  have hB2 : Blo w2 (w.heap.size + 1) 26 (bys (macM l)).toArray := hm2
  have hB1 : Blo w2 w.heap.size 26 (bys (List.replicate 6 0)).toArray := (hb2.block _ (by omega)).trans HB2.out
  rw [hx] at hB2
  have c0 := hB2.cell 0
  have c1 := hB2.cell 1
  have c2 := hB2.cell 2
  have c3 := hB2.cell 3
  have c4 := hB2.cell 4
  have c5 := hB2.cell 5
  have d0 := hB1.cell 0
  have d1 := hB1.cell 1
  have d2 := hB1.cell 2
  have d3 := hB1.cell 3
  have d4 := hB1.cell 4
  have d5 := hB1.cell 5
  have f0 := hB1.frozen 0
  have f1 := hB1.frozen 1
  have f2 := hB1.frozen 2
  have f3 := hB1.frozen 3
  have f4 := hB1.frozen 4
  have f5 := hB1.frozen 5
  simp [bys] at c0 c1 c2 c3 c4 c5 d0 d1 d2 d3 d4 d5
  have HX := Lib.hid hx
  have HB := Lib.hid hB1
  have HE := Lib.hid hb2
  clear hx hB1 hB2 hm2 hw2 hb2 h6
  go_wp2
  refine bodyPost_ret (v := .agg #[.int .u8 x0.toNat, .int .u8 x1.toNat, .int .u8 x2.toNat, .int .u8 x3.toNat, .int .u8 x4.toNat, .int .u8 x5.toNat]) (by simp [results, Try.results61, go_sem, d0, d1, d2, d3, d4, d5]) rfl ⟨?_, ?_, ?_⟩
  · rw [HG.out, HX.out]
    rfl
  · have K2 : Kept (fun k => w.heap.size ≤ k) w1 w2 := (Kept.of_below' HE.out).mono fun i _ hi => Nat.le_of_succ_le hi
    exact HC.out.kept ((((((K2.put (Nat.le_refl _) _).put (Nat.le_refl _) _).put (Nat.le_refl _) _).put (Nat.le_refl _) _).put (Nat.le_refl _) _).put (Nat.le_refl _) _)
      (by have := HG0.out; omega) (fun i hi => by have := h.byt.lt i hi; omega)
  · have K2 : Kept (fun k => w.heap.size ≤ k) w1 w2 := (Kept.of_below' HE.out).mono fun i _ hi => Nat.le_of_succ_le hi
    exact HK.out.fresh ((((((K2.put (Nat.le_refl _) _).put (Nat.le_refl _) _).put (Nat.le_refl _) _).put (Nat.le_refl _) _).put (Nat.le_refl _) _).put (Nat.le_refl _) _) (fun i hi => hi)
end Go.Proofs.Ythjfeanmgaidcaa
/- Contracts of package cut's pad: laying numbers. -/
namespace Go.Proofs.Ythjfeanmgaidcaa
open Go.RowKit
set_option linter.unusedVariables false

/-- A pad: its block, and bytes of its own. -/
structure Padd (w : World) (B g : Nat) (v : Value) (l : List UInt8) : Prop where
  blo : Blo w g 104 #[.bool true, v]
  own : w.ownsRow B 5 1 v l.length (bys l)
  ge : B ≤ g
/-- Where a pad lies. -/
def foot (g : Nat) (v : Value) : Nat → Prop := fun k => k = g ∨ v.ownBlock = some k
/-- The new row is the old one, or lies in a block that was made since. -/
def Newer (n : Nat) (v v' : Value) : Prop := ∀ k, v'.ownBlock = some k → v.ownBlock = some k ∨ n ≤ k

section
variable {w w' : World} {B g : Nat} {v : Value} {l : List UInt8}
theorem Padd.c0 (h : Padd w B g v l) : w.cell? ⟨g, 0, none⟩ = some (.bool true) := h.blo.cell 0
theorem Padd.c1 (h : Padd w B g v l) : w.cell? ⟨g, 1, none⟩ = some v := h.blo.cell 1
theorem Padd.own_ne (h : Padd w B g v l) : v.ownBlock ≠ some g := by
  intro e
  rcases h.own.2 with ⟨rfl, _⟩ | ⟨g', cap, cur, rfl, _, hg, _⟩
  · simp [Value.ownBlock] at e
  · have : g' = g := by simpa [Value.ownBlock] using e
    subst this
    exact (Blo.ne (show Blo w g' 5 cur from hg) h.blo (by decide)) rfl
theorem Padd.kept {F : Nat → Prop} (h : Padd w B g v l) (k : Kept F w w') (hF : ∀ i, foot g v i → ¬ F i) : Padd w' B g v l :=
  ⟨h.blo.kept k (hF g (.inl rfl)), own_kept h.own k (fun i hi => hF i (.inr hi)), h.ge⟩
theorem Padd.heap (h : Padd w B g v l) (e : w'.heap = w.heap) : Padd w' B g v l := ⟨h.blo.heap e, by have := h.own; unfold World.ownsRow at this ⊢; rw [e]; exact this, h.ge⟩
theorem Padd.foot_ge (h : Padd w B g v l) : ∀ k, foot g v k → B ≤ k := by
  rintro k (rfl | hk)
  · exact h.ge
  · exact (h.own.lt k hk).1
theorem Newer.refl (n : Nat) (v : Value) : Newer n v v := fun _ h => .inl h
theorem Newer.trans {n n' : Nat} {v v' v'' : Value} (h : Newer n v v') (k : Newer n' v' v'') (hn : n ≤ n') : Newer n v v'' := fun i hi => by
  rcases k i hi with h1 | h1
  · exact h i h1
  · exact .inr (by omega)
end

theorem foot_newer {n g : Nat} {v v' : Value} (h : Newer n v v') : ∀ i, i < n → foot g v' i → foot g v i := by
  rintro i hi (rfl | hf)
  · exact .inl rfl
  · rcases h i hf with h1 | h1
    · exact .inr h1
    · omega

theorem pnone_yes (g : Nat) (w : World) (h : w.cell? ⟨g, 0, none⟩ = some (.bool true)) :
    Calls Try.prog 57 #[.pointer (some ⟨g, 0, none⟩)] w fun e w' => e = .returned (.bool false) ∧ w = w' := by
  go_enter Try.func57, Try.ntmps57
  go_wp2
  go_ret
  exact ⟨rfl, rfl⟩

/-- One byte more: what an append and the store behind it leave. -/
theorem pad_step {w W w3 : World} {B g : Nat} {v v3 : Value} {L : List UInt8} {z : Int} {b : UInt8} {t : TypeId} (h : Padd w B g v L) (hW : ∃ q, W = (w.alloc (.cells #[.int .u8 z] t)).drewN q) (hz : z = (b.toNat : Int))
    (ho : w3.ownsRow B 5 1 v3 (L.length + 1) (bys L ++ [.int .u8 z])) (hg : W.grownBy w3 v.ownBlock) (hn : v3.ownBlock = v.ownBlock ∨ v3.ownBlock = some W.heap.size) :
    (w3.cell? ⟨g, 1, none⟩ = some v ∧ w3.frozen? ⟨g, 1, none⟩ = false) ∧
    Hid (Padd (w3.setCell ⟨g, 1, none⟩ v3) B g v3 (L ++ [b]) ∧ Kept (foot g v) w (w3.setCell ⟨g, 1, none⟩ v3) ∧ Newer w.heap.size v v3) := by
  obtain ⟨q, rfl⟩ := hW
  subst hz
  have K1 : Kept (foot g v) w w3 := (((Kept.refl (foot g v) w).alloc _).drewN q).grown hg (fun k hk _ => .inr hk)
  have K1' : Kept (fun k => v.ownBlock = some k) w w3 := (((Kept.refl (fun k => v.ownBlock = some k) w).alloc _).drewN q).grown hg (fun k hk _ => hk)
  have hB3 : Blo w3 g 104 #[.bool true, v] := h.blo.kept K1' (fun hf => h.own_ne hf)
  have hne : v3.ownBlock ≠ some g := by
    intro e
    rcases ho.2 with ⟨rfl, _⟩ | ⟨g', cap, cur, rfl, _, hg', _⟩
    · simp [Value.ownBlock] at e
    · have : g' = g := by simpa [Value.ownBlock] using e
      subst this
      exact (Blo.ne (show Blo w3 g' 5 cur from hg') hB3 (by decide)) rfl
  refine ⟨⟨hB3.cell 1, hB3.frozen 1⟩, ⟨by have := hB3.set 1 v3; simpa using this, ?_, h.ge⟩, K1.put (.inl rfl) _, ?_⟩
  · have := own_kept ho (Kept.one w3 g 1 none v3) (fun i hi hi' => hne (by cases hi'; exact hi))
    rw [bys_app, List.length_append]
    exact this
  · intro k hk
    rcases hn with e | e
    · exact .inl (e ▸ hk)
    · right
      rw [e] at hk
      injection hk with hk
      have : (((w.alloc (.cells #[.int .u8 (b.toNat : Int)] t)).drewN q)).heap.size = w.heap.size + 1 := by simp [World.drewN]
      omega

theorem beM_take (W x j : Nat) (h : j < W) : (beM W x).take (j + 1) = (beM W x).take j ++ [UInt8.ofNat (x / 2 ^ (8 * (W - 1 - j)))] := by
  rw [List.take_succ_eq_append_getElem (by rw [beM_len]; exact h)]
  simp [beM]
theorem lay_len (l : List UInt8) (W : Nat) (xs : List Nat) (k j n : Nat) (hk : k < xs.length) (hn : xs.length = n) (hj : j ≤ W) (hbd : l.length + n * W ≤ 1099511627776) :
    (l ++ beAll W (xs.take k) ++ (beM W xs[k]).take j).length ≤ 1099511627776 := by
  have h1 : (k + 1) * W ≤ n * W := Nat.mul_le_mul_right _ (by omega)
  have h2 : (xs.take k).length = k := by simp; omega
  simp only [List.length_append, beAll_len, List.length_take, beM_len, Nat.add_mul] at *
  rw [Nat.min_eq_left (by omega : k ≤ xs.length)]
  omega

theorem byte_s0 (x : Nat) (hx : x < 18446744073709551616) : IntKind.u8.wrap (IntKind.u64.wrap (x : Int)) = ((UInt8.ofNat (x / 2 ^ 0)).toNat : Int) := by
  rw [IntWalk.u64_in _ (by omega), IntKind.wrap_u8, UInt8.toNat_ofNat']; simp only [Nat.reducePow]; omega
theorem byte_s8 (x : Nat) (hx : x < 18446744073709551616) : IntKind.u8.wrap (IntKind.u64.wrap (x : Int) / 256) = ((UInt8.ofNat (x / 2 ^ 8)).toNat : Int) := by
  rw [IntWalk.u64_in _ (by omega), IntKind.wrap_u8, UInt8.toNat_ofNat']; simp only [Nat.reducePow]; omega
theorem byte_s16 (x : Nat) (hx : x < 18446744073709551616) : IntKind.u8.wrap (IntKind.u64.wrap (x : Int) / 65536) = ((UInt8.ofNat (x / 2 ^ 16)).toNat : Int) := by
  rw [IntWalk.u64_in _ (by omega), IntKind.wrap_u8, UInt8.toNat_ofNat']; simp only [Nat.reducePow]; omega
theorem byte_s24 (x : Nat) (hx : x < 18446744073709551616) : IntKind.u8.wrap (IntKind.u64.wrap (x : Int) / 16777216) = ((UInt8.ofNat (x / 2 ^ 24)).toNat : Int) := by
  rw [IntWalk.u64_in _ (by omega), IntKind.wrap_u8, UInt8.toNat_ofNat']; simp only [Nat.reducePow]; omega

set_option maxHeartbeats 1000000 in
theorem lay8 (B g : Nat) (v : Value) (l : List UInt8) (A : Option Addr) (n c : Nat) (xs : List Nat) (w : World) (h : Padd w B g v l) (hs : Nums .u8 w A n c xs) (hB : B ≤ w.heap.size)
    (hap : ∀ i, Lies A n i → ¬ foot g v i) (hbd : l.length + n * 1 ≤ 1099511627776) (hx : ∀ x ∈ xs, x < 256 ^ 1) :
    Calls Try.prog 54 #[.pointer (some ⟨g, 0, none⟩), .int .i64 1, .slice A n c] w fun e w' =>
      ∃ v', e = .returned (.pointer (some ⟨g, 0, none⟩)) ∧ Padd w' B g v' (l ++ beAll 1 xs) ∧ Kept (foot g v) w w' ∧ Newer w.heap.size v v' := by
  have hnc := hs.2.1
  have hcc := hs.2.2.1
  have h0 := h.c0
  go_enter Try.func54, Try.ntmps54
  go_wp2_with (go_at_call 57; refine (pnone_yes g _ h0).mono ?_; rintro e w' ⟨rfl, rfl⟩)
  go_loopw [15] (fun i wr => ∃ (k : Nat) (v' : Value), k ≤ n ∧ i = .int .i64 k ∧ Padd wr B g v' (l ++ beAll 1 (xs.take k)) ∧ Kept (foot g v) w wr ∧ Newer w.heap.size v v') (fun i _ => n - (intOf i).toNat)
  case atStart => exact ⟨0, v, Nat.zero_le _, rfl, by simpa [beAll] using h, Kept.refl _ _, Newer.refl _ _⟩
  case round =>
    obtain ⟨k, v', hk, rfl, hp, hkp, hnw⟩ := hrel
    by_cases hlt : k < n
    · have hkl : k < xs.length := by rw [hs.1]; exact hlt
      obtain ⟨b, o, rfl, hce⟩ := (hs.kept hkp hap).at hkl
      have HP := Lib.hid hp
      have HK := Lib.hid hkp
      have HN := Lib.hid hnw
      have hxk : xs[k] < 256 ^ 1 := hx _ (List.getElem_mem hkl)
      have hxk' : xs[k] < 18446744073709551616 := Nat.lt_of_lt_of_le hxk (by decide)
      have HX := Lib.hid hxk
      clear hp hkp hnw hxk
      go_wp2
      obtain ⟨wo, rfl⟩ : ∃ wo : World, wo = wr := ⟨_, rfl⟩
      go_loopw [9] (fun sh wr => ∃ (j : Nat) (v' : Value) (z : Int), j ≤ 1 ∧ z = 8 * (1 - 1 : Int) - 8 * j ∧ sh = .int .i64 z ∧ Padd wr B g v' (l ++ beAll 1 (xs.take k) ++ (beM 1 xs[k]).take j) ∧ Kept (foot g v) w wr ∧ Newer w.heap.size v v') (fun sh _ => (intOf sh + 8).toNat)
      case atStart => exact ⟨0, v', 8 * (1 - 1), by omega, by omega, by go_num, by simpa using HP.out, HK.out, HN.out⟩
      case round =>
        obtain ⟨j, v2, z, hj, hz, rfl, hp, hkp, hnw⟩ := hrel
        by_cases hjl : j < 1
        · have hLl := lay_len l 1 xs k j n hkl hs.1 hj hbd
          have hLn := beM_take 1 xs[k] j hjl
          obtain ⟨L, hL⟩ : ∃ L, L = l ++ beAll 1 (xs.take k) ++ (beM 1 xs[k]).take j := ⟨_, rfl⟩
          rw [← hL] at hp hLl
          obtain ⟨bb, hbb⟩ : ∃ bb, bb = UInt8.ofNat (xs[k] / 2 ^ (8 * (1 - 1 - j))) := ⟨_, rfl⟩
          rw [← hbb] at hLn
          have HL := Lib.hid hL
          have HLn := Lib.hid hLn
          have HBB := Lib.hid hbb
          have q1 := hp.c1
          have q2 := hp.blo.frozen 1
          have hgl : g < wr.heap.size := hp.blo.lt
          have hga := fun o => World.cell?_alloc_lt wr o ⟨g, 1, none⟩ hgl
          rw [q1] at hga
          have hsz : B ≤ wr.heap.size := Nat.le_trans hB hkp.size
          obtain ⟨i0, hi, hz0, hz1, hz2⟩ := info_parts Try.infb
          have HP2 := Lib.hid hp
          have HK2 := Lib.hid hkp
          have HN2 := Lib.hid hnw
          clear hp hkp hnw hL hLn hbb
          rcases (show z = 0 ∨ z = 8 ∨ z = 16 ∨ z = 24 by omega) with rfl | rfl | rfl | rfl
          all_goals first | (exfalso; omega) | skip
          all_goals
            have HZ := Lib.hid hz
            clear hz
            go_wp2
            go_region_law (refine step_own rfl (.tmp 30) (.tmp 36) 31 rfl B 5 i0 (.int .u8 0) 1 1 Try.underlying31 hi hz0 hz1 hz2 rfl (by decide) v2 _ _ rfl (by exact HP2.out.own.alloc _) ⟨_, 0, none⟩ 1 1 [_] rfl rfl (cell_one_new _ _ _) (by intro u hu; simp at hu; subst hu; rfl) (by unfold maxLen; omega) (by omega) (by simp; omega) ?_; intro v3 w3 ho3 hg3 hn3; obtain ⟨A3, c3, rfl⟩ := own_form ho3; obtain ⟨⟨s1, s2⟩, HQ⟩ := pad_step (b := bb) HP2.out ⟨1, rfl⟩ (by rw [HBB.out]; first | (rw [show 8 * (1 - 1 - j) = 0 from by have := HZ.out; omega]; exact byte_s0 _ hxk') | (rw [show 8 * (1 - 1 - j) = 8 from by have := HZ.out; omega]; exact byte_s8 _ hxk') | (rw [show 8 * (1 - 1 - j) = 16 from by have := HZ.out; omega]; exact byte_s16 _ hxk') | (rw [show 8 * (1 - 1 - j) = 24 from by have := HZ.out; omega]; exact byte_s24 _ hxk')) ho3 hg3 hn3; clear ho3 hg3 hn3)
            all_goals
              go_wp2
              go_roundw
              case rel => exact ⟨j + 1, _, _, by omega, by have := HZ.out; omega, rfl, by rw [HLn.out, ← List.append_assoc, ← HL.out]; exact HQ.out.1, HK2.out.trans HQ.out.2.1 (foot_newer HN2.out), HN2.out.trans HQ.out.2.2 HK2.out.size⟩
              case measure => simp [intOf]
        · have hfull : (beM 1 xs[k]).take j = beM 1 xs[k] := List.take_of_length_le (by rw [beM_len]; omega)
          rw [hfull, List.append_assoc, ← beAll_snoc 1 xs k hkl] at hp
          have HP2 := Lib.hid hp
          have HK2 := Lib.hid hkp
          have HN2 := Lib.hid hnw
          clear hp hkp hnw hfull
          have hz2 : z < 0 := by omega
          have HZ := Lib.hid hz
          clear hz
          go_wp2
          go_roundw
          case rel => exact ⟨k + 1, _, by omega, by go_num, HP2.out, HK2.out, HN2.out⟩
          case measure => simp [intOf]; omega
    · have hfull : xs.take k = xs := List.take_of_length_le (by rw [hs.1]; omega)
      rw [hfull] at hp
      have HP2 := Lib.hid hp
      have HK2 := Lib.hid hkp
      have HN2 := Lib.hid hnw
      clear hp hkp hnw hfull
      go_wp2
      go_ret
      exact ⟨_, rfl, HP2.out, HK2.out, HN2.out⟩
set_option maxHeartbeats 1000000 in
theorem lay16 (B g : Nat) (v : Value) (l : List UInt8) (A : Option Addr) (n c : Nat) (xs : List Nat) (w : World) (h : Padd w B g v l) (hs : Nums .u16 w A n c xs) (hB : B ≤ w.heap.size)
    (hap : ∀ i, Lies A n i → ¬ foot g v i) (hbd : l.length + n * 2 ≤ 1099511627776) (hx : ∀ x ∈ xs, x < 256 ^ 2) :
    Calls Try.prog 56 #[.pointer (some ⟨g, 0, none⟩), .int .i64 2, .slice A n c] w fun e w' =>
      ∃ v', e = .returned (.pointer (some ⟨g, 0, none⟩)) ∧ Padd w' B g v' (l ++ beAll 2 xs) ∧ Kept (foot g v) w w' ∧ Newer w.heap.size v v' := by
  have hnc := hs.2.1
  have hcc := hs.2.2.1
  have h0 := h.c0
  go_enter Try.func56, Try.ntmps56
  go_wp2_with (go_at_call 57; refine (pnone_yes g _ h0).mono ?_; rintro e w' ⟨rfl, rfl⟩)
  go_loopw [15] (fun i wr => ∃ (k : Nat) (v' : Value), k ≤ n ∧ i = .int .i64 k ∧ Padd wr B g v' (l ++ beAll 2 (xs.take k)) ∧ Kept (foot g v) w wr ∧ Newer w.heap.size v v') (fun i _ => n - (intOf i).toNat)
  case atStart => exact ⟨0, v, Nat.zero_le _, rfl, by simpa [beAll] using h, Kept.refl _ _, Newer.refl _ _⟩
  case round =>
    obtain ⟨k, v', hk, rfl, hp, hkp, hnw⟩ := hrel
    by_cases hlt : k < n
    · have hkl : k < xs.length := by rw [hs.1]; exact hlt
      obtain ⟨b, o, rfl, hce⟩ := (hs.kept hkp hap).at hkl
      have HP := Lib.hid hp
      have HK := Lib.hid hkp
      have HN := Lib.hid hnw
      have hxk : xs[k] < 256 ^ 2 := hx _ (List.getElem_mem hkl)
      have hxk' : xs[k] < 18446744073709551616 := Nat.lt_of_lt_of_le hxk (by decide)
      have HX := Lib.hid hxk
      clear hp hkp hnw hxk
      go_wp2
      obtain ⟨wo, rfl⟩ : ∃ wo : World, wo = wr := ⟨_, rfl⟩
      go_loopw [9] (fun sh wr => ∃ (j : Nat) (v' : Value) (z : Int), j ≤ 2 ∧ z = 8 * (2 - 1 : Int) - 8 * j ∧ sh = .int .i64 z ∧ Padd wr B g v' (l ++ beAll 2 (xs.take k) ++ (beM 2 xs[k]).take j) ∧ Kept (foot g v) w wr ∧ Newer w.heap.size v v') (fun sh _ => (intOf sh + 8).toNat)
      case atStart => exact ⟨0, v', 8 * (2 - 1), by omega, by omega, by go_num, by simpa using HP.out, HK.out, HN.out⟩
      case round =>
        obtain ⟨j, v2, z, hj, hz, rfl, hp, hkp, hnw⟩ := hrel
        by_cases hjl : j < 2
        · have hLl := lay_len l 2 xs k j n hkl hs.1 hj hbd
          have hLn := beM_take 2 xs[k] j hjl
          obtain ⟨L, hL⟩ : ∃ L, L = l ++ beAll 2 (xs.take k) ++ (beM 2 xs[k]).take j := ⟨_, rfl⟩
          rw [← hL] at hp hLl
          obtain ⟨bb, hbb⟩ : ∃ bb, bb = UInt8.ofNat (xs[k] / 2 ^ (8 * (2 - 1 - j))) := ⟨_, rfl⟩
          rw [← hbb] at hLn
          have HL := Lib.hid hL
          have HLn := Lib.hid hLn
          have HBB := Lib.hid hbb
          have q1 := hp.c1
          have q2 := hp.blo.frozen 1
          have hgl : g < wr.heap.size := hp.blo.lt
          have hga := fun o => World.cell?_alloc_lt wr o ⟨g, 1, none⟩ hgl
          rw [q1] at hga
          have hsz : B ≤ wr.heap.size := Nat.le_trans hB hkp.size
          obtain ⟨i0, hi, hz0, hz1, hz2⟩ := info_parts Try.infb
          have HP2 := Lib.hid hp
          have HK2 := Lib.hid hkp
          have HN2 := Lib.hid hnw
          clear hp hkp hnw hL hLn hbb
          rcases (show z = 0 ∨ z = 8 ∨ z = 16 ∨ z = 24 by omega) with rfl | rfl | rfl | rfl
          all_goals first | (exfalso; omega) | skip
          all_goals
            have HZ := Lib.hid hz
            clear hz
            go_wp2
            go_region_law (refine step_own rfl (.tmp 30) (.tmp 36) 31 rfl B 5 i0 (.int .u8 0) 1 1 Try.underlying31 hi hz0 hz1 hz2 rfl (by decide) v2 _ _ rfl (by exact HP2.out.own.alloc _) ⟨_, 0, none⟩ 1 1 [_] rfl rfl (cell_one_new _ _ _) (by intro u hu; simp at hu; subst hu; rfl) (by unfold maxLen; omega) (by omega) (by simp; omega) ?_; intro v3 w3 ho3 hg3 hn3; obtain ⟨A3, c3, rfl⟩ := own_form ho3; obtain ⟨⟨s1, s2⟩, HQ⟩ := pad_step (b := bb) HP2.out ⟨1, rfl⟩ (by rw [HBB.out]; first | (rw [show 8 * (2 - 1 - j) = 0 from by have := HZ.out; omega]; exact byte_s0 _ hxk') | (rw [show 8 * (2 - 1 - j) = 8 from by have := HZ.out; omega]; exact byte_s8 _ hxk') | (rw [show 8 * (2 - 1 - j) = 16 from by have := HZ.out; omega]; exact byte_s16 _ hxk') | (rw [show 8 * (2 - 1 - j) = 24 from by have := HZ.out; omega]; exact byte_s24 _ hxk')) ho3 hg3 hn3; clear ho3 hg3 hn3)
            all_goals
              go_wp2
              go_roundw
              case rel => exact ⟨j + 1, _, _, by omega, by have := HZ.out; omega, rfl, by rw [HLn.out, ← List.append_assoc, ← HL.out]; exact HQ.out.1, HK2.out.trans HQ.out.2.1 (foot_newer HN2.out), HN2.out.trans HQ.out.2.2 HK2.out.size⟩
              case measure => simp [intOf]
        · have hfull : (beM 2 xs[k]).take j = beM 2 xs[k] := List.take_of_length_le (by rw [beM_len]; omega)
          rw [hfull, List.append_assoc, ← beAll_snoc 2 xs k hkl] at hp
          have HP2 := Lib.hid hp
          have HK2 := Lib.hid hkp
          have HN2 := Lib.hid hnw
          clear hp hkp hnw hfull
          have hz2 : z < 0 := by omega
          have HZ := Lib.hid hz
          clear hz
          go_wp2
          go_roundw
          case rel => exact ⟨k + 1, _, by omega, by go_num, HP2.out, HK2.out, HN2.out⟩
          case measure => simp [intOf]; omega
    · have hfull : xs.take k = xs := List.take_of_length_le (by rw [hs.1]; omega)
      rw [hfull] at hp
      have HP2 := Lib.hid hp
      have HK2 := Lib.hid hkp
      have HN2 := Lib.hid hnw
      clear hp hkp hnw hfull
      go_wp2
      go_ret
      exact ⟨_, rfl, HP2.out, HK2.out, HN2.out⟩
set_option maxHeartbeats 1000000 in
theorem lay32 (B g : Nat) (v : Value) (l : List UInt8) (A : Option Addr) (n c : Nat) (xs : List Nat) (w : World) (h : Padd w B g v l) (hs : Nums .u32 w A n c xs) (hB : B ≤ w.heap.size)
    (hap : ∀ i, Lies A n i → ¬ foot g v i) (hbd : l.length + n * 4 ≤ 1099511627776) (hx : ∀ x ∈ xs, x < 256 ^ 4) :
    Calls Try.prog 55 #[.pointer (some ⟨g, 0, none⟩), .int .i64 4, .slice A n c] w fun e w' =>
      ∃ v', e = .returned (.pointer (some ⟨g, 0, none⟩)) ∧ Padd w' B g v' (l ++ beAll 4 xs) ∧ Kept (foot g v) w w' ∧ Newer w.heap.size v v' := by
  have hnc := hs.2.1
  have hcc := hs.2.2.1
  have h0 := h.c0
  go_enter Try.func55, Try.ntmps55
  go_wp2_with (go_at_call 57; refine (pnone_yes g _ h0).mono ?_; rintro e w' ⟨rfl, rfl⟩)
  go_loopw [15] (fun i wr => ∃ (k : Nat) (v' : Value), k ≤ n ∧ i = .int .i64 k ∧ Padd wr B g v' (l ++ beAll 4 (xs.take k)) ∧ Kept (foot g v) w wr ∧ Newer w.heap.size v v') (fun i _ => n - (intOf i).toNat)
  case atStart => exact ⟨0, v, Nat.zero_le _, rfl, by simpa [beAll] using h, Kept.refl _ _, Newer.refl _ _⟩
  case round =>
    obtain ⟨k, v', hk, rfl, hp, hkp, hnw⟩ := hrel
    by_cases hlt : k < n
    · have hkl : k < xs.length := by rw [hs.1]; exact hlt
      obtain ⟨b, o, rfl, hce⟩ := (hs.kept hkp hap).at hkl
      have HP := Lib.hid hp
      have HK := Lib.hid hkp
      have HN := Lib.hid hnw
      have hxk : xs[k] < 256 ^ 4 := hx _ (List.getElem_mem hkl)
      have hxk' : xs[k] < 18446744073709551616 := Nat.lt_of_lt_of_le hxk (by decide)
      have HX := Lib.hid hxk
      clear hp hkp hnw hxk
      go_wp2
      obtain ⟨wo, rfl⟩ : ∃ wo : World, wo = wr := ⟨_, rfl⟩
      go_loopw [9] (fun sh wr => ∃ (j : Nat) (v' : Value) (z : Int), j ≤ 4 ∧ z = 8 * (4 - 1 : Int) - 8 * j ∧ sh = .int .i64 z ∧ Padd wr B g v' (l ++ beAll 4 (xs.take k) ++ (beM 4 xs[k]).take j) ∧ Kept (foot g v) w wr ∧ Newer w.heap.size v v') (fun sh _ => (intOf sh + 8).toNat)
      case atStart => exact ⟨0, v', 8 * (4 - 1), by omega, by omega, by go_num, by simpa using HP.out, HK.out, HN.out⟩
      case round =>
        obtain ⟨j, v2, z, hj, hz, rfl, hp, hkp, hnw⟩ := hrel
        by_cases hjl : j < 4
        · have hLl := lay_len l 4 xs k j n hkl hs.1 hj hbd
          have hLn := beM_take 4 xs[k] j hjl
          obtain ⟨L, hL⟩ : ∃ L, L = l ++ beAll 4 (xs.take k) ++ (beM 4 xs[k]).take j := ⟨_, rfl⟩
          rw [← hL] at hp hLl
          obtain ⟨bb, hbb⟩ : ∃ bb, bb = UInt8.ofNat (xs[k] / 2 ^ (8 * (4 - 1 - j))) := ⟨_, rfl⟩
          rw [← hbb] at hLn
          have HL := Lib.hid hL
          have HLn := Lib.hid hLn
          have HBB := Lib.hid hbb
          have q1 := hp.c1
          have q2 := hp.blo.frozen 1
          have hgl : g < wr.heap.size := hp.blo.lt
          have hga := fun o => World.cell?_alloc_lt wr o ⟨g, 1, none⟩ hgl
          rw [q1] at hga
          have hsz : B ≤ wr.heap.size := Nat.le_trans hB hkp.size
          obtain ⟨i0, hi, hz0, hz1, hz2⟩ := info_parts Try.infb
          have HP2 := Lib.hid hp
          have HK2 := Lib.hid hkp
          have HN2 := Lib.hid hnw
          clear hp hkp hnw hL hLn hbb
          rcases (show z = 0 ∨ z = 8 ∨ z = 16 ∨ z = 24 by omega) with rfl | rfl | rfl | rfl
          all_goals first | (exfalso; omega) | skip
          all_goals
            have HZ := Lib.hid hz
            clear hz
            go_wp2
            go_region_law (refine step_own rfl (.tmp 30) (.tmp 36) 31 rfl B 5 i0 (.int .u8 0) 1 1 Try.underlying31 hi hz0 hz1 hz2 rfl (by decide) v2 _ _ rfl (by exact HP2.out.own.alloc _) ⟨_, 0, none⟩ 1 1 [_] rfl rfl (cell_one_new _ _ _) (by intro u hu; simp at hu; subst hu; rfl) (by unfold maxLen; omega) (by omega) (by simp; omega) ?_; intro v3 w3 ho3 hg3 hn3; obtain ⟨A3, c3, rfl⟩ := own_form ho3; obtain ⟨⟨s1, s2⟩, HQ⟩ := pad_step (b := bb) HP2.out ⟨1, rfl⟩ (by rw [HBB.out]; first | (rw [show 8 * (4 - 1 - j) = 0 from by have := HZ.out; omega]; exact byte_s0 _ hxk') | (rw [show 8 * (4 - 1 - j) = 8 from by have := HZ.out; omega]; exact byte_s8 _ hxk') | (rw [show 8 * (4 - 1 - j) = 16 from by have := HZ.out; omega]; exact byte_s16 _ hxk') | (rw [show 8 * (4 - 1 - j) = 24 from by have := HZ.out; omega]; exact byte_s24 _ hxk')) ho3 hg3 hn3; clear ho3 hg3 hn3)
            all_goals
              go_wp2
              go_roundw
              case rel => exact ⟨j + 1, _, _, by omega, by have := HZ.out; omega, rfl, by rw [HLn.out, ← List.append_assoc, ← HL.out]; exact HQ.out.1, HK2.out.trans HQ.out.2.1 (foot_newer HN2.out), HN2.out.trans HQ.out.2.2 HK2.out.size⟩
              case measure => simp [intOf]
        · have hfull : (beM 4 xs[k]).take j = beM 4 xs[k] := List.take_of_length_le (by rw [beM_len]; omega)
          rw [hfull, List.append_assoc, ← beAll_snoc 4 xs k hkl] at hp
          have HP2 := Lib.hid hp
          have HK2 := Lib.hid hkp
          have HN2 := Lib.hid hnw
          clear hp hkp hnw hfull
          have hz2 : z < 0 := by omega
          have HZ := Lib.hid hz
          clear hz
          go_wp2
          go_roundw
          case rel => exact ⟨k + 1, _, by omega, by go_num, HP2.out, HK2.out, HN2.out⟩
          case measure => simp [intOf]; omega
    · have hfull : xs.take k = xs := List.take_of_length_le (by rw [hs.1]; omega)
      rw [hfull] at hp
      have HP2 := Lib.hid hp
      have HK2 := Lib.hid hkp
      have HN2 := Lib.hid hnw
      clear hp hkp hnw hfull
      go_wp2
      go_ret
      exact ⟨_, rfl, HP2.out, HK2.out, HN2.out⟩
end Go.Proofs.Ythjfeanmgaidcaa
