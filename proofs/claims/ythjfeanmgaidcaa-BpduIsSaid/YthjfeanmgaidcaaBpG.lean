/- Package bpdu: takeKind, the closure that takes a field, takeFields. -/
import Derived.Test.YthjfeanmgaidcaaMg6
import Derived.Test.YthjfeanmgaidcaaMg8
namespace Go.Proofs.Ythjfeanmgaidcaa
open Go.RowKit Go.Sort
set_option linter.unusedVariables false

theorem join_w (a : Nat) (b : UInt8) (ha : a < 72057594037927936) : bits .or .u64 (IntKind.u64.wrap ((a : Int) * 256)) (IntKind.u64.wrap (b.toNat : Int)) = ((a * 256 + b.toNat : Nat) : Int) := by
  have hb := b.toNat_lt
  rw [IntWalk.u64_in _ (by omega), IntWalk.u64_in (b.toNat : Int) (by omega)]
  have e : ((a : Int) * 256) = ((a * 256 : Nat) : Int) := by omega
  rw [e, u64_or_nat _ _ (by omega) (by omega), nat_join 8 _ _ (by omega) (by omega)]
set_option maxRecDepth 100000 in
set_option maxHeartbeats 1000000 in
theorem tk_yes (g gc : Nat) (A : Option Addr) (n c : Nat) (s : Cst) (wd : Nat) (hwd : wd ≤ 8) (w : World) (h : Cutr w g A n c s) (hb : Blo w gc 77 #[.pointer (some ⟨g, 0, none⟩)]) (hn : n ≤ 140737488355328) :
    Calls Try.prog 67 #[.int .i64 (wd : Int), .pointer (some ⟨gc, 0, none⟩)] w fun e w' => e = .returned (.int .u64 (numM (takeM s wd).1 : Int)) ∧ Cutr w' g A n c (takeM s wd).2 ∧ Kept (One g) w w' := by
  have hlen := takeM_len2 s wd
  have c0 := hb.cell 0
  have f0 := hb.frozen 0
  simp at c0
  go_enter Try.func67, Try.ntmps67
  go_wp2_with (fail)
  refine (Take_yes g A n c s wd _ h (by omega) hn).mono ?_
  rintro e w1 ⟨v, rfl, hm, hc, hk⟩
  obtain ⟨A', c', rfl, hy, -⟩ := Byt.of_own hm
  have Hc := Lib.hid hc
  have Hk := Lib.hid hk
  clear hc hk h hb hm c0 f0
  generalize hG : (takeM s wd).1 = l at *
  have HG := Lib.hid hG
  clear hG
  obtain ⟨m, hml⟩ : ∃ m, l.length = m := ⟨_, rfl⟩
  rw [hml] at hy hlen ⊢
  have hm0 : m ≤ 8 := by omega
  have hmc : m ≤ c' := hy.2.1
  have hcc : c' ≤ 9223372036854775807 := hy.2.2.1
  have Hb := Lib.hid hy
  have HL := Lib.hid hlen
  have HML := Lib.hid hml
  clear hy hlen hml
  go_wp2
  go_loop [4, 11] (fun t i => ∃ k : Nat, k ≤ m ∧ i = .int .i64 (k : Int) ∧ t = .int .u64 (numM (l.take k) : Int)) (fun _ i => m - (intOf i).toNat)
  case atStart => exact ⟨0, Nat.zero_le _, rfl, rfl⟩
  case round =>
    obtain ⟨k, hk, rfl, rfl⟩ := hrel
    by_cases hlt : k < m
    · have hkl : k < l.length := by rw [HML.out]; exact hlt
      obtain ⟨b, o, rfl, hcell⟩ := Hb.out.at (i := k) hkl
      have hlt2 : numM (l.take k) < 72057594037927936 := by
        have h1 := numM_lt (l.take k)
        have h2 : (256 : Nat) ^ (l.take k).length ≤ 256 ^ 7 := Nat.pow_le_pow_right (by omega) (by simp; omega)
        omega
      have HJ := Lib.hid (join_w (numM (l.take k)) l[k] hlt2)
      have HS := Lib.hid (numM_snoc (l.take k) l[k])
      have HT := Lib.hid (take_snoc' l k hkl)
      clear hlt2
      go_wp2
      go_round
      case rel => exact ⟨k + 1, by omega, by go_num, by rw [HJ.out, HT.out, HS.out]⟩
      case measure => simp [intOf]; omega
    · have hkm : k = m := by omega
      have ht : l.take k = l := by rw [List.take_of_length_le]; rw [HML.out]; omega
      have HT := Lib.hid ht
      clear ht hkm
      go_wp2
      go_ret
      refine ⟨?_, Hc.out, Hk.out⟩
      rw [HT.out, HG.out]
      rfl
/-- The kind, out of the first four bytes. -/
def kinB (n : Nat) : Int := if n = 0 then 1 else if n = 128 then 2 else if n = 514 then 3 else 0
def tkM (s : Cst) : Int × Cst := (kinB (numM (takeM s 4).1), if kinB (numM (takeM s 4).1) = 0 then failM (takeM s 4).2 5 else (takeM s 4).2)
set_option maxRecDepth 100000 in
theorem kind_yes (g : Nat) (A : Option Addr) (n c : Nat) (s : Cst) (w : World) (h : Cutr w g A n c s) : Calls Try.prog 42 #[.pointer (some ⟨g, 0, none⟩)] w fun e w' => e = .returned (.int .i64 (tkM s).1) ∧ Cutr w' g A n c (tkM s).2 ∧ Kept (One g) w w' := by
  go_enter Try.func42, Try.ntmps42
  go_wp2_with (fail)
  refine (Four_yes g A n c s _ h).mono ?_
  rintro e w1 ⟨rfl, hc, hk⟩
  have HF := Lib.hid (show tkM s = (kinB (numM (takeM s 4).1), if kinB (numM (takeM s 4).1) = 0 then failM (takeM s 4).2 5 else (takeM s 4).2) from rfl)
  generalize (takeM s 4).2 = s1 at *
  generalize numM (takeM s 4).1 = v at *
  have Hc := Lib.hid hc
  have Hk := Lib.hid hk
  clear hc hk h
  by_cases h0 : v = 0
  · have b0 : ((v : Int) == 0) = true := by simp [h0]
    have hkn : kinB v = 1 := by unfold kinB; rw [if_pos h0]
    rw [hkn, if_neg (by decide)] at HF
    clear h0 hkn
    go_wp2
    go_ret
    exact ⟨by rw [HF.out]; rfl, by rw [HF.out]; exact Hc.out, Hk.out⟩
  · have b0 : ((v : Int) == 0) = false := by simp; omega
    by_cases h1 : v = 128
    · have b1 : ((v : Int) == 128) = true := by simp; omega
      have hkn : kinB v = 2 := by unfold kinB; rw [if_neg h0, if_pos h1]
      rw [hkn, if_neg (by decide)] at HF
      clear h0 h1 hkn
      go_wp2
      go_ret
      exact ⟨by rw [HF.out]; rfl, by rw [HF.out]; exact Hc.out, Hk.out⟩
    · have b1 : ((v : Int) == 128) = false := by simp; omega
      by_cases h2 : v = 514
      · have b2 : ((v : Int) == 514) = true := by simp; omega
        have hkn : kinB v = 3 := by unfold kinB; rw [if_neg h0, if_neg h1, if_pos h2]
        rw [hkn, if_neg (by decide)] at HF
        clear h0 h1 h2 hkn
        go_wp2
        go_ret
        exact ⟨by rw [HF.out]; rfl, by rw [HF.out]; exact Hc.out, Hk.out⟩
      · have b2 : ((v : Int) == 514) = false := by simp; omega
        have hkn : kinB v = 0 := by unfold kinB; rw [if_neg h0, if_neg h1, if_neg h2]
        rw [hkn, if_pos rfl] at HF
        clear h0 h1 h2 hkn
        go_wp2_with (fail)
        refine (fail_yes g A n c s1 5 _ Hc.out).mono ?_
        rintro e w2 ⟨rfl, hc, hk⟩
        have Hd := Lib.hid hc
        have Hl := Lib.hid (Hk.out.same hk)
        clear hc hk
        go_wp2
        go_ret
        exact ⟨by rw [HF.out]; rfl, by rw [HF.out]; exact Hd.out, Hl.out⟩
/-- The fields behind it, one by one. -/
def st1 (s : Cst) : Cst := (takeM s 1).2
def st2 (s : Cst) : Cst := (takeM (st1 s) 8).2
def st3 (s : Cst) : Cst := (takeM (st2 s) 4).2
def st4 (s : Cst) : Cst := (takeM (st3 s) 8).2
def st5 (s : Cst) : Cst := (takeM (st4 s) 2).2
def st6 (s : Cst) : Cst := (takeM (st5 s) 2).2
def st7 (s : Cst) : Cst := (takeM (st6 s) 2).2
def st8 (s : Cst) : Cst := (takeM (st7 s) 2).2
def st9 (s : Cst) : Cst := (takeM (st8 s) 2).2
def tfM (k : Int) (s : Cst) : Bp := ⟨k, numM (takeM s 1).1, numM (takeM (st1 s) 8).1, numM (takeM (st3 s) 8).1, numM (takeM (st2 s) 4).1, numM (takeM (st4 s) 2).1, numM (takeM (st5 s) 2).1, numM (takeM (st6 s) 2).1, numM (takeM (st7 s) 2).1, numM (takeM (st8 s) 2).1⟩
theorem take_lt (s : Cst) (wd : Nat) : numM (takeM s wd).1 < 256 ^ wd := by
  have h1 := numM_lt (takeM s wd).1
  have h2 := takeM_len2 s wd
  have h3 : (256 : Nat) ^ (takeM s wd).1.length ≤ 256 ^ wd := Nat.pow_le_pow_right (by omega) (by simpa using h2)
  omega
theorem tfM_ok (k : Int) (s : Cst) (h0 : -9223372036854775808 ≤ k) (h1 : k ≤ 9223372036854775807) : (tfM k s).ok := ⟨h0, h1, take_lt _ 1, take_lt _ 8, take_lt _ 8, take_lt _ 4, take_lt _ 2, take_lt _ 2, take_lt _ 2, take_lt _ 2, take_lt _ 2⟩
theorem wrap_8 (x : Nat) (h : x < 256) : (x : Int) % 256 = x := by omega
theorem wrap_16 (x : Nat) (h : x < 65536) : (x : Int) % 65536 = x := by omega
theorem wrap_32 (x : Nat) (h : x < 4294967296) : (x : Int) % 4294967296 = x := by omega
set_option maxRecDepth 100000 in
set_option maxHeartbeats 2000000 in
theorem fields_yes (g : Nat) (A : Option Addr) (n c : Nat) (s : Cst) (k : Int) (w : World) (h : Cutr w g A n c s) (hn : n ≤ 140737488355328) : Calls Try.prog 43 #[.pointer (some ⟨g, 0, none⟩), .int .i64 k] w fun e w' => e = .returned (bpv (tfM k s)) ∧ Cutr w' g A n c (st9 s) ∧ Kept (One g) w w' := by
  have hB := Blo.new w 77 #[.pointer (some ⟨g, 0, none⟩)]
  have hR := BPB.new (w.alloc (.cells #[.pointer (some ⟨g, 0, none⟩)] 77)) 52 Bp.zero
  rw [World.size_alloc] at hR
  have hC := (h.kept ((Kept.refl Nil w).alloc (.cells #[.pointer (some ⟨g, 0, none⟩)] 77)) (fun hf => hf) (fun _ _ hf => hf)).kept ((Kept.refl Nil _).alloc (.cells (bpl Bp.zero).toArray 52)) (fun hf => hf) (fun _ _ hf => hf)
  have hlt := h.blo.lt
  have hna : ∀ i, Lies A n i → i ≠ w.heap.size + 1 := fun i hi => by have := h.byt.lt i hi; omega
  go_enter Try.func43, Try.ntmps43
  go_upto_region 2 with (fail)
  refine wp_nameE (fun W => Cutr W g A n c s ∧ Blo W w.heap.size 77 #[.pointer (some ⟨g, 0, none⟩)] ∧ BPB W (w.heap.size + 1) 52 Bp.zero ∧ Kept Nil w W) ⟨hC, hB.kept ((Kept.refl Nil _).alloc _) (fun hf => hf), hR, ((Kept.refl Nil w).alloc _).alloc _⟩ ?_
  clear hB hR hC h
  rintro W ⟨hC, hB, hR, hk⟩
  have Hgg := Lib.hid hlt
  obtain ⟨gc, hgc⟩ : ∃ x, w.heap.size = x := ⟨_, rfl⟩
  rw [hgc] at hB hR Hgg hna ⊢
  have HNA := Lib.hid hna
  have HGC := Lib.hid hgc
  have HR := Lib.hid hR
  have HK := Lib.hid (show Kept (One g) w W from hk.mono (fun _ _ hf => hf.elim))
  have HC := Lib.hid hC
  have HB := Lib.hid hB
  have HN := Lib.hid hn
  clear hC hB hR hk hlt hgc hn hna
  go_wp2_with (fail)
  refine (tk_yes g gc A n c s 1 (by decide) _ HC.out HB.out HN.out).mono ?_
  rintro e w1 ⟨rfl, hc, hk⟩
  have HC := Lib.hid (show Cutr w1 g A n c (st1 s) from hc)
  have HB := Lib.hid (HB.out.kept hk (fun hf => absurd hf (by have := Hgg.out; unfold One; omega)))
  have HR := Lib.hid (HR.out.kept hk (fun hf => absurd hf (by have := Hgg.out; unfold One; omega)))
  have HK := Lib.hid (HK.out.same hk)
  clear hc hk
  have hlt0 := take_lt s 1
  have HV0 := Lib.hid (show numM (takeM s (1 : Nat)).1 = numM (takeM s 1).1 from rfl)
  obtain ⟨v0, hv0⟩ : ∃ x, numM (takeM s (1 : Nat)).1 = x := ⟨_, rfl⟩
  rw [hv0] at hlt0 HV0 ⊢
  have HV0 := Lib.hid hv0
  clear hv0
  dsimp only
  go_wp2_with (fail)
  refine (tk_yes g gc A n c (st1 s) 8 (by decide) _ HC.out HB.out HN.out).mono ?_
  rintro e w2 ⟨rfl, hc, hk⟩
  have HC := Lib.hid (show Cutr w2 g A n c (st2 s) from hc)
  have HB := Lib.hid (HB.out.kept hk (fun hf => absurd hf (by have := Hgg.out; unfold One; omega)))
  have HR := Lib.hid (HR.out.kept hk (fun hf => absurd hf (by have := Hgg.out; unfold One; omega)))
  have HK := Lib.hid (HK.out.same hk)
  clear hc hk
  have hlt1 := take_lt (st1 s) 8
  have HV1 := Lib.hid (show numM (takeM (st1 s) (8 : Nat)).1 = numM (takeM (st1 s) 8).1 from rfl)
  obtain ⟨v1, hv1⟩ : ∃ x, numM (takeM (st1 s) (8 : Nat)).1 = x := ⟨_, rfl⟩
  rw [hv1] at hlt1 HV1 ⊢
  have HV1 := Lib.hid hv1
  clear hv1
  dsimp only
  go_wp2_with (fail)
  refine (tk_yes g gc A n c (st2 s) 4 (by decide) _ HC.out HB.out HN.out).mono ?_
  rintro e w3 ⟨rfl, hc, hk⟩
  have HC := Lib.hid (show Cutr w3 g A n c (st3 s) from hc)
  have HB := Lib.hid (HB.out.kept hk (fun hf => absurd hf (by have := Hgg.out; unfold One; omega)))
  have HR := Lib.hid (HR.out.kept hk (fun hf => absurd hf (by have := Hgg.out; unfold One; omega)))
  have HK := Lib.hid (HK.out.same hk)
  clear hc hk
  have hlt2 := take_lt (st2 s) 4
  have HV2 := Lib.hid (show numM (takeM (st2 s) (4 : Nat)).1 = numM (takeM (st2 s) 4).1 from rfl)
  obtain ⟨v2, hv2⟩ : ∃ x, numM (takeM (st2 s) (4 : Nat)).1 = x := ⟨_, rfl⟩
  rw [hv2] at hlt2 HV2 ⊢
  have HV2 := Lib.hid hv2
  clear hv2
  dsimp only
  go_wp2_with (fail)
  refine (tk_yes g gc A n c (st3 s) 8 (by decide) _ HC.out HB.out HN.out).mono ?_
  rintro e w4 ⟨rfl, hc, hk⟩
  have HC := Lib.hid (show Cutr w4 g A n c (st4 s) from hc)
  have HB := Lib.hid (HB.out.kept hk (fun hf => absurd hf (by have := Hgg.out; unfold One; omega)))
  have HR := Lib.hid (HR.out.kept hk (fun hf => absurd hf (by have := Hgg.out; unfold One; omega)))
  have HK := Lib.hid (HK.out.same hk)
  clear hc hk
  have hlt3 := take_lt (st3 s) 8
  have HV3 := Lib.hid (show numM (takeM (st3 s) (8 : Nat)).1 = numM (takeM (st3 s) 8).1 from rfl)
  obtain ⟨v3, hv3⟩ : ∃ x, numM (takeM (st3 s) (8 : Nat)).1 = x := ⟨_, rfl⟩
  rw [hv3] at hlt3 HV3 ⊢
  have HV3 := Lib.hid hv3
  clear hv3
  dsimp only
  go_wp2_with (fail)
  refine (tk_yes g gc A n c (st4 s) 2 (by decide) _ HC.out HB.out HN.out).mono ?_
  rintro e w5 ⟨rfl, hc, hk⟩
  have HC := Lib.hid (show Cutr w5 g A n c (st5 s) from hc)
  have HB := Lib.hid (HB.out.kept hk (fun hf => absurd hf (by have := Hgg.out; unfold One; omega)))
  have HR := Lib.hid (HR.out.kept hk (fun hf => absurd hf (by have := Hgg.out; unfold One; omega)))
  have HK := Lib.hid (HK.out.same hk)
  clear hc hk
  have hlt4 := take_lt (st4 s) 2
  have HV4 := Lib.hid (show numM (takeM (st4 s) (2 : Nat)).1 = numM (takeM (st4 s) 2).1 from rfl)
  obtain ⟨v4, hv4⟩ : ∃ x, numM (takeM (st4 s) (2 : Nat)).1 = x := ⟨_, rfl⟩
  rw [hv4] at hlt4 HV4 ⊢
  have HV4 := Lib.hid hv4
  clear hv4
  dsimp only
  go_wp2_with (fail)
  refine (tk_yes g gc A n c (st5 s) 2 (by decide) _ HC.out HB.out HN.out).mono ?_
  rintro e w6 ⟨rfl, hc, hk⟩
  have HC := Lib.hid (show Cutr w6 g A n c (st6 s) from hc)
  have HB := Lib.hid (HB.out.kept hk (fun hf => absurd hf (by have := Hgg.out; unfold One; omega)))
  have HR := Lib.hid (HR.out.kept hk (fun hf => absurd hf (by have := Hgg.out; unfold One; omega)))
  have HK := Lib.hid (HK.out.same hk)
  clear hc hk
  have hlt5 := take_lt (st5 s) 2
  have HV5 := Lib.hid (show numM (takeM (st5 s) (2 : Nat)).1 = numM (takeM (st5 s) 2).1 from rfl)
  obtain ⟨v5, hv5⟩ : ∃ x, numM (takeM (st5 s) (2 : Nat)).1 = x := ⟨_, rfl⟩
  rw [hv5] at hlt5 HV5 ⊢
  have HV5 := Lib.hid hv5
  clear hv5
  dsimp only
  go_wp2_with (fail)
  refine (tk_yes g gc A n c (st6 s) 2 (by decide) _ HC.out HB.out HN.out).mono ?_
  rintro e w7 ⟨rfl, hc, hk⟩
  have HC := Lib.hid (show Cutr w7 g A n c (st7 s) from hc)
  have HB := Lib.hid (HB.out.kept hk (fun hf => absurd hf (by have := Hgg.out; unfold One; omega)))
  have HR := Lib.hid (HR.out.kept hk (fun hf => absurd hf (by have := Hgg.out; unfold One; omega)))
  have HK := Lib.hid (HK.out.same hk)
  clear hc hk
  have hlt6 := take_lt (st6 s) 2
  have HV6 := Lib.hid (show numM (takeM (st6 s) (2 : Nat)).1 = numM (takeM (st6 s) 2).1 from rfl)
  obtain ⟨v6, hv6⟩ : ∃ x, numM (takeM (st6 s) (2 : Nat)).1 = x := ⟨_, rfl⟩
  rw [hv6] at hlt6 HV6 ⊢
  have HV6 := Lib.hid hv6
  clear hv6
  dsimp only
  go_wp2_with (fail)
  refine (tk_yes g gc A n c (st7 s) 2 (by decide) _ HC.out HB.out HN.out).mono ?_
  rintro e w8 ⟨rfl, hc, hk⟩
  have HC := Lib.hid (show Cutr w8 g A n c (st8 s) from hc)
  have HB := Lib.hid (HB.out.kept hk (fun hf => absurd hf (by have := Hgg.out; unfold One; omega)))
  have HR := Lib.hid (HR.out.kept hk (fun hf => absurd hf (by have := Hgg.out; unfold One; omega)))
  have HK := Lib.hid (HK.out.same hk)
  clear hc hk
  have hlt7 := take_lt (st7 s) 2
  have HV7 := Lib.hid (show numM (takeM (st7 s) (2 : Nat)).1 = numM (takeM (st7 s) 2).1 from rfl)
  obtain ⟨v7, hv7⟩ : ∃ x, numM (takeM (st7 s) (2 : Nat)).1 = x := ⟨_, rfl⟩
  rw [hv7] at hlt7 HV7 ⊢
  have HV7 := Lib.hid hv7
  clear hv7
  dsimp only
  go_wp2_with (fail)
  refine (tk_yes g gc A n c (st8 s) 2 (by decide) _ HC.out HB.out HN.out).mono ?_
  rintro e w9 ⟨rfl, hc, hk⟩
  have HC := Lib.hid (show Cutr w9 g A n c (st9 s) from hc)
  have HB := Lib.hid (HB.out.kept hk (fun hf => absurd hf (by have := Hgg.out; unfold One; omega)))
  have HR := Lib.hid (HR.out.kept hk (fun hf => absurd hf (by have := Hgg.out; unfold One; omega)))
  have HK := Lib.hid (HK.out.same hk)
  clear hc hk
  have hlt8 := take_lt (st8 s) 2
  have HV8 := Lib.hid (show numM (takeM (st8 s) (2 : Nat)).1 = numM (takeM (st8 s) 2).1 from rfl)
  obtain ⟨v8, hv8⟩ : ∃ x, numM (takeM (st8 s) (2 : Nat)).1 = x := ⟨_, rfl⟩
  rw [hv8] at hlt8 HV8 ⊢
  have HV8 := Lib.hid hv8
  clear hv8
  dsimp only
  go_wp2_with (first
    | (refine wpList_st rfl 52 (.tmp 4) _ rfl _ 0 rfl (bpl ⟨k, v0, v1, v3, v2, v4, v5, v6, v7, v8⟩) _ rfl rfl (infBp _) 52 (bpl Bp.zero) HR.out (by show 0 + 10 ≤ 10; decide) (bpl_one _) ?_; intro w10 hb10 hk10 hz10; simp only [Act.put, List.setIfInBounds_toArray, List.set_cons_succ, List.set_cons_zero])
    | fail)
  have h2 := BPB.of_all (m := Bp.zero) (m' := ⟨k, v0, v1, v3, v2, v4, v5, v6, v7, v8⟩) hb10
  have hgw : w.heap.size ≤ gc := by have := HGC.out; omega
  refine bodyPost_ret (res_cell0 Try.results43 rfl h2.all Try.underlying52 rfl (infBp _)) rfl ⟨?_, ?_, ?_⟩
  · show Ending.returned (bpv ⟨k, v0, v1, v3, v2, v4, v5, v6, v7, v8⟩) = _
    rw [← HV0.out, ← HV1.out, ← HV2.out, ← HV3.out, ← HV4.out, ← HV5.out, ← HV6.out, ← HV7.out, ← HV8.out]
    rfl
  · have hgg := Hgg.out
    have hcl := HC.out.blo.lt
    refine HC.out.kept hk10 (fun hf => absurd hf (by unfold One; omega)) (fun i hi hf => ?_)
    have : i = gc + 1 := hf
    subst this
    exact HNA.out _ hi rfl
  · exact HK.out.fresh hk10 (fun i hi => by cases hi; omega)
end Go.Proofs.Ythjfeanmgaidcaa
