/- Texts that belong together, one behind the other: CutB, CutC. Conditions: those of each. -/
import Derived.Test.YthjfeanmgaidcaaMg7
import Derived.Test.YthjfeanmgaidcaaMg4
import Derived.Laws.CopyOwn
import Derived.Deep.RegionLaw
import Derived.RegionTactic
/- Contracts of package cut's cutter, second part: take, Take, Skip, Rest, the numbers, New, and the library's Clone. -/
namespace Go.Proofs.Ythjfeanmgaidcaa
open Go.RowKit
set_option linter.unusedVariables false

theorem take_yes (g : Nat) (A : Option Addr) (n c : Nat) (s : Cst) (x : Int) (w : World) (h : Cutr w g A n c s) (hx : x ≤ 9223372036854775807) :
    Calls Try.prog 80 #[.pointer (some ⟨g, 0, none⟩), .int .i64 x] w fun e w' =>
      ∃ A' m c', e = .returned (.slice A' m c') ∧ Byt w' A' m c' (takeM s x).1 ∧ Cutr w' g A n c (takeM s x).2 ∧ Kept (One g) w w' ∧ ∀ i, Lies A' m i → Lies A n i := by
  have hle := h.le
  have hn : n ≤ 9223372036854775807 := Nat.le_trans h.byt.2.1 h.byt.2.2.1
  have hlen := h.len
  by_cases he : s.er = 0
  · by_cases h1 : x < 0
    · have ht : takeM s x = ([], failM s 1) := by unfold takeM failM; simp [he, h1]
      have hf2 : (failM s 1).er = 1 := by unfold failM; simp [he]
      rw [ht]
      have Hf2 := Lib.hid hf2
      clear hf2 ht hlen he
      go_enter Try.func80, Try.ntmps80
      go_wp2_with fail
      refine (fail_yes g A n c s 1 _ h).mono ?_
      rintro e w1 ⟨rfl, h', k1⟩
      have h0 := h'.c0
      have h3 := h'.c3
      rw [Hf2.out] at h3
      clear h
      go_wp2_with (go_at_call 33; refine (err_yes g _ _ h0 h3).mono ?_; rintro e w' ⟨rfl, rfl⟩)
      go_ret
      exact ⟨_, _, _, rfl, Byt.none _, h', k1, fun i hi => absurd hi.1 (by omega)⟩
    · by_cases h2 : (n : Int) - s.k < x
      · have ht : takeM s x = ([], failM s 4) := by unfold takeM failM; simp [he, h1, hlen]; omega
        have hl : leftM s = (n : Int) - s.k := by unfold leftM; simp [he, hlen]
        have hf2 : (failM s 4).er = 4 := by unfold failM; simp [he]
        rw [ht]
        have Hf2 := Lib.hid hf2
        have Hl := Lib.hid hl
        clear hf2 ht hlen he hl
        go_enter Try.func80, Try.ntmps80
        go_wp2_with fail
        refine (left_yes g A n c s _ h).mono ?_
        rintro e w1 ⟨rfl, q, rfl⟩
        rw [Hl.out]
        go_wp2_with fail
        refine (fail_yes g A n c s 4 _ (h.drewN q)).mono ?_
        rintro e w2 ⟨rfl, h', k1⟩
        have h0 := h'.c0
        have h3 := h'.c3
        rw [Hf2.out] at h3
        have K1 := Lib.hid ((Kept.refl (One g) w).drewN q |>.same k1)
        clear h k1
        go_wp2_with (go_at_call 33; refine (err_yes g _ _ h0 h3).mono ?_; rintro e w' ⟨rfl, rfl⟩)
        go_ret
        exact ⟨_, _, _, rfl, Byt.none _, h', K1.out, fun i hi => absurd hi.1 (by omega)⟩
      · obtain ⟨m, rfl⟩ := Int.eq_ofNat_of_zero_le (show 0 ≤ x by omega)
        have ht : takeM s m = ((s.l.take (s.k + m)).drop s.k, { s with k := s.k + m }) := by
          unfold takeM
          rw [if_neg (by simp [he]), if_neg (by omega), if_neg (by rw [hlen]; omega)]
          simp
        have hl : leftM s = (n : Int) - s.k := by unfold leftM; simp [he, hlen]
        rw [ht]
        have hb := h.byt.cut (lo := s.k) (hi := s.k + m) (by omega) (by omega)
        have Hl := Lib.hid hl
        have h0 := h.c0
        have h1 := h.c1
        have h2' := h.c2
        have h3 := h.c3
        have hfz := h.blo.frozen 2
        rw [he] at h3
        have hcc : n ≤ c := h.byt.2.1
        have hset := h.setAt (s.k + m) (by omega) ((s.k : Int) + m) (by omega)
        have hb2 := hb.kept (Kept.one w g 2 none (.int .i64 ((s.k : Int) + m))) (fun i hi hi' => h.apart i ⟨by have := hi.1; omega, (Lies.cut i hi).2⟩ hi')
        have hli : ∀ i, Lies (cutA A c s.k) (s.k + m - s.k) i → Lies A n i := fun i hi => ⟨by have := hi.1; omega, (Lies.cut i hi).2⟩
        rw [show s.k + m - s.k = m from by omega] at hb2 hli
        have Hset := Lib.hid hset
        have Hb2 := Lib.hid hb2
        have Hli := Lib.hid hli
        clear hset hb2 hb hli ht hlen he hl
        go_enter Try.func80, Try.ntmps80
        go_wp2_with fail
        refine (left_yes g A n c s _ h).mono ?_
        rintro e w1 ⟨rfl, q, rfl⟩
        rw [Hl.out]
        clear h
        go_wp2_with (go_at_call 33; refine (err_yes g _ _ (by exact h0) (by exact h3)).mono ?_; rintro e w' ⟨rfl, rfl⟩)
        have hsl := run_cut (P := Try.prog) Try.underlying31 inf5.1 inf5.2 A n c s.k (s.k + m) (s.k : Int) ((s.k : Int) + m) rfl (by omega) (by omega) (by omega)
        go_quiet (fail)
        go_wp2
        go_ret
        exact ⟨_, _, _, rfl, Hb2.out.heap rfl, Hset.out.heap rfl, (((Kept.refl (One g) w).drewN q).put rfl _).drewN nq, Hli.out⟩
  · have ht : takeM s x = ([], s) := by unfold takeM; simp [he]
    have hf1 : failM s 1 = s := by unfold failM; simp [he]
    have hf4 : failM s 4 = s := by unfold failM; simp [he]
    have hl : leftM s = 0 := by unfold leftM; simp [he]
    have hb : (s.er != 0) = true := by simp [he]
    rw [ht]
    have H1 := Lib.hid hf1
    have H4 := Lib.hid hf4
    have Hl := Lib.hid hl
    have He := Lib.hid he
    clear ht hf1 hf4 hl hlen he
    by_cases h1 : x < 0
    · go_enter Try.func80, Try.ntmps80
      go_wp2_with fail
      refine (fail_yes g A n c s 1 _ h).mono ?_
      rintro e w1 ⟨rfl, h', k1⟩
      rw [H1.out] at h'
      have h0 := h'.c0
      have h3 := h'.c3
      clear h
      go_wp2_with (go_at_call 33; refine (err_yes g _ _ h0 h3).mono ?_; rintro e w' ⟨rfl, rfl⟩)
      go_ret
      exact ⟨_, _, _, rfl, Byt.none _, h', k1, fun i hi => absurd hi.1 (by omega)⟩
    · by_cases h2 : (0 : Int) < x
      · go_enter Try.func80, Try.ntmps80
        go_wp2_with fail
        refine (left_yes g A n c s _ h).mono ?_
        rintro e w1 ⟨rfl, q, rfl⟩
        rw [Hl.out]
        go_wp2_with fail
        refine (fail_yes g A n c s 4 _ (h.drewN q)).mono ?_
        rintro e w2 ⟨rfl, h', k1⟩
        rw [H4.out] at h'
        have h0 := h'.c0
        have h3 := h'.c3
        have K1 := Lib.hid ((Kept.refl (One g) w).drewN q |>.same k1)
        clear h k1
        go_wp2_with (go_at_call 33; refine (err_yes g _ _ h0 h3).mono ?_; rintro e w' ⟨rfl, rfl⟩)
        go_ret
        exact ⟨_, _, _, rfl, Byt.none _, h', K1.out, fun i hi => absurd hi.1 (by omega)⟩
      · have h0 := h.c0
        have h3 := h.c3
        go_enter Try.func80, Try.ntmps80
        go_wp2_with fail
        refine (left_yes g A n c s _ h).mono ?_
        rintro e w1 ⟨rfl, q, rfl⟩
        rw [Hl.out]
        go_wp2_with (go_at_call 33; refine (err_yes g _ _ (by exact h0) (by exact h3)).mono ?_; rintro e w' ⟨rfl, rfl⟩)
        go_ret
        exact ⟨_, _, _, rfl, Byt.none _, h.drewN q, (Kept.refl (One g) w).drewN q, fun i hi => absurd hi.1 (by omega)⟩

theorem new_yes (A : Option Addr) (n c : Nat) (l : List UInt8) (w : World) (h : Byt w A n c l) (hn : n ≤ 140737488355328) :
    Calls Try.prog 29 #[.slice A n c] w fun e w' =>
      ∃ g A' c', e = .returned (.pointer (some ⟨g, 0, none⟩)) ∧ Cutr w' g A' n c' ⟨l, 0, 0⟩ ∧ Kept Nil w w' ∧ w.heap.size ≤ g ∧ ∀ i, Lies A' n i → w.heap.size ≤ i := by
  have Hl := Lib.hid h.1
  go_enter Try.func29, Try.ntmps29
  go_wp2_with fail
  refine (sclone A n c l _ h hn).mono ?_
  rintro e w1 ⟨v, rfl, hm⟩
  obtain ⟨A', c', hv, hb, hi⟩ := Byt.of_own hm.1
  subst hv
  have Hm := Lib.hid hm.2
  have Hb := Lib.hid hb
  have Hi := Lib.hid hi
  clear h hm hb hi
  go_wp2
  go_ret
  rw [Hl.out] at Hb Hi ⊢
  have hB := Blo.new w1 112 #[.bool true, .slice A' n c', .int .i64 0, .int .i64 0]
  refine ⟨_, A', c', rfl, ⟨hB, Hb.out.kept ((Kept.refl Nil w1).alloc _) (fun _ _ hf => hf), Nat.zero_le _, fun i hi => ?_⟩, Hm.out.alloc _, Hm.out.size, Hi.out⟩
  exact Nat.ne_of_lt (Hb.out.lt i hi)

/-- What is taken is no longer than what there is. -/
theorem takeM_len (s : Cst) (x : Int) : (takeM s x).1.length ≤ s.l.length := by
  unfold takeM
  split <;> try simp
  split <;> try simp
  split <;> try simp
  omega

theorem Take_yes (g : Nat) (A : Option Addr) (n c : Nat) (s : Cst) (x : Int) (w : World) (h : Cutr w g A n c s) (hx : x ≤ 9223372036854775807) (hn : n ≤ 140737488355328) :
    Calls Try.prog 62 #[.pointer (some ⟨g, 0, none⟩), .int .i64 x] w fun e w' =>
      ∃ v, e = .returned v ∧ w'.ownsRow w.heap.size 5 1 v (takeM s x).1.length (bys (takeM s x).1) ∧ Cutr w' g A n c (takeM s x).2 ∧ Kept (One g) w w' := by
  have hlen := h.len
  have htl := takeM_len s x
  have HT := Lib.hid htl
  have HL := Lib.hid hlen
  clear hlen htl
  go_enter Try.func62, Try.ntmps62
  go_wp2_with fail
  refine (take_yes g A n c s x _ h hx).mono ?_
  rintro e w1 ⟨A', m, c', rfl, hb, hc, hk, hl⟩
  have Hc := Lib.hid hc
  have Hk := Lib.hid hk
  have Hl := Lib.hid hl
  clear hc hk hl h
  go_wp2_with fail
  refine (sclone A' m c' _ _ hb (by have := HT.out; have := HL.out; have := hb.1; omega)).mono ?_
  rintro e w2 ⟨v, rfl, hm⟩
  have Hm := Lib.hid hm
  clear hm hb
  go_wp2
  go_ret
  exact ⟨v, rfl, own_mono Hm.out.1 Hk.out.size, Hc.out.kept Hm.out.2 (fun hf => hf) (fun _ _ hf => hf), Hk.out.then Hm.out.2⟩

theorem Rest_yes (g : Nat) (A : Option Addr) (n c : Nat) (s : Cst) (w : World) (h : Cutr w g A n c s) (hn : n ≤ 140737488355328) :
    Calls Try.prog 32 #[.pointer (some ⟨g, 0, none⟩)] w fun e w' =>
      ∃ v, e = .returned v ∧ w'.ownsRow w.heap.size 5 1 v (takeM s (leftM s)).1.length (bys (takeM s (leftM s)).1) ∧ Cutr w' g A n c (takeM s (leftM s)).2 ∧ Kept (One g) w w' := by
  have hx : leftM s ≤ 9223372036854775807 := by
    have := h.len
    unfold leftM
    split <;> omega
  go_enter Try.func32, Try.ntmps32
  go_wp2_with fail
  refine (left_yes g A n c s _ h).mono ?_
  rintro e w1 ⟨rfl, q, rfl⟩
  go_wp2_with fail
  refine (Take_yes g A n c s (leftM s) _ (h.drewN q) hx hn).mono ?_
  rintro e w2 ⟨v, rfl, ho, hc, hk⟩
  have Ho := Lib.hid ho
  have Hc := Lib.hid hc
  have Hk := Lib.hid hk
  clear ho hc hk h
  go_wp2
  go_ret
  exact ⟨v, rfl, Ho.out, Hc.out, ((Kept.refl (One g) w).drewN q).same Hk.out⟩
end Go.Proofs.Ythjfeanmgaidcaa
/- Contracts of package cut's cutter, third part: numbers and addresses. -/
namespace Go.Proofs.Ythjfeanmgaidcaa
open Go.RowKit
set_option linter.unusedVariables false

theorem join_u64 (a : Nat) (b : UInt8) (ha : a < 281474976710656) : bits .or .u64 (IntKind.u64.wrap ((a : Int) * 256)) (IntKind.u64.wrap (b.toNat : Int)) = ((a * 256 + b.toNat : Nat) : Int) := by
  have hb := b.toNat_lt
  rw [IntWalk.u64_in _ (by omega), IntWalk.u64_in (b.toNat : Int) (by omega)]
  have e : ((a : Int) * 256) = ((a * 256 : Nat) : Int) := by omega
  rw [e, u64_or_nat _ _ (by omega) (by omega), nat_join 8 _ _ (by omega) (by omega)]
theorem take_snoc' (l : List UInt8) (k : Nat) (h : k < l.length) : l.take (k + 1) = l.take k ++ [l[k]] := by
  rw [List.take_succ_eq_append_getElem h]
theorem takeM_len2 (s : Cst) (x : Int) : (takeM s x).1.length ≤ x.toNat := by
  unfold takeM
  split <;> try simp
  split <;> try simp
  split <;> try simp
  omega

theorem num8 (g : Nat) (A : Option Addr) (n c : Nat) (s : Cst) (w : World) (h : Cutr w g A n c s) :
    Calls Try.prog 68 #[.pointer (some ⟨g, 0, none⟩), .int .i64 1] w fun e w' =>
      e = .returned (.int .u8 (numM (takeM s 1).1 : Int)) ∧ Cutr w' g A n c (takeM s 1).2 ∧ Kept (One g) w w' := by
  have hlen := takeM_len2 s 1
  go_enter Try.func68, Try.ntmps68
  go_wp2_with fail
  refine (take_yes g A n c s 1 _ h (by omega)).mono ?_
  rintro e w1 ⟨A', m, c', rfl, hb, hc, hk, hl⟩
  have Hc := Lib.hid hc
  have Hk := Lib.hid hk
  clear hc hk hl h
  generalize hG : (takeM s 1).1 = l at *
  have HG := Lib.hid hG
  clear hG
  have hm0 : m ≤ 1 := by have := hb.1; have : (((1 : Int)).toNat) = 1 := rfl; omega
  have hm : m ≤ c' := hb.2.1
  have hm' : c' ≤ 9223372036854775807 := hb.2.2.1
  have Hb := Lib.hid hb
  have HL := Lib.hid hlen
  clear hb hlen
  go_wp2
  go_loop [5, 12] (fun t i => ∃ k : Nat, k ≤ m ∧ i = .int .i64 k ∧ t = .int .u64 (numM (l.take k) : Int)) (fun _ i => m - (intOf i).toNat)
  case atStart => exact ⟨0, Nat.zero_le _, rfl, rfl⟩
  case round =>
    obtain ⟨k, hk, rfl, rfl⟩ := hrel
    by_cases hlt : k < m
    · have hkl : k < l.length := by rw [Hb.out.1]; exact hlt
      obtain ⟨b, o, rfl, hcell⟩ := Hb.out.at (i := k) hkl
      have hlt2 : numM (l.take k) < 281474976710656 := by
        have h1 := numM_lt (l.take k)
        have h2 : (256 : Nat) ^ (l.take k).length ≤ 256 ^ 4 := Nat.pow_le_pow_right (by omega) (by simp; omega)
        omega
      have HJ := Lib.hid (join_u64 (numM (l.take k)) l[k] hlt2)
      have HS := Lib.hid (numM_snoc (l.take k) l[k])
      have HT := Lib.hid (take_snoc' l k hkl)
      clear hlt2
      go_wp2
      go_round
      case rel => exact ⟨k + 1, by omega, by go_num, by rw [HJ.out, HT.out, HS.out]⟩
      case measure => simp [intOf]; omega
    · have hkm : k = m := by omega
      have ht : l.take k = l := by rw [List.take_of_length_le]; rw [Hb.out.1]; omega
      have hbd : numM l ≤ 255 := by
        have h1 := numM_lt l
        have h2 : (256 : Nat) ^ l.length ≤ 256 ^ 1 := Nat.pow_le_pow_right (by omega) (by rw [Hb.out.1]; exact hm0)
        have h3 : (256 : Nat) ^ 1 = 255 + 1 := by decide
        omega
      have HC := Lib.hid (IntWalk.u8_in (numM l : Int) (by omega))
      have HT := Lib.hid ht
      have HB := Lib.hid hbd
      clear ht hkm hbd
      go_wp2
      go_ret
      refine ⟨?_, Hc.out, Hk.out⟩
      rw [HT.out]
      refine congrArg (fun z => Ending.returned (.int .u8 z)) ?_
      rw [HG.out]
      have hbd := HB.out
      first | exact HC.out | omega
theorem num16 (g : Nat) (A : Option Addr) (n c : Nat) (s : Cst) (w : World) (h : Cutr w g A n c s) :
    Calls Try.prog 79 #[.pointer (some ⟨g, 0, none⟩), .int .i64 2] w fun e w' =>
      e = .returned (.int .u16 (numM (takeM s 2).1 : Int)) ∧ Cutr w' g A n c (takeM s 2).2 ∧ Kept (One g) w w' := by
  have hlen := takeM_len2 s 2
  go_enter Try.func79, Try.ntmps79
  go_wp2_with fail
  refine (take_yes g A n c s 2 _ h (by omega)).mono ?_
  rintro e w1 ⟨A', m, c', rfl, hb, hc, hk, hl⟩
  have Hc := Lib.hid hc
  have Hk := Lib.hid hk
  clear hc hk hl h
  generalize hG : (takeM s 2).1 = l at *
  have HG := Lib.hid hG
  clear hG
  have hm0 : m ≤ 2 := by have := hb.1; have : (((2 : Int)).toNat) = 2 := rfl; omega
  have hm : m ≤ c' := hb.2.1
  have hm' : c' ≤ 9223372036854775807 := hb.2.2.1
  have Hb := Lib.hid hb
  have HL := Lib.hid hlen
  clear hb hlen
  go_wp2
  go_loop [5, 12] (fun t i => ∃ k : Nat, k ≤ m ∧ i = .int .i64 k ∧ t = .int .u64 (numM (l.take k) : Int)) (fun _ i => m - (intOf i).toNat)
  case atStart => exact ⟨0, Nat.zero_le _, rfl, rfl⟩
  case round =>
    obtain ⟨k, hk, rfl, rfl⟩ := hrel
    by_cases hlt : k < m
    · have hkl : k < l.length := by rw [Hb.out.1]; exact hlt
      obtain ⟨b, o, rfl, hcell⟩ := Hb.out.at (i := k) hkl
      have hlt2 : numM (l.take k) < 281474976710656 := by
        have h1 := numM_lt (l.take k)
        have h2 : (256 : Nat) ^ (l.take k).length ≤ 256 ^ 4 := Nat.pow_le_pow_right (by omega) (by simp; omega)
        omega
      have HJ := Lib.hid (join_u64 (numM (l.take k)) l[k] hlt2)
      have HS := Lib.hid (numM_snoc (l.take k) l[k])
      have HT := Lib.hid (take_snoc' l k hkl)
      clear hlt2
      go_wp2
      go_round
      case rel => exact ⟨k + 1, by omega, by go_num, by rw [HJ.out, HT.out, HS.out]⟩
      case measure => simp [intOf]; omega
    · have hkm : k = m := by omega
      have ht : l.take k = l := by rw [List.take_of_length_le]; rw [Hb.out.1]; omega
      have hbd : numM l ≤ 65535 := by
        have h1 := numM_lt l
        have h2 : (256 : Nat) ^ l.length ≤ 256 ^ 2 := Nat.pow_le_pow_right (by omega) (by rw [Hb.out.1]; exact hm0)
        have h3 : (256 : Nat) ^ 2 = 65535 + 1 := by decide
        omega
      have HC := Lib.hid (IntWalk.u16_in (numM l : Int) (by omega))
      have HT := Lib.hid ht
      have HB := Lib.hid hbd
      clear ht hkm hbd
      go_wp2
      go_ret
      refine ⟨?_, Hc.out, Hk.out⟩
      rw [HT.out]
      refine congrArg (fun z => Ending.returned (.int .u16 z)) ?_
      rw [HG.out]
      have hbd := HB.out
      first | exact HC.out | omega
theorem num32 (g : Nat) (A : Option Addr) (n c : Nat) (s : Cst) (w : World) (h : Cutr w g A n c s) :
    Calls Try.prog 78 #[.pointer (some ⟨g, 0, none⟩), .int .i64 4] w fun e w' =>
      e = .returned (.int .u32 (numM (takeM s 4).1 : Int)) ∧ Cutr w' g A n c (takeM s 4).2 ∧ Kept (One g) w w' := by
  have hlen := takeM_len2 s 4
  go_enter Try.func78, Try.ntmps78
  go_wp2_with fail
  refine (take_yes g A n c s 4 _ h (by omega)).mono ?_
  rintro e w1 ⟨A', m, c', rfl, hb, hc, hk, hl⟩
  have Hc := Lib.hid hc
  have Hk := Lib.hid hk
  clear hc hk hl h
  generalize hG : (takeM s 4).1 = l at *
  have HG := Lib.hid hG
  clear hG
  have hm0 : m ≤ 4 := by have := hb.1; have : (((4 : Int)).toNat) = 4 := rfl; omega
  have hm : m ≤ c' := hb.2.1
  have hm' : c' ≤ 9223372036854775807 := hb.2.2.1
  have Hb := Lib.hid hb
  have HL := Lib.hid hlen
  clear hb hlen
  go_wp2
  go_loop [5, 12] (fun t i => ∃ k : Nat, k ≤ m ∧ i = .int .i64 k ∧ t = .int .u64 (numM (l.take k) : Int)) (fun _ i => m - (intOf i).toNat)
  case atStart => exact ⟨0, Nat.zero_le _, rfl, rfl⟩
  case round =>
    obtain ⟨k, hk, rfl, rfl⟩ := hrel
    by_cases hlt : k < m
    · have hkl : k < l.length := by rw [Hb.out.1]; exact hlt
      obtain ⟨b, o, rfl, hcell⟩ := Hb.out.at (i := k) hkl
      have hlt2 : numM (l.take k) < 281474976710656 := by
        have h1 := numM_lt (l.take k)
        have h2 : (256 : Nat) ^ (l.take k).length ≤ 256 ^ 4 := Nat.pow_le_pow_right (by omega) (by simp; omega)
        omega
      have HJ := Lib.hid (join_u64 (numM (l.take k)) l[k] hlt2)
      have HS := Lib.hid (numM_snoc (l.take k) l[k])
      have HT := Lib.hid (take_snoc' l k hkl)
      clear hlt2
      go_wp2
      go_round
      case rel => exact ⟨k + 1, by omega, by go_num, by rw [HJ.out, HT.out, HS.out]⟩
      case measure => simp [intOf]; omega
    · have hkm : k = m := by omega
      have ht : l.take k = l := by rw [List.take_of_length_le]; rw [Hb.out.1]; omega
      have hbd : numM l ≤ 4294967295 := by
        have h1 := numM_lt l
        have h2 : (256 : Nat) ^ l.length ≤ 256 ^ 4 := Nat.pow_le_pow_right (by omega) (by rw [Hb.out.1]; exact hm0)
        have h3 : (256 : Nat) ^ 4 = 4294967295 + 1 := by decide
        omega
      have HC := Lib.hid (IntWalk.u32_in (numM l : Int) (by omega))
      have HT := Lib.hid ht
      have HB := Lib.hid hbd
      clear ht hkm hbd
      go_wp2
      go_ret
      refine ⟨?_, Hc.out, Hk.out⟩
      rw [HT.out]
      refine congrArg (fun z => Ending.returned (.int .u32 z)) ?_
      rw [HG.out]
      have hbd := HB.out
      first | exact HC.out | omega
theorem Byte_yes (g : Nat) (A : Option Addr) (n c : Nat) (s : Cst) (w : World) (h : Cutr w g A n c s) :
    Calls Try.prog 44 #[.pointer (some ⟨g, 0, none⟩)] w fun e w' =>
      e = .returned (.int .u8 (numM (takeM s 1).1 : Int)) ∧ Cutr w' g A n c (takeM s 1).2 ∧ Kept (One g) w w' := by
  go_enter Try.func44, Try.ntmps44
  go_wp2_with fail
  refine (num8 g A n c s _ h).mono ?_
  rintro e w1 ⟨rfl, hc, hk⟩
  have Hc := Lib.hid hc
  have Hk := Lib.hid hk
  clear hc hk h
  go_wp2
  go_ret
  exact ⟨rfl, Hc.out, Hk.out⟩
theorem Two_yes (g : Nat) (A : Option Addr) (n c : Nat) (s : Cst) (w : World) (h : Cutr w g A n c s) :
    Calls Try.prog 60 #[.pointer (some ⟨g, 0, none⟩)] w fun e w' =>
      e = .returned (.int .u16 (numM (takeM s 2).1 : Int)) ∧ Cutr w' g A n c (takeM s 2).2 ∧ Kept (One g) w w' := by
  go_enter Try.func60, Try.ntmps60
  go_wp2_with fail
  refine (num16 g A n c s _ h).mono ?_
  rintro e w1 ⟨rfl, hc, hk⟩
  have Hc := Lib.hid hc
  have Hk := Lib.hid hk
  clear hc hk h
  go_wp2
  go_ret
  exact ⟨rfl, Hc.out, Hk.out⟩
theorem Four_yes (g : Nat) (A : Option Addr) (n c : Nat) (s : Cst) (w : World) (h : Cutr w g A n c s) :
    Calls Try.prog 59 #[.pointer (some ⟨g, 0, none⟩)] w fun e w' =>
      e = .returned (.int .u32 (numM (takeM s 4).1 : Int)) ∧ Cutr w' g A n c (takeM s 4).2 ∧ Kept (One g) w w' := by
  go_enter Try.func59, Try.ntmps59
  go_wp2_with fail
  refine (num32 g A n c s _ h).mono ?_
  rintro e w1 ⟨rfl, hc, hk⟩
  have Hc := Lib.hid hc
  have Hk := Lib.hid hk
  clear hc hk h
  go_wp2
  go_ret
  exact ⟨rfl, Hc.out, Hk.out⟩

/-- Six cells out of the bytes that were taken (all, or none). -/
def macM (l : List UInt8) : List UInt8 := l ++ List.replicate (6 - l.length) 0

theorem macM_len (l : List UInt8) (h : l.length ≤ 6) : (macM l).length = 6 := by simp [macM]; omega
theorem mac_splice (l : List UInt8) (_ : l.length ≤ 6) : splice (bys (List.replicate 6 0)) 0 (bys l) = bys (macM l) := by
  simp only [splice, macM, bys, List.map_append, List.map_replicate, List.take_zero, List.nil_append, List.length_map, Nat.zero_add, List.drop_replicate]
theorem sz5 : (Try.prog.info? 5).map (·.size) = some 1 := by kernel_rfl
theorem mac_aux (w : World) (g : Nat) (A : Option Addr) (n c : Nat) (s : Cst) (A' : Option Addr) (m c' : Nat) (w0 w1 : World) (hb : Byt w1 A' m c' (takeM s 6).1) (hc : Cutr w1 g A n c (takeM s 6).2)
    (hk : Kept (One g) w0 w1) (hw0 : ∃ q, w0 = ((w.alloc (.cells (bys (List.replicate 6 0)).toArray 26)).alloc (.cells (bys (List.replicate 6 0)).toArray 26)).drewN q) (hg : g < w.heap.size) :
    Hid (Blo w1 w.heap.size 26 (bys (List.replicate 6 0)).toArray) ∧ Hid (Blo w1 (w.heap.size + 1) 26 (bys (List.replicate 6 0)).toArray) ∧ Hid (Cutr w1 g A n c (takeM s 6).2) ∧ Hid (Kept (One g) w w1) ∧
    ∃ l, Hid ((takeM s 6).1 = l) ∧ Hid ((bys l).length = Nat.min m 6) ∧
      Hid (0 < (bys l).length → some (⟨w.heap.size + 1, 0, none⟩ : Addr) = some ⟨w.heap.size + 1, 0, none⟩ ∧ ∃ ad, A' = some ad ∧ ∀ j v, (bys l)[j]? = some v → w1.cell? (ad.add j) = some v) ∧
      Hid (0 + (bys l).length ≤ (bys (List.replicate 6 0)).length) := by
  obtain ⟨q, rfl⟩ := hw0
  have h6 : (takeM s 6).1.length ≤ 6 := takeM_len2 s 6
  refine ⟨?_, ?_, hc, ?_, (takeM s 6).1, rfl, ?_, ?_, ?_⟩
  · exact (((Blo.new w _ _).alloc _).heap (w' := World.drewN _ q) rfl).kept hk (by unfold One; omega)
  · have := ((Blo.new (w.alloc (.cells (bys (List.replicate 6 0)).toArray 26)) 26 (bys (List.replicate 6 0)).toArray).heap (w' := World.drewN _ q) rfl).kept hk (by unfold One; simp; omega)
    rw [World.size_alloc] at this
    exact this
  · exact ((((Kept.refl (One g) w).alloc _).alloc _).drewN q).same hk
  · show (bys (takeM s 6).1).length = Nat.min m 6
    rw [bys_len, hb.1]
    have := hb.1
    simp only [Nat.min_def]
    split <;> omega
  · show 0 < (bys (takeM s 6).1).length → _
    intro h0
    refine ⟨rfl, ?_⟩
    obtain ⟨b, o, rfl, _⟩ := hb.at (i := 0) (by rw [bys_len] at h0; exact h0)
    exact ⟨_, rfl, hb.news⟩
  · show 0 + (bys (takeM s 6).1).length ≤ _
    rw [bys_len, bys_len]
    simp
    exact h6
set_option maxRecDepth 100000 in
theorem Mac_yes (g : Nat) (A : Option Addr) (n c : Nat) (s : Cst) (w : World) (h : Cutr w g A n c s) :
    Calls Try.prog 61 #[.pointer (some ⟨g, 0, none⟩)] w fun e w' =>
      e = .returned (.agg (bys (macM (takeM s 6).1)).toArray) ∧ Cutr w' g A n c (takeM s 6).2 ∧ Kept (One g) w w' := by
  have h2 := (h.kept ((Kept.refl Nil w).alloc (.cells #[.int .u8 0, .int .u8 0, .int .u8 0, .int .u8 0, .int .u8 0, .int .u8 0] 26)) (fun hf => hf) (fun _ _ hf => hf))
  have h3 := (h2.kept ((Kept.refl Nil _).alloc (.cells #[.int .u8 0, .int .u8 0, .int .u8 0, .int .u8 0, .int .u8 0, .int .u8 0] 26)) (fun hf => hf) (fun _ _ hf => hf))
  have H3 := Lib.hid h3
  have HG0 := Lib.hid h.blo.lt
  clear h2 h3
  go_enter Try.func61, Try.ntmps61
  go_wp2_with fail
  go_region_law (first
    | (refine step_copy_splice rfl (.tmp 4) (.tmp 6) 31 31 rfl 5 Try.underlying31 sz5 _ A' 6 6 m c' rfl rfl (w.heap.size + 1) 0 (bys (List.replicate 6 0)) 26 HB3.out (bys l) HM.out HP.out HF.out (bys_one l) (w.heap.size + 1) w1 (Below.refl _ _) (by simp) ?_; intro w2 hw2 hb2)
    | (go_simp; go_at_call 80; refine (take_yes g A n c s 6 _ (by exact H3.out.heap rfl) (by omega)).mono ?_; rintro e w1 ⟨A', m, c', rfl, hb, hc, hk, hl⟩; obtain ⟨HB2, HB3, HC, HK, l, HG, HM, HP, HF⟩ := mac_aux w g A n c s A' m c' _ w1 hb hc hk ⟨1, rfl⟩ HG0.out; clear hb hc hk hl))
  have h6 : l.length ≤ 6 := by have := HG.out; rw [← this]; exact takeM_len2 s 6
  have hm2 := hw2.out
  rw [mac_splice l h6] at hm2
  obtain ⟨x0, x1, x2, x3, x4, x5, hx⟩ := six_of _ (macM_len l h6)
  have hB2 : Blo w2 (w.heap.size + 1) 26 (bys (macM l)).toArray := hm2
  have hB1 : Blo w2 w.heap.size 26 (bys (List.replicate 6 0)).toArray := (hb2.block _ (by omega)).trans HB2.out
  rw [hx] at hB2
  have c0 := hB2.cell 0
  have c1 := hB2.cell 1
  have c2 := hB2.cell 2
  have c3 := hB2.cell 3
  have c4 := hB2.cell 4
  have c5 := hB2.cell 5
  have d0 := hB1.cell 0
  have d1 := hB1.cell 1
  have d2 := hB1.cell 2
  have d3 := hB1.cell 3
  have d4 := hB1.cell 4
  have d5 := hB1.cell 5
  have f0 := hB1.frozen 0
  have f1 := hB1.frozen 1
  have f2 := hB1.frozen 2
  have f3 := hB1.frozen 3
  have f4 := hB1.frozen 4
  have f5 := hB1.frozen 5
  simp [bys] at c0 c1 c2 c3 c4 c5 d0 d1 d2 d3 d4 d5
  have HX := Lib.hid hx
  have HB := Lib.hid hB1
  have HE := Lib.hid hb2
  clear hx hB1 hB2 hm2 hw2 hb2 h6
  go_wp2
  refine bodyPost_ret (v := .agg #[.int .u8 x0.toNat, .int .u8 x1.toNat, .int .u8 x2.toNat, .int .u8 x3.toNat, .int .u8 x4.toNat, .int .u8 x5.toNat]) (by simp [results, Try.results61, go_sem, d0, d1, d2, d3, d4, d5]) rfl ⟨?_, ?_, ?_⟩
  · rw [HG.out, HX.out]
    rfl
  · have K2 : Kept (fun k => w.heap.size ≤ k) w1 w2 := (Kept.of_below' HE.out).mono fun i _ hi => Nat.le_of_succ_le hi
    exact HC.out.kept ((((((K2.put (Nat.le_refl _) _).put (Nat.le_refl _) _).put (Nat.le_refl _) _).put (Nat.le_refl _) _).put (Nat.le_refl _) _).put (Nat.le_refl _) _)
      (by have := HG0.out; omega) (fun i hi => by have := h.byt.lt i hi; omega)
  · have K2 : Kept (fun k => w.heap.size ≤ k) w1 w2 := (Kept.of_below' HE.out).mono fun i _ hi => Nat.le_of_succ_le hi
    exact HK.out.fresh ((((((K2.put (Nat.le_refl _) _).put (Nat.le_refl _) _).put (Nat.le_refl _) _).put (Nat.le_refl _) _).put (Nat.le_refl _) _).put (Nat.le_refl _) _) (fun i hi => hi)
end Go.Proofs.Ythjfeanmgaidcaa
