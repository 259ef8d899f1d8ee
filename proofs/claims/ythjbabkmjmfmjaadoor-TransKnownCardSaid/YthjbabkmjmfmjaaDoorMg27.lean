/- Texts that belong together, one behind the other: TrI, TrJ. Conditions: those of each. -/
import Derived.Test.YthjbabkmjmfmjaaDoorMg24
import Derived.Test.YthjbabkmjmfmjaaDoorMg25
import Derived.Test.YthjbabkmjmfmjaaDoorMg26
import Derived.Test.YthjbabkmjmfmjaaDoorMg19
import Derived.Test.YthjbabkmjmfmjaaDoorCutD
import Derived.Test.YthjbabkmjmfmjaaDoorMg6
import Derived.Test.YthjbabkmjmfmjaaDoorTrB
/- Package trans: contracts of sum, unsummed. -/
namespace Go.Proofs.YthjbabkmjmfmjaaDoor
open Go.RowKit
open Go.Maps (Keyed int_keyed keyOf_int_mk)
set_option linter.unusedVariables false

theorem rowz2 (w : World) (A : Option Addr) (n c : Nat) (a : List UInt8) (B : Option Addr) (m d : Nat) (b : List UInt8) (ha : Byt w A n c a) (hb : Byt w B m d b) (s : Nat) (hs : s = w.heap.size) : Rowz (w.alloc (.cells #[.slice A n c, .slice B m d] 22)) (some ⟨s, 0, none⟩) 2 2 [a, b] := by
  subst hs
  have hB := Blo.new w 22 #[.slice A n c, .slice B m d]
  have hk := (Kept.refl Nil w).alloc (.cells #[.slice A n c, .slice B m d] 22)
  refine ⟨rfl, Nat.le_refl _, by decide, fun _ => ⟨_, _, rfl, fun i hi => ?_⟩⟩
  match i, hi with
  | 0, _ => exact ⟨A, n, c, by rw [hB.cell]; rfl, ha.kept hk (fun _ _ hf => hf)⟩
  | 1, _ => exact ⟨B, m, d, by rw [hB.cell]; rfl, hb.kept hk (fun _ _ hf => hf)⟩
theorem pseu_is (s d p n : Nat) : (([] ++ beAll 4 [s, d]) ++ beAll 1 [0, p]) ++ beAll 2 [n] = pseuM s d p n := by
  unfold pseuM
  simp only [beAll, List.map_cons, List.map_nil, List.flatten_cons, List.flatten_nil, show ∀ x, beM 1 x = [UInt8.ofNat x] from fun x => by simp [beM, List.range_succ], List.append_nil, List.append_assoc, List.cons_append, List.nil_append]
  rfl
set_option maxRecDepth 100000 in
set_option maxHeartbeats 4000000 in
theorem tsum_yes (s d p : Nat) (hs : s < 4294967296) (hd : d < 4294967296) (hp : p < 256) (A : Option Addr) (n c : Nat) (l : List UInt8) (w : World) (h : Byt w A n c l) (hn : n ≤ 65535) :
    Calls Tryd.prog 49 #[.int .u32 (s : Int), .int .u32 (d : Int), .int .u8 (p : Int), .slice A n c] w fun e w' => e = .returned (.int .u16 (sumM (allB s d p l) : Int)) ∧ Kept Nil w w' := by
  have hwn : IntKind.wrap .u16 (n : Int) = (n : Int) := IntWalk.u16_in _ (by omega)
  have HL := Lib.hid h.1
  have HB := Lib.hid h
  clear h
  go_enter Tryd.func49, Tryd.ntmps49
  go_wp2_with (fail)
  refine (Lay_yes _).mono ?_
  rintro e w1 ⟨rfl, hp1, hk1⟩
  obtain ⟨g, hg⟩ : ∃ g, w.heap.size = g := ⟨_, rfl⟩
  rw [hg] at hp1 ⊢
  have HP1 := Lib.hid hp1
  have HK1 := Lib.hid hk1
  have HG := Lib.hid (show g ≤ w1.heap.size by rw [← hg]; exact hk1.size)
  have HGW := Lib.hid hg
  clear hp1 hk1 hg
  go_wp2_with (fail)
  refine (PFour_lit g g _ [] [s, d] w1 23 HP1.out HG.out (by simp) (by intro x hx; simp only [List.mem_cons, List.not_mem_nil, or_false] at hx; rcases hx with rfl | rfl <;> assumption)).mono ?_
  rintro e w2 ⟨v2, rfl, hp2, hk2, hn2⟩
  have HP2 := Lib.hid hp2
  have HK2 := Lib.hid (HK1.out.fresh hk2 (fun i hi => by have := HP1.out.foot_ge i hi; have := HGW.out; omega))
  have HG2 := Lib.hid (Nat.le_trans HG.out hk2.size)
  clear hp2 hk2 hn2 HP1 HK1 HG
  go_wp2_with (fail)
  refine (PByte_lit g g _ _ [0, p] w2 5 HP2.out HG2.out (by simp [beAll_len]) (by intro x hx; simp only [List.mem_cons, List.not_mem_nil, or_false] at hx; rcases hx with rfl | rfl; decide; exact hp)).mono ?_
  rintro e w3 ⟨v3, rfl, hp3, hk3, hn3⟩
  have HP3 := Lib.hid hp3
  have HK3 := Lib.hid (HK2.out.fresh hk3 (fun i hi => by have := HP2.out.foot_ge i hi; have := HGW.out; omega))
  have HG3 := Lib.hid (Nat.le_trans HG2.out hk3.size)
  clear hp3 hk3 hn3 HP2 HK2 HG2
  go_wp2_with (fail)
  refine (PTwo_lit g g _ _ [n] w3 27 HP3.out HG3.out (by simp [beAll_len]) (by intro x hx; simp only [List.mem_cons, List.not_mem_nil, or_false] at hx; rcases hx with rfl; show x < 65536; omega)).mono ?_
  rintro e w4 ⟨v4, rfl, hp4, hk4, hn4⟩
  rw [pseu_is] at hp4
  have HP4 := Lib.hid hp4
  have HK4 := Lib.hid (HK3.out.fresh hk4 (fun i hi => by have := HP3.out.foot_ge i hi; have := HGW.out; omega))
  clear hp4 hk4 hn4 HP3 HK3 HG3
  go_wp2_with (fail)
  refine (Done_yes _ g v4 _ _ HP4.out (by rw [pseu_len]; decide)).mono ?_
  rintro e w5 ⟨v5, rfl, hm5⟩
  obtain ⟨A5, c5, rfl, hb5, -⟩ := Byt.of_own hm5.1
  have HB5 := Lib.hid hb5
  have HK5 := Lib.hid (HK4.out.then hm5.2)
  have HBB := Lib.hid (HB.out.kept HK5.out (fun _ _ hf => hf))
  clear hm5 hb5 HP4 HK4
  go_wp2_with (fail)
  refine (Sum_yes _ 2 2 [pseuM s d p n, l] _ (rowz2 _ _ _ _ _ _ _ _ _ HB5.out HBB.out _ rfl) (by have := HL.out; simp [pseu_len]; omega)).mono ?_
  rintro e w6 ⟨rfl, rfl⟩
  have HE := Lib.hid (show csumM [pseuM s d p n, l].flatten = sumM (allB s d p l) by rw [csum_eq]; unfold allB; rw [HL.out]; simp)
  rw [HE.out]
  go_wp2
  go_ret
  exact ⟨rfl, HK5.out.alloc _⟩
end Go.Proofs.YthjbabkmjmfmjaaDoor
/- Package trans: contract of unsummed. -/
namespace Go.Proofs.YthjbabkmjmfmjaaDoor
open Go.RowKit
open Go.Maps (Keyed int_keyed keyOf_int_mk)
set_option linter.unusedVariables false

def unsM (l : List UInt8) : Bool := decide (8 ≤ l.length) && (l.getD 6 0 == 0 && l.getD 7 0 == 0)
theorem uns_of (l L : List UInt8) (n m0 : Nat) (hl : l.length = n) (hL : l.take m0 = L) (hm : m0 = min 8 n) :
    (8 ≤ m0 ∧ ∃ x, x < 65536 ∧ takeM ⟨L, 0, 0⟩ 6 = (L.take 6, ⟨L, 6, 0⟩) ∧ numM (takeM ⟨L, 6, 0⟩ 2).1 = x ∧ (takeM ⟨L, 6, 0⟩ 2).2 = ⟨L, 8, 0⟩ ∧ unsM l = decide (x = 0)) ∨
    (∃ s, (takeM ⟨L, 0, 0⟩ 6).2 = s ∧ numM (takeM s 2).1 = 0 ∧ (takeM s 2).2.er = 4 ∧ unsM l = false) := by
  have hLl : L.length = m0 := by rw [← hL, List.length_take]; omega
  by_cases h8 : 8 ≤ m0
  · refine .inl ⟨h8, _, ?_, ?_, rfl, ?_, ?_⟩
    · exact num_le (n := 2) (takeM_len2 _ 2)
    · have := takeM_ok L 0 6 (by omega)
      simpa using this
    · rw [show takeM ⟨L, 6, 0⟩ 2 = _ from takeM_ok L 6 2 (by omega)]
    · rw [show takeM ⟨L, 6, 0⟩ 2 = _ from takeM_ok L 6 2 (by omega)]
      have e : (L.drop 6).take 2 = [l.getD 6 0, l.getD 7 0] := by
        rw [← hL, sub_at l m0 6 2 (by omega), List.drop_eq_getElem_cons (by omega), List.drop_eq_getElem_cons (by omega), List.take_succ_cons, List.take_succ_cons, List.take_zero, List.getD_eq_getElem?_getD, List.getD_eq_getElem?_getD, List.getElem?_eq_getElem (by omega), List.getElem?_eq_getElem (by omega)]
        rfl
      rw [e]
      unfold unsM
      rw [decide_eq_true (by omega), Bool.true_and]
      generalize l.getD 6 0 = a
      generalize l.getD 7 0 = b
      have ha : (a = 0) ↔ a.toNat = 0 := ⟨fun h => by rw [h]; rfl, fun h => UInt8.toNat_inj.1 h⟩
      have hb : (b = 0) ↔ b.toNat = 0 := ⟨fun h => by rw [h]; rfl, fun h => UInt8.toNat_inj.1 h⟩
      have hn : numM [a, b] = a.toNat * 256 + b.toNat := by simp [numM]
      rw [Bool.eq_iff_iff]
      simp only [Bool.and_eq_true, beq_iff_eq, decide_eq_true_eq, hn, ha, hb]
      omega
  · have hu : unsM l = false := by unfold unsM; rw [decide_eq_false (by omega)]; rfl
    by_cases h6 : 6 ≤ m0
    · refine .inr ⟨⟨L, 6, 0⟩, ?_, ?_, ?_, hu⟩
      · have := takeM_ok L 0 6 (by omega)
        rw [show takeM ⟨L, 0, 0⟩ 6 = _ from this]
      · rw [show takeM ⟨L, 6, 0⟩ 2 = _ from takeM_short L 6 2 (by omega) (by omega)]
        rfl
      · rw [show takeM ⟨L, 6, 0⟩ 2 = _ from takeM_short L 6 2 (by omega) (by omega)]
    · refine .inr ⟨⟨L, 0, 4⟩, ?_, ?_, ?_, hu⟩
      · rw [show takeM ⟨L, 0, 0⟩ 6 = _ from takeM_short L 0 6 (by omega) (by omega)]
      · rw [takeM_err L 0 4 (by decide)]
        rfl
      · rw [takeM_err L 0 4 (by decide)]
set_option maxRecDepth 100000 in
set_option maxHeartbeats 4000000 in
theorem uns_yes (A : Option Addr) (n c : Nat) (l : List UInt8) (w : World) (h : Byt w A n c l) (hn : n ≤ 1099511627776) : Calls Tryd.prog 53 #[.slice A n c] w fun e w' => e = .returned (.bool (unsM l)) ∧ Kept Nil w w' := by
  have hnc := h.2.1
  have hcc := h.2.2.1
  obtain ⟨m0, hm, hmn, hm1, hm2, hm3⟩ := min8 n
  have hsl := run_cut_hi (P := Tryd.prog) Tryd.underlying22 inf5.1 A n c m0 (m0 : Int) rfl (by omega)
  have HBY := Lib.hid (h.pre hm1)
  obtain ⟨L, hL⟩ : ∃ L, l.take m0 = L := ⟨_, rfl⟩
  have HU := Lib.hid (uns_of l L n m0 h.1 hL hm3)
  rw [hL] at HBY
  have HM := Lib.hid hm2
  clear h hm3 hL hm1
  go_enter Tryd.func53, Tryd.ntmps53
  go_wp2_with (fail)
  refine (new_yes A m0 c L _ HBY.out (by have := HM.out; omega)).mono ?_
  rintro e w1 ⟨g, A', c', rfl, hc, hk, hg, hl⟩
  have HC0 := Lib.hid hc
  have HK0 := Lib.hid hk
  have HG := Lib.hid hg
  clear hc hk hg hl hsl hm hmn hm2
  go_wp2_with (fail)
  refine (sums_yes w1).mono ?_
  rintro e w2 ⟨gm, rfl, hmap, hk⟩
  have HC1 := Lib.hid (HC0.out.nil hk)
  have HK1 := Lib.hid (HK0.out.then hk)
  have HMP := Lib.hid hmap
  clear hk hmap HC0 HK0
  go_wp2_with (first
    | (at_lookup; refine wpList_lookup_own_int _ rfl _ _ _ rfl 5 3 .i64 (int_keyed Tryd.underlying5) Tryd.underlying91 Tryd.underlying3 (zeroI _) gm 2 sumsD rfl HMP.out (.int .u8 17) (.int .u8 17) rfl (keyOf_int_mk Tryd.underlying5 (by decide)) ?_; intro x hat hwc; rw [show (Lit.int IntKind.u8 17) = Lit.int .u8 ((17 : Nat) : Int) from rfl, (sums_at 17).1] at hat; injection hat with hat; injection hat with _ hat; simp only [show (17 : Nat) = 6 ↔ False from by decide, if_false, if_true] at hat; subst hat; clear hwc; simp only [Act.put])
    | fail)
  refine (Skip_yes g A' m0 c' ⟨L, 0, 0⟩ 6 _ HC1.out (by decide)).mono ?_
  rintro e w3 ⟨rfl, hc, hk⟩
  have HC2 := Lib.hid hc
  have HK2 := Lib.hid (HK1.out.fresh hk (fun i hi => by cases hi; exact HG.out))
  clear hc hk HC1 HK1 HMP
  go_wp2_with (fail)
  refine (Two_yes _ _ _ _ _ _ HC2.out).mono ?_
  rintro e w4 ⟨rfl, hc, hk⟩
  have HC3 := Lib.hid hc
  have HK3 := Lib.hid (HK2.out.fresh hk (fun i hi => by cases hi; exact HG.out))
  clear hc hk HC2 HK2
  have r0 := HC3.out.c0
  have r3 := HC3.out.c3
  rcases HU.out with ⟨h8, x, hx, e1, e2, e3, hu⟩ | ⟨s, e1, e2, e3, hu⟩
  · rw [e1] at r3 ⊢
    simp only at r3 ⊢
    rw [e3] at r3
    rw [e2]
    simp only at r3
    by_cases h0 : x = 0
    · subst h0
      have hb0 : (((0 : Nat) : Int) == 0) = true := rfl
      have HR := Lib.hid (show unsM l = true by rw [hu]; rfl)
      clear HU e1 e2 e3 hu
      go_wp2_with (first
        | (go_at_call 40; refine (err_yes g _ _ r0 r3).mono ?_; rintro e w' ⟨rfl, rfl⟩)
        | fail)
      go_ret
      exact ⟨by rw [HR.out]; rfl, HK3.out⟩
    · have hb0 : ((x : Int) == 0) = false := by simp; omega
      have HR := Lib.hid (show unsM l = false by rw [hu, decide_eq_false h0])
      clear HU e1 e2 e3 hu
      go_wp2_with (first
        | (go_at_call 40; refine (err_yes g _ _ r0 r3).mono ?_; rintro e w' ⟨rfl, rfl⟩)
        | fail)
      go_ret
      exact ⟨by rw [HR.out]; rfl, HK3.out⟩
  · rw [e1] at r3 ⊢
    rw [e3] at r3
    rw [e2]
    have HR := Lib.hid hu
    clear HU e1 e2 e3 hu
    go_wp2_with (first
      | (go_at_call 40; refine (err_yes g _ _ r0 r3).mono ?_; rintro e w' ⟨rfl, rfl⟩)
      | fail)
    go_ret
    exact ⟨by rw [HR.out]; rfl, HK3.out⟩
end Go.Proofs.YthjbabkmjmfmjaaDoor
