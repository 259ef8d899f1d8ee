/- tolllaw08.IcmpKnown: contracts of Id and Seq; the walk. -/
import Derived.Test.YtkpelaojjfcpfaaIcF
import Derived.Test.YtkpelaojjfcpfaaIcG
import Derived.Test.YtkpelaojjfcpfaaIcQ
import Derived.Test.YtkpelaojjfcpfaaMkC
import Derived.Test.YtkpelaojjfcpfaaFrameA
import Derived.Maps.RangeWalk
import Derived.Laws.OwnMore
namespace Go.Proofs.Ytkpelaojjfcpfaa
open Go.RowKit Go.Sort
open Go.Maps (Keyed int_keyed keyOf_int_mk)
set_option linter.unusedVariables false

theorem take_two (a b : UInt8) : takeM ⟨[a, b], 0, 0⟩ 2 = ([a, b], ⟨[a, b], 2, 0⟩) := by simp [takeM]
set_option maxRecDepth 100000 in
set_option maxHeartbeats 4000000 in
theorem iid_yes (m : Ms) (A : Option Addr) (n c : Nat) (hp : pairB m.t.toNat = true) (w : World) : Calls Try.prog 19 #[msv m A n c] w fun e w' => e = .returned (.int .u16 (numM [m.p, m.q] : Int)) ∧ Kept Nil w w' := by
  have hP := MB.new w 25 m A n c
  have hk := (Kept.refl Nil w).alloc (.cells (ics m A n c).toArray 25)
  have HPR := fun u => pair_yes m A n c u
  rw [hp] at HPR
  have HPR := Lib.hid HPR
  unfold msv at HPR ⊢
  go_enter Try.func19, Try.ntmps19
  go_upto_region 1 with (fail)
  refine wp_nameE (fun W => MB W w.heap.size 25 m A n c ∧ Kept Nil w W) ⟨hP, hk⟩ ?_
  clear hP hk
  rintro W ⟨hP, hk⟩
  obtain ⟨g, hg⟩ : ∃ g, w.heap.size = g := ⟨_, rfl⟩
  have HP := Lib.hid (show MB W g 25 m A n c from hg ▸ hP)
  have HK := Lib.hid hk
  rw [hg]
  clear hP hk
  go_wp2_with (first
    | (refine wpList_ld rfl _ _ rfl g 0 rfl (ics m A n c) HP.out.all _ Try.underlying25 rfl (infMs _ _ _ _) ?_; simp only [Act.put, List.setIfInBounds_toArray, List.set_cons_succ, List.set_cons_zero])
    | fail)
  refine (HPR.out _).mono ?_
  rintro e w1 ⟨rfl, hk⟩
  have HP1 := Lib.hid (HP.out.kept hk (fun hf => hf))
  have HK1 := Lib.hid (HK.out.then hk)
  clear hk HP HK HPR
  have HY := Lib.hid (show Byt w1 (some ⟨g, 2, none⟩) 2 4 [m.p, m.q] from (byt_row HP1.out.rr (by simp [Ms.rest]) 4 rfl).pre (hi := 2) (by omega))
  go_wp2_with (fail)
  refine (new_yes _ 2 4 _ _ HY.out (by decide)).mono ?_
  rintro e w2 ⟨gc, A2, c2, rfl, hc, hk, hgc, hA2⟩
  have HC := Lib.hid hc
  have HK2 := Lib.hid (HK1.out.then hk)
  have HGC := Lib.hid (show w.heap.size ≤ gc by have := HK1.out.size; omega)
  clear hc hk hgc hA2 HP1 HK1 HY
  go_wp2_with (fail)
  refine (Two_yes gc A2 2 c2 _ _ HC.out).mono ?_
  rintro e w3 ⟨rfl, hc, hk⟩
  rw [take_two]
  have HK3 := Lib.hid (HK2.out.fresh hk (fun i hi => by have := HGC.out; cases hi; omega))
  clear hc hk HC HK2
  go_wp2
  go_ret
  exact ⟨rfl, HK3.out⟩
set_option maxRecDepth 100000 in
set_option maxHeartbeats 4000000 in
theorem iseq_yes (m : Ms) (A : Option Addr) (n c : Nat) (hp : pairB m.t.toNat = true) (w : World) : Calls Try.prog 20 #[msv m A n c] w fun e w' => e = .returned (.int .u16 (numM [m.r, m.s] : Int)) ∧ Kept Nil w w' := by
  have hP := MB.new w 25 m A n c
  have hk := (Kept.refl Nil w).alloc (.cells (ics m A n c).toArray 25)
  have HPR := fun u => pair_yes m A n c u
  rw [hp] at HPR
  have HPR := Lib.hid HPR
  unfold msv at HPR ⊢
  go_enter Try.func20, Try.ntmps20
  go_upto_region 1 with (fail)
  refine wp_nameE (fun W => MB W w.heap.size 25 m A n c ∧ Kept Nil w W) ⟨hP, hk⟩ ?_
  clear hP hk
  rintro W ⟨hP, hk⟩
  obtain ⟨g, hg⟩ : ∃ g, w.heap.size = g := ⟨_, rfl⟩
  have HP := Lib.hid (show MB W g 25 m A n c from hg ▸ hP)
  have HK := Lib.hid hk
  rw [hg]
  clear hP hk
  go_wp2_with (first
    | (refine wpList_ld rfl _ _ rfl g 0 rfl (ics m A n c) HP.out.all _ Try.underlying25 rfl (infMs _ _ _ _) ?_; simp only [Act.put, List.setIfInBounds_toArray, List.set_cons_succ, List.set_cons_zero])
    | fail)
  refine (HPR.out _).mono ?_
  rintro e w1 ⟨rfl, hk⟩
  have HP1 := Lib.hid (HP.out.kept hk (fun hf => hf))
  have HK1 := Lib.hid (HK.out.then hk)
  clear hk HP HK HPR
  have HY := Lib.hid (show Byt w1 (some ⟨g, 4, none⟩) 2 2 [m.r, m.s] from byt_row (Blo.row [.int .u8 (m.t.toNat : Int), .int .u8 (m.c.toNat : Int), .int .u8 (m.p.toNat : Int), .int .u8 (m.q.toNat : Int)] (bys [m.r, m.s]) [.slice A n c] (w := w1) (g := g) (t := 25) HP1.out) (by simp) 2 rfl)
  go_wp2_with (fail)
  refine (new_yes _ 2 2 _ _ HY.out (by decide)).mono ?_
  rintro e w2 ⟨gc, A2, c2, rfl, hc, hk, hgc, hA2⟩
  have HC := Lib.hid hc
  have HK2 := Lib.hid (HK1.out.then hk)
  have HGC := Lib.hid (show w.heap.size ≤ gc by have := HK1.out.size; omega)
  clear hc hk hgc hA2 HP1 HK1 HY
  go_wp2_with (fail)
  refine (Two_yes gc A2 2 c2 _ _ HC.out).mono ?_
  rintro e w3 ⟨rfl, hc, hk⟩
  rw [take_two]
  have HK3 := Lib.hid (HK2.out.fresh hk (fun i hi => by have := HGC.out; cases hi; omega))
  clear hc hk HC HK2
  go_wp2
  go_ret
  exact ⟨rfl, HK3.out⟩
theorem grown_nil {a b : World} (h : Kept Nil a b) : a.grownBy b none := ⟨h.os, h.tape, h.output, h.size, fun i hi _ => h.block i hi (fun hf => hf)⟩
def knD0 : DataW Unit := .map []
def knD1 : DataW Unit := knD0.put (.int .u8 0) (.lit (.int .i64 3))
def knD2 : DataW Unit := knD1.put (.int .u8 3) (.lit (.int .i64 1))
def knD3 : DataW Unit := knD2.put (.int .u8 5) (.lit (.int .i64 1))
def knD4 : DataW Unit := knD3.put (.int .u8 6) (.lit (.int .i64 0))
def knD5 : DataW Unit := knD4.put (.int .u8 8) (.lit (.int .i64 2))
def knD6 : DataW Unit := knD5.put (.int .u8 9) (.lit (.int .i64 0))
def knD7 : DataW Unit := knD6.put (.int .u8 10) (.lit (.int .i64 0))
def knD8 : DataW Unit := knD7.put (.int .u8 12) (.lit (.int .i64 1))
def knD9 : DataW Unit := knD8.put (.int .u8 17) (.lit (.int .i64 2))
def knD10 : DataW Unit := knD9.put (.int .u8 18) (.lit (.int .i64 3))
def knD11 : DataW Unit := knD10.put (.int .u8 30) (.lit (.int .i64 0))
def intS (d : DataW Unit) : Option Int := match d with
  | .lit (.int .i64 a) => some a
  | _ => none
theorem kn_99 : ∀ t : Fin 256, intS (knD11.atKey (.int .u8 (t.val : Int)) (.lit (.int .i64 99))) = some 99 ∨ intS (knD11.atKey (.int .u8 (t.val : Int)) (.lit (.int .i64 99))) = some (kindN t.val : Int) := by decide +kernel
theorem kn_98 : ∀ t : Fin 256, intS (knD11.atKey (.int .u8 (t.val : Int)) (.lit (.int .i64 98))) = some 98 ∨ intS (knD11.atKey (.int .u8 (t.val : Int)) (.lit (.int .i64 98))) = some (kindN t.val : Int) := by decide +kernel
/-- Whichever entry comes: the kind is the type's. -/
theorem kn_at (T : UInt8) (c : Int) (h : ∀ zd, knD11.atKey (.int .u8 (T.toNat : Int)) zd = .lit (.int .i64 c)) : c = (kindN T.toNat : Int) := by
  have h1 := kn_99 ⟨T.toNat, T.toNat_lt⟩
  have h2 := kn_98 ⟨T.toNat, T.toNat_lt⟩
  dsimp only at h1 h2
  rw [h] at h1 h2
  have e : intS (.lit (.int .i64 c)) = some c := rfl
  rw [e, Option.some.injEq, Option.some.injEq] at h1 h2
  omega
def zsI (n : Nat) : List UInt8 := List.replicate n 0
theorem zsI_len (n : Nat) : (zsI n).length = n := List.length_replicate
def mZ (n : Nat) : Ms := ⟨0, 0, 0, 0, 0, 0, zsI n⟩
theorem ik1 : putI (mZ 65508) = ([], 3) := by unfold putI mZ; rw [if_pos (by rw [zsI_len]; decide)]
theorem ik2 : (putI (mZ 65507)).2 = 0 ∧ (putI (mZ 65507)).1.length = 65515 := by
  unfold putI mZ
  rw [if_neg (by rw [zsI_len]; decide)]
  exact ⟨rfl, by rw [rawM_len, zsI_len]⟩
theorem ik3 : getI (zsI 7) = (Ms.zero, 4) := rfl
theorem ik4 : getI (zsI 8) = (Ms.zero, 21) := by decide +kernel
theorem ik5 : getI [0, 0, 255, 255, 0, 0, 0, 0] = (Ms.zero, 0) := by decide +kernel
theorem ik6 : quoteM (mT 3) = (Hd.zero, [], 4) := by kernel_rfl
def mq3 : Ms := ⟨3, 0, 0, 0, 0, 0, zsI 20⟩
theorem ik7 : quoteM mq3 = (Hd.zero, [], 5) := by kernel_rfl
def mo : Ms := ⟨3, 4, 0, 0, 5, 220, [1]⟩
theorem ik8 : putI mo = ([3, 4, 246, 31, 0, 0, 5, 220, 1], 0) := by decide +kernel
def mi : Ms := ⟨0, 0, 1, 2, 3, 4, []⟩
set_option maxRecDepth 100000 in
set_option maxHeartbeats 16000000 in
theorem ikn_yes (w : World) : Calls Try.prog 7 #[] w fun e w' => e = .returned (.bool true) ∧ Below w.heap.size w w' := by
  have hmm := @run_makeMap Try.prog
  have h0 : (w.alloc (.map #[] 0)).ownsMap Try.prog 5 (plainElem Try.prog 3) w.heap.size 0 knD0 := World.ownsMap_made (H := Unit) w Try.prog 5 (plainElem Try.prog 3)
  have HK0 := Lib.hid ((Kept.refl Nil w).alloc (.map #[] 0))
  have HKY := fun (t : Int) (h : (Lit.int IntKind.u8 t).wf = true) => keyOf_int_mk Try.underlying5 h
  go_enter Try.func7, Try.ntmps7
  go_wp2_with (first
    | (refine wpList_insert_ic _ rfl _ _ _ _ rfl 5 3 (int_keyed Try.underlying5) Try.underlying57 (plainElem Try.prog 3) w.heap.size 0 knD0 rfl h0 (by unfold maxLen; omega) (.int .u8 0) (.int .i64 3) (.int .u8 0) rfl rfl (HKY 0 (by decide)) (.lit (.int .i64 3)) [] (plainElem_int Try.underlying3 (by decide)) ?_; intro w1 h1 g1; clear h0; simp only [Act.put])
    | (refine wpList_insert_ic _ rfl _ _ _ _ rfl 5 3 (int_keyed Try.underlying5) Try.underlying57 (plainElem Try.prog 3) w.heap.size 1 knD1 rfl h1 (by unfold maxLen; omega) (.int .u8 3) (.int .i64 1) (.int .u8 3) rfl rfl (HKY 3 (by decide)) (.lit (.int .i64 1)) [] (plainElem_int Try.underlying3 (by decide)) ?_; intro w2 h2 g2; clear h1; simp only [Act.put])
    | (refine wpList_insert_ic _ rfl _ _ _ _ rfl 5 3 (int_keyed Try.underlying5) Try.underlying57 (plainElem Try.prog 3) w.heap.size 2 knD2 rfl h2 (by unfold maxLen; omega) (.int .u8 5) (.int .i64 1) (.int .u8 5) rfl rfl (HKY 5 (by decide)) (.lit (.int .i64 1)) [] (plainElem_int Try.underlying3 (by decide)) ?_; intro w3 h3 g3; clear h2; simp only [Act.put])
    | (refine wpList_insert_ic _ rfl _ _ _ _ rfl 5 3 (int_keyed Try.underlying5) Try.underlying57 (plainElem Try.prog 3) w.heap.size 3 knD3 rfl h3 (by unfold maxLen; omega) (.int .u8 6) (.int .i64 0) (.int .u8 6) rfl rfl (HKY 6 (by decide)) (.lit (.int .i64 0)) [] (plainElem_int Try.underlying3 (by decide)) ?_; intro w4 h4 g4; clear h3; simp only [Act.put])
    | (refine wpList_insert_ic _ rfl _ _ _ _ rfl 5 3 (int_keyed Try.underlying5) Try.underlying57 (plainElem Try.prog 3) w.heap.size 4 knD4 rfl h4 (by unfold maxLen; omega) (.int .u8 8) (.int .i64 2) (.int .u8 8) rfl rfl (HKY 8 (by decide)) (.lit (.int .i64 2)) [] (plainElem_int Try.underlying3 (by decide)) ?_; intro w5 h5 g5; clear h4; simp only [Act.put])
    | (refine wpList_insert_ic _ rfl _ _ _ _ rfl 5 3 (int_keyed Try.underlying5) Try.underlying57 (plainElem Try.prog 3) w.heap.size 5 knD5 rfl h5 (by unfold maxLen; omega) (.int .u8 9) (.int .i64 0) (.int .u8 9) rfl rfl (HKY 9 (by decide)) (.lit (.int .i64 0)) [] (plainElem_int Try.underlying3 (by decide)) ?_; intro w6 h6 g6; clear h5; simp only [Act.put])
    | (refine wpList_insert_ic _ rfl _ _ _ _ rfl 5 3 (int_keyed Try.underlying5) Try.underlying57 (plainElem Try.prog 3) w.heap.size 6 knD6 rfl h6 (by unfold maxLen; omega) (.int .u8 10) (.int .i64 0) (.int .u8 10) rfl rfl (HKY 10 (by decide)) (.lit (.int .i64 0)) [] (plainElem_int Try.underlying3 (by decide)) ?_; intro w7 h7 g7; clear h6; simp only [Act.put])
    | (refine wpList_insert_ic _ rfl _ _ _ _ rfl 5 3 (int_keyed Try.underlying5) Try.underlying57 (plainElem Try.prog 3) w.heap.size 7 knD7 rfl h7 (by unfold maxLen; omega) (.int .u8 12) (.int .i64 1) (.int .u8 12) rfl rfl (HKY 12 (by decide)) (.lit (.int .i64 1)) [] (plainElem_int Try.underlying3 (by decide)) ?_; intro w8 h8 g8; clear h7; simp only [Act.put])
    | (refine wpList_insert_ic _ rfl _ _ _ _ rfl 5 3 (int_keyed Try.underlying5) Try.underlying57 (plainElem Try.prog 3) w.heap.size 8 knD8 rfl h8 (by unfold maxLen; omega) (.int .u8 17) (.int .i64 2) (.int .u8 17) rfl rfl (HKY 17 (by decide)) (.lit (.int .i64 2)) [] (plainElem_int Try.underlying3 (by decide)) ?_; intro w9 h9 g9; clear h8; simp only [Act.put])
    | (refine wpList_insert_ic _ rfl _ _ _ _ rfl 5 3 (int_keyed Try.underlying5) Try.underlying57 (plainElem Try.prog 3) w.heap.size 9 knD9 rfl h9 (by unfold maxLen; omega) (.int .u8 18) (.int .i64 3) (.int .u8 18) rfl rfl (HKY 18 (by decide)) (.lit (.int .i64 3)) [] (plainElem_int Try.underlying3 (by decide)) ?_; intro w10 h10 g10; clear h9; simp only [Act.put])
    | (refine wpList_insert_ic _ rfl _ _ _ _ rfl 5 3 (int_keyed Try.underlying5) Try.underlying57 (plainElem Try.prog 3) w.heap.size 10 knD10 rfl h10 (by unfold maxLen; omega) (.int .u8 30) (.int .i64 0) (.int .u8 30) rfl rfl (HKY 30 (by decide)) (.lit (.int .i64 0)) [] (plainElem_int Try.underlying3 (by decide)) ?_; intro w11 h11 g11; clear h10; simp only [Act.put])
    | (at_range; refine wpList_range_own _ rfl _ _ rfl 5 3 (int_keyed Try.underlying5) Try.underlying57 (plainElem Try.prog 3) w.heap.size 11 knD11 rfl h11 ?_; intro w12 hrg0 hg0 hs0)
    | fail)
  have hq : ∀ k, some w.heap.size = some k → k < w.heap.size → Nil k := fun k hk hl => by cases hk; omega
  have HK11 := Lib.hid (((((((((((HK0.out.grown g1 hq).grown g2 hq).grown g3 hq).grown g4 hq).grown g5 hq).grown g6 hq).grown g7 hq).grown g8 hq).grown g9 hq).grown g10 hq).grown g11 hq)
  clear g1 g2 g3 g4 g5 g6 g7 g8 g9 g10 g11 HK0 HKY hmm
  go_frame
  obtain ⟨gr, hgr⟩ : ∃ g, w11.heap.size = g := ⟨_, rfl⟩
  have HGR := Lib.hid (show w.heap.size ≤ gr by have := HK11.out.size; omega)
  have HK12 := Lib.hid (HK11.out.grown hg0 (fun k hk => by cases hk))
  rw [hgr] at hrg0 ⊢
  clear hq hg0 hs0 h11 HK11 hgr
  go_loopw [1, 2] (fun _ _ wr => ∃ (left : Lit → Bool) (cnt : Nat), wr.ranges Try.prog 5 (plainElem Try.prog 3) w.heap.size gr 11 knD11 left cnt ∧ Kept Nil w wr) (fun _ _ wr => wr.rangeLeft w.heap.size gr)
  case atStart => exact ⟨_, _, hrg0, HK12.out⟩
  case round =>
    obtain ⟨left, cnt, hrg, hkr⟩ := hrel
    clear hrg0 HK12
    go_wp2_with (first
      | (at_next; refine wpList_next_ranges_ii _ rfl _ rfl 5 3 .u8 .i64 (int_keyed Try.underlying5) Try.underlying5 Try.underlying3 w.heap.size gr 11 _ _ _ rfl hrg ?_ ?_)
      | fail)
    · intro _ hl0
      have HK := Lib.hid hkr
      clear hrg hkr hl0
      go_wp2_with (refine wpList_mkC rfl _ _ rfl 65508 (by decide) rfl rfl ?_; intro m1 hb hk; simp only [Act.put, List.setIfInBounds_toArray, List.set_cons_succ, List.set_cons_zero])
      have HN := Lib.hid (bloB (show Blo m1 wr.heap.size 5 (bys (zsI 65508)).toArray from hb) 65508 (zsI_len 65508) (by decide))
      have HK := Lib.hid (HK.out.then hk)
      clear hb hk
      have hp := icput_yes (mZ 65508) (some ⟨wr.heap.size, 0, none⟩) 65508 65508 m1 HN.out (by decide)
      rw [ik1] at hp
      have hp : Calls Try.prog 12 #[.agg #[.int .u8 0, .int .u8 0, .int .u8 0, .int .u8 0, .int .u8 0, .int .u8 0, .slice (some ⟨wr.heap.size, 0, none⟩) 65508 65508]] m1 _ := hp
      refine hp.mono ?_
      clear hp
      rintro e w1 ⟨v1, rfl, hmd⟩
      dsimp only
      obtain ⟨A1, d1, rfl, -, -⟩ := byt_own hmd
      have HK := Lib.hid (HK.out.then hmd.2)
      clear hmd HN
      go_wp2_with (refine wpList_mkC rfl _ _ rfl 65507 (by decide) rfl rfl ?_; intro m2 hb hk; simp only [Act.put, List.setIfInBounds_toArray, List.set_cons_succ, List.set_cons_zero])
      have HN := Lib.hid (bloB (show Blo m2 w1.heap.size 5 (bys (zsI 65507)).toArray from hb) 65507 (zsI_len 65507) (by decide))
      have HK := Lib.hid (HK.out.then hk)
      clear hb hk
      have hp := icput_yes (mZ 65507) (some ⟨w1.heap.size, 0, none⟩) 65507 65507 m2 HN.out (by decide)
      rw [ik2.1] at hp
      have hp : Calls Try.prog 12 #[.agg #[.int .u8 0, .int .u8 0, .int .u8 0, .int .u8 0, .int .u8 0, .int .u8 0, .slice (some ⟨w1.heap.size, 0, none⟩) 65507 65507]] m2 _ := hp
      refine hp.mono ?_
      clear hp
      rintro e w2 ⟨v2, rfl, hmd⟩
      obtain ⟨A2, d2, rfl, -, -⟩ := byt_own hmd
      have HK := Lib.hid (HK.out.then hmd.2)
      rw [ik2.2]
      clear hmd HN
      go_wp2_with (refine wpList_mkC rfl _ _ rfl 7 (by decide) rfl rfl ?_; intro m3 hb hk; simp only [Act.put, List.setIfInBounds_toArray, List.set_cons_succ, List.set_cons_zero])
      have HN := Lib.hid (bloB (show Blo m3 w2.heap.size 5 (bys (zsI 7)).toArray from hb) 7 (zsI_len 7) (by decide))
      have HK := Lib.hid (HK.out.then hk)
      clear hb hk
      have hp := icget_yes _ 7 7 (zsI 7) m3 HN.out (by decide)
      rw [ik3] at hp
      refine hp.mono ?_
      clear hp
      rintro e w3 ⟨A3, n3, d3, rfl, -, hk⟩
      dsimp only
      have HK := Lib.hid (HK.out.then hk)
      clear hk HN
      have HZ := Lib.hid (MB.new w3 25 Ms.zero none 0 0)
      go_upto_region 9 with (first
        | (refine wpList_st rfl _ (.tmp 7) _ rfl w3.heap.size 0 rfl (ics Ms.zero A3 n3 d3) _ rfl rfl (infMs _ _ _ _) 25 _ HZ.out (by rw [ics_len, ics_len]; omega) (ics_one _ _ _ _) ?_; intro v3 hb hks hz; simp only [Act.put])
        | fail)
      have hks2 := ((Kept.refl Nil w3).alloc (.cells (ics Ms.zero none 0 0).toArray 25)).fresh hks (fun i hi => by cases hi; exact Nat.le_refl _)
      have HK := Lib.hid (HK.out.then hks2)
      clear hb hks hz hks2 HZ
      go_wp2_with (refine wpList_mkC rfl _ _ rfl 8 (by decide) rfl rfl ?_; intro m4 hb hk; simp only [Act.put, List.setIfInBounds_toArray, List.set_cons_succ, List.set_cons_zero])
      have HN := Lib.hid (bloB (show Blo m4 v3.heap.size 5 (bys (zsI 8)).toArray from hb) 8 (zsI_len 8) (by decide))
      have HK := Lib.hid (HK.out.then hk)
      clear hb hk
      have hp := icget_yes _ 8 8 (zsI 8) m4 HN.out (by decide)
      rw [ik4] at hp
      refine hp.mono ?_
      clear hp
      rintro e w4 ⟨A4, n4, d4, rfl, -, hk⟩
      dsimp only
      have HK := Lib.hid (HK.out.then hk)
      clear hk HN
      have HZ := Lib.hid (MB.new w4 25 Ms.zero none 0 0)
      go_upto_region 10 with (first
        | (refine wpList_st rfl _ (.tmp 9) _ rfl w4.heap.size 0 rfl (ics Ms.zero A4 n4 d4) _ rfl rfl (infMs _ _ _ _) 25 _ HZ.out (by rw [ics_len, ics_len]; omega) (ics_one _ _ _ _) ?_; intro v4 hb hks hz; simp only [Act.put])
        | fail)
      have hks2 := ((Kept.refl Nil w4).alloc (.cells (ics Ms.zero none 0 0).toArray 25)).fresh hks (fun i hi => by cases hi; exact Nat.le_refl _)
      have HK := Lib.hid (HK.out.then hks2)
      clear hb hks hz hks2 HZ
      go_wp2_with (fail)
      have hk := (Kept.refl Nil v4).alloc (.cells #[.int .u8 0, .int .u8 0, .int .u8 255, .int .u8 255, .int .u8 0, .int .u8 0, .int .u8 0, .int .u8 0] 5)
      have hn := byt_lit v4 [0, 0, 255, 255, 0, 0, 0, 0] 5 #[.int .u8 0, .int .u8 0, .int .u8 255, .int .u8 255, .int .u8 0, .int .u8 0, .int .u8 0, .int .u8 0] rfl 8 rfl _ rfl (by decide)
      have HK := Lib.hid (HK.out.then hk)
      have hp := icget_yes _ 8 8 [0, 0, 255, 255, 0, 0, 0, 0] _ hn (by decide)
      rw [ik5] at hp
      refine hp.mono ?_
      clear hp hn hk
      rintro e w5 ⟨A5, n5, d5, rfl, -, hk⟩
      dsimp only
      have HK := Lib.hid (HK.out.then hk)
      clear hk
      have HZ := Lib.hid (MB.new w5 25 Ms.zero none 0 0)
      go_upto_region 11 with (first
        | (refine wpList_st rfl _ (.tmp 11) _ rfl w5.heap.size 0 rfl (ics Ms.zero A5 n5 d5) _ rfl rfl (infMs _ _ _ _) 25 _ HZ.out (by rw [ics_len, ics_len]; omega) (ics_one _ _ _ _) ?_; intro v5 hb hks hz; simp only [Act.put])
        | fail)
      have hks2 := ((Kept.refl Nil w5).alloc (.cells (ics Ms.zero none 0 0).toArray 25)).fresh hks (fun i hi => by cases hi; exact Nat.le_refl _)
      have HK := Lib.hid (HK.out.then hks2)
      clear hb hks hz hks2 HZ
      have Q3 : ∀ u, Calls Try.prog 16 #[.agg #[.int .u8 3, .int .u8 0, .int .u8 0, .int .u8 0, .int .u8 0, .int .u8 0, .slice none 0 0]] u fun e w' => GetIs u e w' (Hd.zero, [], 4) := fun u => by
        have := quote_yes (mT 3) none 0 0 u (Byt.none u) (by decide)
        rw [ik6] at this
        exact this
      go_wp2_with (fail)
      refine (Q3 _).mono ?_
      clear Q3
      rintro e w6 ⟨A6, n6, d6, B6, k6, e6, rfl, -, -, hk⟩
      dsimp only
      have HK := Lib.hid (HK.out.then hk)
      clear hk
      have HZ := Lib.hid (HB.new w6 47 Hd.zero none 0 0)
      go_upto_region 12 with (first
        | (refine wpList_st rfl _ (.tmp 13) _ rfl w6.heap.size 0 rfl (hcs Hd.zero A6 n6 d6) _ rfl rfl (infHi _ _ _ _) 47 _ HZ.out (by rw [hcs_len, hcs_len]; omega) (hcs_one _ _ _ _) ?_; intro v6 hb hks hz; simp only [Act.put])
        | fail)
      have hks2 := ((Kept.refl Nil w6).alloc (.cells (hcs Hd.zero none 0 0).toArray 47)).fresh hks (fun i hi => by cases hi; exact Nat.le_refl _)
      have HK := Lib.hid (HK.out.then hks2)
      clear hb hks hz hks2 HZ
      go_wp2_with (refine wpList_mkC rfl _ _ rfl 20 (by decide) rfl rfl ?_; intro m7 hb hk; simp only [Act.put, List.setIfInBounds_toArray, List.set_cons_succ, List.set_cons_zero])
      have HN := Lib.hid (bloB (show Blo m7 v6.heap.size 5 (bys (zsI 20)).toArray from hb) 20 (zsI_len 20) (by decide))
      have HK := Lib.hid (HK.out.then hk)
      clear hb hk
      have hp := quote_yes mq3 (some ⟨v6.heap.size, 0, none⟩) 20 20 m7 HN.out (by decide)
      rw [ik7] at hp
      have hp : Calls Try.prog 16 #[.agg #[.int .u8 3, .int .u8 0, .int .u8 0, .int .u8 0, .int .u8 0, .int .u8 0, .slice (some ⟨v6.heap.size, 0, none⟩) 20 20]] m7 _ := hp
      refine hp.mono ?_
      clear hp
      rintro e w7 ⟨A7, n7, d7, B7, k7, e7, rfl, -, -, hk⟩
      dsimp only
      have HK := Lib.hid (HK.out.then hk)
      clear hk HN
      have HZ := Lib.hid (HB.new w7 47 Hd.zero none 0 0)
      go_upto_region 13 with (first
        | (refine wpList_st rfl _ (.tmp 16) _ rfl w7.heap.size 0 rfl (hcs Hd.zero A7 n7 d7) _ rfl rfl (infHi _ _ _ _) 47 _ HZ.out (by rw [hcs_len, hcs_len]; omega) (hcs_one _ _ _ _) ?_; intro v7 hb hks hz; simp only [Act.put])
        | fail)
      have hks2 := ((Kept.refl Nil w7).alloc (.cells (hcs Hd.zero none 0 0).toArray 47)).fresh hks (fun i hi => by cases hi; exact Nat.le_refl _)
      have HK := Lib.hid (HK.out.then hks2)
      clear hb hks hz hks2 HZ
      go_wp2_with (fail)
      have hk := (Kept.refl Nil v7).alloc (.cells #[.int .u8 1] 5)
      have hn := byt_lit v7 [1] 5 #[.int .u8 1] rfl 1 rfl _ rfl (by decide)
      have HK := Lib.hid (HK.out.then hk)
      have hp := icput_yes mo _ 1 1 _ hn (by decide)
      rw [ik8] at hp
      have hp : Calls Try.prog 12 #[.agg #[.int .u8 3, .int .u8 4, .int .u8 0, .int .u8 0, .int .u8 5, .int .u8 220, .slice (some ⟨v7.heap.size, 0, none⟩) 1 1]] _ _ := hp
      refine hp.mono ?_
      clear hp hn hk
      rintro e w8 ⟨v8, rfl, hmd⟩
      dsimp only at hmd ⊢
      obtain ⟨A8, d8, rfl, hy8, -⟩ := byt_own hmd
      have hy8 : Byt w8 A8 9 d8 [3, 4, 246, 31, 0, 0, 5, 220, 1] := hy8
      have HY8 := Lib.hid hy8
      have HK := Lib.hid (HK.out.then hmd.2)
      have HZ := Lib.hid (MB.new w8 25 Ms.zero none 0 0)
      clear hmd hy8
      go_upto_region 15 with (first
        | (refine wpList_st rfl _ (.tmp 21) _ rfl w8.heap.size 0 rfl (ics mi none 0 0) _ rfl rfl (infMs _ _ _ _) 25 _ HZ.out (by rw [ics_len, ics_len]; omega) (ics_one _ _ _ _) ?_; intro w9 hb hks hz; simp only [Act.put])
        | fail)
      have hks2 := ((Kept.refl Nil w8).alloc (.cells (ics Ms.zero none 0 0).toArray 25)).fresh hks (fun i hi => by cases hi; exact Nat.le_refl _)
      have HM := Lib.hid (show MB w9 w8.heap.size 25 mi none 0 0 from hb)
      have HY9 := Lib.hid (HY8.out.kept hks2 (fun _ _ hf => hf))
      have HK := Lib.hid (HK.out.then hks2)
      obtain ⟨g21, hg21⟩ : ∃ g, w8.heap.size = g := ⟨_, rfl⟩
      rw [hg21] at HM ⊢
      clear hb hks hz hks2 HZ HY8 hg21
      have htx := HY9.out.text (P := Try.prog) Try.underlying22 Try.underlying5 Try.underlying9
      have ID : ∀ u, Calls Try.prog 19 #[.agg (ics mi none 0 0).toArray] u fun e w' => e = .returned (.int .u16 258) ∧ Kept Nil u w' := fun u => iid_yes mi none 0 0 (by decide) u
      have SQ : ∀ u, Calls Try.prog 20 #[.agg (ics mi none 0 0).toArray] u fun e w' => e = .returned (.int .u16 772) ∧ Kept Nil u w' := fun u => iseq_yes mi none 0 0 (by decide) u
      have ID := Lib.hid ID
      have SQ := Lib.hid SQ
      go_wp2_with (first
        | (refine wpList_ld rfl _ _ rfl g21 0 rfl (ics mi none 0 0) HM.out.all _ Try.underlying25 rfl (infMs _ _ _ _) ?_; simp only [Act.put, List.setIfInBounds_toArray, List.set_cons_succ, List.set_cons_zero])
        | fail)
      refine (ID.out _).mono ?_
      rintro e w10 ⟨rfl, hk⟩
      have HM := Lib.hid (HM.out.kept hk (fun hf => hf))
      have HK := Lib.hid (HK.out.then hk)
      clear hk htx HY9
      go_wp2_with (first
        | (refine wpList_ld rfl _ _ rfl g21 0 rfl (ics mi none 0 0) HM.out.all _ Try.underlying25 rfl (infMs _ _ _ _) ?_; simp only [Act.put, List.setIfInBounds_toArray, List.set_cons_succ, List.set_cons_zero])
        | fail)
      refine (SQ.out _).mono ?_
      rintro e w11' ⟨rfl, hk⟩
      have HK := Lib.hid (HK.out.then hk)
      clear hk HM
      go_wp2_with (fail)
      refine (itells_yes _).mono ?_
      rintro e w12' ⟨rfl, hk⟩
      have HK := Lib.hid (HK.out.then hk)
      clear hk
      go_wp2
      go_ret
      exact ⟨rfl, HK.out.below (Nat.le_refl _) (fun _ hf => hf.elim)⟩
    · intro x c w13 cnt1 hwx hwc hlx hat hrg1 hlt hg1 hs1 hen
      have hb8 := wfu8 x hwx
      obtain ⟨k, rfl⟩ := Int.eq_ofNat_of_zero_le hb8.1
      obtain ⟨T, rfl⟩ : ∃ T : UInt8, T.toNat = k := ⟨UInt8.ofNat k, by simp; omega⟩
      have hc := kn_at T c hat
      subst hc
      have HK13 := Lib.hid (hkr.grown hg1 (fun k hk hl => by have := HGR.out; cases hk; omega))
      have HRG := Lib.hid hrg1
      have HL := Lib.hid (And.intro hrg.left_eq hlt)
      have K1 := Lib.hid (show ∀ u, Calls Try.prog 14 #[.agg #[.int .u8 (T.toNat : Int), .int .u8 0, .int .u8 0, .int .u8 0, .int .u8 0, .int .u8 0, .slice none 0 0]] u fun e w' => e = .returned (.int .i64 (kindN T.toNat : Int)) ∧ Kept Nil u w' from fun u => kind_yes (mT T) none 0 0 u)
      clear hb8 hwx hwc hlx hat hrg1 hlt hg1 hs1 hrg hkr
      go_wp2_with (fail)
      refine (K1.out _).mono ?_
      rintro e w14 ⟨rfl, hk⟩
      have hrg2 := HRG.out.kept (row := none) (grown_nil hk) (by simp) (by simp)
      have HK14 := Lib.hid (HK13.out.then hk)
      clear hk HK13 K1 hen
      go_wp2
      go_roundw
      case rel => exact ⟨_, _, hrg2, HK14.out⟩
      case measure => rw [hrg2.left_eq, HL.out.1]; exact HL.out.2
end Go.Proofs.Ytkpelaojjfcpfaa
