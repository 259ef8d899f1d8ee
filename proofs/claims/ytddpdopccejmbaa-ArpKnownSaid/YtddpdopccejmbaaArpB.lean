/- Package arp: contracts of ahead, of the law's of, of the replies. -/
import Derived.Test.YtddpdopccejmbaaArpA
namespace Go.Proofs.Ytddpdopccejmbaa
open Go.RowKit Go.Sort
set_option linter.unusedVariables false

def headL : List UInt8 := [0, 1, 8, 0, 6, 4]
set_option maxRecDepth 100000 in
theorem ahead_yes (w : World) : Calls Try.prog 48 #[] w fun e w' => e = .returned (.agg (bys headL).toArray) ∧ Kept Nil w w' := by
  have hB := Blo.new w 22 (bys o6).toArray
  go_enter Try.func48, Try.ntmps48
  go_upto_region 1 with (refine wpList_st rfl _ (.tmp 0) _ rfl _ 0 rfl (bys headL) _ rfl rfl (infN headL rfl) 22 (bys o6) hB (by decide) (bys_one headL) ?_; intro w1 hb1 hk1 hz1)
  go_wp2_with (first | (refine wpList_st rfl _ (.tmp 0) _ rfl _ 0 rfl (bys headL) _ rfl rfl (infN headL rfl) 22 (bys o6) hB (by decide) (bys_one headL) ?_; intro w1 hb1 hk1 hz1) | fail)
  have h1 : Blo w1 w.heap.size 22 (bys headL).toArray := hb1
  refine bodyPost_ret (res_cell0 Try.results48 rfl (Blo.row [] (bys headL) [] (by simpa using h1)) Try.underlying22 rfl (infN headL rfl)) rfl ⟨rfl, ?_⟩
  exact ((Kept.refl Nil w).alloc (.cells (bys o6).toArray 22)).fresh hk1 (fun i hi => by cases hi; exact Nat.le_refl _)
set_option maxRecDepth 100000 in
set_option maxHeartbeats 1000000 in
theorem of_yes (p : Pk) (hp : p.ok) (w : World) : Calls Try.prog 19 #[pkv p] w fun e w' => e = .returned (qkv p) ∧ Kept Nil w w' := by
  obtain ⟨o, f, x, t, y⟩ := p
  obtain ⟨d0, d1, d2, d3, d4, d5, rfl⟩ := six_of f hp.f
  obtain ⟨s0, s1, s2, s3, s4, s5, rfl⟩ := six_of t hp.t
  have ho := hp.o
  simp only at ho
  have hwr : IntKind.wrap .i64 (o : Int) = (o : Int) := by rw [IntKind.wrap_i64]; omega
  have hP : PB ((w.alloc (.cells (pcs ⟨o, [d0, d1, d2, d3, d4, d5], x, [s0, s1, s2, s3, s4, s5], y⟩).toArray 49)).alloc (.cells (qcs Pk.zero).toArray 53)) w.heap.size 49 ⟨o, [d0, d1, d2, d3, d4, d5], x, [s0, s1, s2, s3, s4, s5], y⟩ := Blo.alloc (PB.new w 49 _) _
  have hQ : QB ((w.alloc (.cells (pcs ⟨o, [d0, d1, d2, d3, d4, d5], x, [s0, s1, s2, s3, s4, s5], y⟩).toArray 49)).alloc (.cells (qcs Pk.zero).toArray 53)) (w.heap.size + 1) 53 Pk.zero := by
    have := QB.new (w.alloc (.cells (pcs ⟨o, [d0, d1, d2, d3, d4, d5], x, [s0, s1, s2, s3, s4, s5], y⟩).toArray 49)) 53 Pk.zero
    rwa [World.size_alloc] at this
  have hk : Kept Nil w ((w.alloc (.cells (pcs ⟨o, [d0, d1, d2, d3, d4, d5], x, [s0, s1, s2, s3, s4, s5], y⟩).toArray 49)).alloc (.cells (qcs Pk.zero).toArray 53)) := ((Kept.refl Nil w).alloc _).alloc _
  have HOK := Lib.hid hp
  clear hp ho
  go_enter Try.func19, Try.ntmps19
  go_upto_region 1 with (fail)
  refine wp_nameE (fun W => PB W w.heap.size 49 ⟨o, [d0, d1, d2, d3, d4, d5], x, [s0, s1, s2, s3, s4, s5], y⟩ ∧ QB W (w.heap.size + 1) 53 Pk.zero ∧ Kept Nil w W) ⟨hP, hQ, hk⟩ ?_
  clear hP hQ hk
  rintro W ⟨hP, hQ, hk⟩
  have c0 := hP.co
  have c1 := hP.cx HOK.out
  have c2 := hP.cy HOK.out
  simp only at c0 c1 c2
  have HP := Lib.hid hP
  have HQ := Lib.hid hQ
  have HK := Lib.hid hk
  clear hP hQ hk
  go_wp2_with (first
    | (refine wpList_ld rfl _ _ rfl w.heap.size 1 rfl [.int .u8 d0.toNat, .int .u8 d1.toNat, .int .u8 d2.toNat, .int .u8 d3.toNat, .int .u8 d4.toNat, .int .u8 d5.toNat] HP.out.rf _ Try.underlying23 rfl infA6 ?_)
    | (refine wpList_ld rfl _ _ rfl w.heap.size 8 rfl [.int .u8 s0.toNat, .int .u8 s1.toNat, .int .u8 s2.toNat, .int .u8 s3.toNat, .int .u8 s4.toNat, .int .u8 s5.toNat] (HP.out.rt HOK.out) _ Try.underlying23 rfl infA6 ?_)
    | (refine wpList_st rfl _ (.tmp 2) _ rfl _ 0 rfl (qcs ⟨o, [d0, d1, d2, d3, d4, d5], x, [s0, s1, s2, s3, s4, s5], y⟩) _ rfl rfl (infQ _ HOK.out) 53 _ HQ.out (by rw [qcs_len Pk.zero_ok, qcs_len HOK.out]; omega) (qcs_one _) ?_; intro w2 hb2 hk2 hz2))
  have h2 := QB.of_all (p' := ⟨o, [d0, d1, d2, d3, d4, d5], x, [s0, s1, s2, s3, s4, s5], y⟩) Pk.zero_ok HOK.out hb2
  refine bodyPost_ret (res_cell0 Try.results19 rfl h2.all Try.underlying53 rfl (infQ _ HOK.out)) rfl ⟨rfl, ?_⟩
  exact HK.out.fresh hk2 (fun i hi => by cases hi; omega)

set_option maxRecDepth 100000 in
set_option maxHeartbeats 1000000 in
theorem reply_yes (p : Pk) (hp : p.ok) (m : List UInt8) (hm : m.length = 6) (w : World) : Calls Try.prog 22 #[pkv p, .agg (bys m).toArray] w fun e w' => e = .returned (.tuple #[pkv (replyP p m).1, .bool (replyP p m).2]) ∧ Kept Nil w w' := by
  have hrok := replyP_ok p m hp hm
  obtain ⟨o, f, x, t, y⟩ := p
  obtain ⟨d0, d1, d2, d3, d4, d5, rfl⟩ := six_of f hp.f
  obtain ⟨s0, s1, s2, s3, s4, s5, rfl⟩ := six_of t hp.t
  obtain ⟨m0, m1, m2, m3, m4, m5, rfl⟩ := six_of m hm
  have hP : PB (((w.alloc (.cells (pcs ⟨o, [d0, d1, d2, d3, d4, d5], x, [s0, s1, s2, s3, s4, s5], y⟩).toArray 49)).alloc (.cells (bys [m0, m1, m2, m3, m4, m5]).toArray 23)).alloc (.cells (pcs Pk.zero).toArray 49)) w.heap.size 49 ⟨o, [d0, d1, d2, d3, d4, d5], x, [s0, s1, s2, s3, s4, s5], y⟩ := Blo.alloc (Blo.alloc (PB.new w 49 _) _) _
  have hM : Blo (((w.alloc (.cells (pcs ⟨o, [d0, d1, d2, d3, d4, d5], x, [s0, s1, s2, s3, s4, s5], y⟩).toArray 49)).alloc (.cells (bys [m0, m1, m2, m3, m4, m5]).toArray 23)).alloc (.cells (pcs Pk.zero).toArray 49)) (w.heap.size + 1) 23 (bys [m0, m1, m2, m3, m4, m5]).toArray := by
    have := Blo.new (w.alloc (.cells (pcs ⟨o, [d0, d1, d2, d3, d4, d5], x, [s0, s1, s2, s3, s4, s5], y⟩).toArray 49)) 23 (bys [m0, m1, m2, m3, m4, m5]).toArray
    rw [World.size_alloc] at this
    exact this.alloc _
  have hQ : PB (((w.alloc (.cells (pcs ⟨o, [d0, d1, d2, d3, d4, d5], x, [s0, s1, s2, s3, s4, s5], y⟩).toArray 49)).alloc (.cells (bys [m0, m1, m2, m3, m4, m5]).toArray 23)).alloc (.cells (pcs Pk.zero).toArray 49)) (w.heap.size + 2) 49 Pk.zero := by
    have := PB.new ((w.alloc (.cells (pcs ⟨o, [d0, d1, d2, d3, d4, d5], x, [s0, s1, s2, s3, s4, s5], y⟩).toArray 49)).alloc (.cells (bys [m0, m1, m2, m3, m4, m5]).toArray 23)) 49 Pk.zero
    rwa [World.size_alloc, World.size_alloc] at this
  have hk : Kept Nil w (((w.alloc (.cells (pcs ⟨o, [d0, d1, d2, d3, d4, d5], x, [s0, s1, s2, s3, s4, s5], y⟩).toArray 49)).alloc (.cells (bys [m0, m1, m2, m3, m4, m5]).toArray 23)).alloc (.cells (pcs Pk.zero).toArray 49)) := (((Kept.refl Nil w).alloc _).alloc _).alloc _
  have HOK := Lib.hid hp
  have HROK := Lib.hid hrok
  clear hp hrok
  go_enter Try.func22, Try.ntmps22
  go_upto_region 1 with (fail)
  refine wp_nameE (fun W => PB W w.heap.size 49 ⟨o, [d0, d1, d2, d3, d4, d5], x, [s0, s1, s2, s3, s4, s5], y⟩ ∧ Blo W (w.heap.size + 1) 23 (bys [m0, m1, m2, m3, m4, m5]).toArray ∧ PB W (w.heap.size + 2) 49 Pk.zero ∧ Kept Nil w W) ⟨hP, hM, hQ, hk⟩ ?_
  clear hP hM hQ hk
  rintro W ⟨hP, hM, hQ, hk⟩
  have c0 := hP.co
  have c1 := hP.cx HOK.out
  have c2 := hP.cy HOK.out
  simp only at c0 c1 c2
  have HP := Lib.hid hP
  have HM := Lib.hid (Blo.row [] (bys [m0, m1, m2, m3, m4, m5]) [] (by simpa using hM))
  have HQ := Lib.hid hQ
  have HK := Lib.hid hk
  clear hP hM hQ hk
  by_cases h1 : o = 1
  · have b1 : ((o : Int) != 1) = false := by simp; omega
    have HR := Lib.hid (show replyP ⟨o, [d0, d1, d2, d3, d4, d5], x, [s0, s1, s2, s3, s4, s5], y⟩ [m0, m1, m2, m3, m4, m5] = (⟨2, [m0, m1, m2, m3, m4, m5], y, [d0, d1, d2, d3, d4, d5], x⟩, true) by unfold replyP; rw [if_pos h1])
    rw [HR.out] at HROK
    clear h1
    go_wp2_with (first
      | (refine wpList_ld rfl _ _ rfl w.heap.size 1 rfl [.int .u8 d0.toNat, .int .u8 d1.toNat, .int .u8 d2.toNat, .int .u8 d3.toNat, .int .u8 d4.toNat, .int .u8 d5.toNat] HP.out.rf _ Try.underlying23 rfl infA6 ?_)
      | (refine wpList_ld rfl _ _ rfl (w.heap.size + 1) 0 rfl [.int .u8 m0.toNat, .int .u8 m1.toNat, .int .u8 m2.toNat, .int .u8 m3.toNat, .int .u8 m4.toNat, .int .u8 m5.toNat] HM.out _ Try.underlying23 rfl infA6 ?_)
      | (refine wpList_st rfl _ (.tmp 4) _ rfl _ 0 rfl (pcs ⟨2, [m0, m1, m2, m3, m4, m5], y, [d0, d1, d2, d3, d4, d5], x⟩) _ rfl rfl (infP _ HROK.out) 49 _ HQ.out (by rw [pcs_len Pk.zero_ok, pcs_len HROK.out]; omega) (pcs_one _) ?_; intro w2 hb2 hk2 hz2))
    have h2 := PB.of_all Pk.zero_ok HROK.out hb2
    refine bodyPost_ret (res_cell1 Try.results22 rfl rfl h2.all Try.underlying49 rfl (infP _ HROK.out)) rfl ⟨by rw [HR.out]; rfl, ?_⟩
    exact HK.out.fresh hk2 (fun i hi => by cases hi; omega)
  · have b1 : ((o : Int) != 1) = true := by simp; omega
    have HR := Lib.hid (show replyP ⟨o, [d0, d1, d2, d3, d4, d5], x, [s0, s1, s2, s3, s4, s5], y⟩ [m0, m1, m2, m3, m4, m5] = (Pk.zero, false) by unfold replyP; rw [if_neg h1])
    clear h1
    go_wp2_with (first
      | (refine wpList_st rfl _ (.tmp 4) _ rfl _ 0 rfl (pcs Pk.zero) _ rfl rfl (infP _ Pk.zero_ok) 49 _ HQ.out (by rw [pcs_len Pk.zero_ok]; omega) (pcs_one _) ?_; intro w2 hb2 hk2 hz2))
    have h2 := PB.of_all Pk.zero_ok Pk.zero_ok hb2
    refine bodyPost_ret (res_cell1 Try.results22 rfl rfl h2.all Try.underlying49 rfl (infP _ Pk.zero_ok)) rfl ⟨by rw [HR.out]; rfl, ?_⟩
    exact HK.out.fresh hk2 (fun i hi => by cases hi; omega)
set_option maxRecDepth 100000 in
set_option maxHeartbeats 1000000 in
theorem rreply_yes (p : Pk) (hp : p.ok) (m : List UInt8) (hm : m.length = 6) (w : World) : Calls Try.prog 23 #[qkv p, .agg (bys m).toArray] w fun e w' => e = .returned (.tuple #[qkv (replyP p m).1, .bool (replyP p m).2]) ∧ Kept Nil w w' := by
  have hrok := replyP_ok p m hp hm
  obtain ⟨o, f, x, t, y⟩ := p
  obtain ⟨d0, d1, d2, d3, d4, d5, rfl⟩ := six_of f hp.f
  obtain ⟨s0, s1, s2, s3, s4, s5, rfl⟩ := six_of t hp.t
  obtain ⟨m0, m1, m2, m3, m4, m5, rfl⟩ := six_of m hm
  have hP : QB (((w.alloc (.cells (qcs ⟨o, [d0, d1, d2, d3, d4, d5], x, [s0, s1, s2, s3, s4, s5], y⟩).toArray 53)).alloc (.cells (bys [m0, m1, m2, m3, m4, m5]).toArray 22)).alloc (.cells (qcs Pk.zero).toArray 53)) w.heap.size 53 ⟨o, [d0, d1, d2, d3, d4, d5], x, [s0, s1, s2, s3, s4, s5], y⟩ := Blo.alloc (Blo.alloc (QB.new w 53 _) _) _
  have hM : Blo (((w.alloc (.cells (qcs ⟨o, [d0, d1, d2, d3, d4, d5], x, [s0, s1, s2, s3, s4, s5], y⟩).toArray 53)).alloc (.cells (bys [m0, m1, m2, m3, m4, m5]).toArray 22)).alloc (.cells (qcs Pk.zero).toArray 53)) (w.heap.size + 1) 22 (bys [m0, m1, m2, m3, m4, m5]).toArray := by
    have := Blo.new (w.alloc (.cells (qcs ⟨o, [d0, d1, d2, d3, d4, d5], x, [s0, s1, s2, s3, s4, s5], y⟩).toArray 53)) 22 (bys [m0, m1, m2, m3, m4, m5]).toArray
    rw [World.size_alloc] at this
    exact this.alloc _
  have hQ : QB (((w.alloc (.cells (qcs ⟨o, [d0, d1, d2, d3, d4, d5], x, [s0, s1, s2, s3, s4, s5], y⟩).toArray 53)).alloc (.cells (bys [m0, m1, m2, m3, m4, m5]).toArray 22)).alloc (.cells (qcs Pk.zero).toArray 53)) (w.heap.size + 2) 53 Pk.zero := by
    have := QB.new ((w.alloc (.cells (qcs ⟨o, [d0, d1, d2, d3, d4, d5], x, [s0, s1, s2, s3, s4, s5], y⟩).toArray 53)).alloc (.cells (bys [m0, m1, m2, m3, m4, m5]).toArray 22)) 53 Pk.zero
    rwa [World.size_alloc, World.size_alloc] at this
  have hk : Kept Nil w (((w.alloc (.cells (qcs ⟨o, [d0, d1, d2, d3, d4, d5], x, [s0, s1, s2, s3, s4, s5], y⟩).toArray 53)).alloc (.cells (bys [m0, m1, m2, m3, m4, m5]).toArray 22)).alloc (.cells (qcs Pk.zero).toArray 53)) := (((Kept.refl Nil w).alloc _).alloc _).alloc _
  have HOK := Lib.hid hp
  have HROK := Lib.hid hrok
  clear hp hrok
  go_enter Try.func23, Try.ntmps23
  go_upto_region 1 with (fail)
  refine wp_nameE (fun W => QB W w.heap.size 53 ⟨o, [d0, d1, d2, d3, d4, d5], x, [s0, s1, s2, s3, s4, s5], y⟩ ∧ Blo W (w.heap.size + 1) 22 (bys [m0, m1, m2, m3, m4, m5]).toArray ∧ QB W (w.heap.size + 2) 53 Pk.zero ∧ Kept Nil w W) ⟨hP, hM, hQ, hk⟩ ?_
  clear hP hM hQ hk
  rintro W ⟨hP, hM, hQ, hk⟩
  have c0 := hP.co
  have c1 := hP.cx HOK.out
  have c2 := hP.cy HOK.out
  simp only at c0 c1 c2
  have HP := Lib.hid hP
  have HM := Lib.hid (Blo.row [] (bys [m0, m1, m2, m3, m4, m5]) [] (by simpa using hM))
  have HQ := Lib.hid hQ
  have HK := Lib.hid hk
  clear hP hM hQ hk
  by_cases h1 : o = 1
  · have b1 : ((o : Int) != 1) = false := by simp; omega
    have HR := Lib.hid (show replyP ⟨o, [d0, d1, d2, d3, d4, d5], x, [s0, s1, s2, s3, s4, s5], y⟩ [m0, m1, m2, m3, m4, m5] = (⟨2, [m0, m1, m2, m3, m4, m5], y, [d0, d1, d2, d3, d4, d5], x⟩, true) by unfold replyP; rw [if_pos h1])
    rw [HR.out] at HROK
    clear h1
    go_wp2_with (first
      | (refine wpList_ld rfl _ _ rfl w.heap.size 1 rfl [.int .u8 d0.toNat, .int .u8 d1.toNat, .int .u8 d2.toNat, .int .u8 d3.toNat, .int .u8 d4.toNat, .int .u8 d5.toNat] HP.out.rf _ Try.underlying22 rfl infB6 ?_)
      | (refine wpList_ld rfl _ _ rfl (w.heap.size + 1) 0 rfl [.int .u8 m0.toNat, .int .u8 m1.toNat, .int .u8 m2.toNat, .int .u8 m3.toNat, .int .u8 m4.toNat, .int .u8 m5.toNat] HM.out _ Try.underlying22 rfl infB6 ?_)
      | (refine wpList_st rfl _ (.tmp 4) _ rfl _ 0 rfl (qcs ⟨2, [m0, m1, m2, m3, m4, m5], y, [d0, d1, d2, d3, d4, d5], x⟩) _ rfl rfl (infQ _ HROK.out) 53 _ HQ.out (by rw [qcs_len Pk.zero_ok, qcs_len HROK.out]; omega) (qcs_one _) ?_; intro w2 hb2 hk2 hz2))
    have h2 := QB.of_all Pk.zero_ok HROK.out hb2
    refine bodyPost_ret (res_cell1 Try.results23 rfl rfl h2.all Try.underlying53 rfl (infQ _ HROK.out)) rfl ⟨by rw [HR.out]; rfl, ?_⟩
    exact HK.out.fresh hk2 (fun i hi => by cases hi; omega)
  · have b1 : ((o : Int) != 1) = true := by simp; omega
    have HR := Lib.hid (show replyP ⟨o, [d0, d1, d2, d3, d4, d5], x, [s0, s1, s2, s3, s4, s5], y⟩ [m0, m1, m2, m3, m4, m5] = (Pk.zero, false) by unfold replyP; rw [if_neg h1])
    clear h1
    go_wp2_with (first
      | (refine wpList_st rfl _ (.tmp 4) _ rfl _ 0 rfl (qcs Pk.zero) _ rfl rfl (infQ _ Pk.zero_ok) 53 _ HQ.out (by rw [qcs_len Pk.zero_ok]; omega) (qcs_one _) ?_; intro w2 hb2 hk2 hz2))
    have h2 := QB.of_all Pk.zero_ok Pk.zero_ok hb2
    refine bodyPost_ret (res_cell1 Try.results23 rfl rfl h2.all Try.underlying53 rfl (infQ _ Pk.zero_ok)) rfl ⟨by rw [HR.out]; rfl, ?_⟩
    exact HK.out.fresh hk2 (fun i hi => by cases hi; omega)
end Go.Proofs.Ytddpdopccejmbaa
