/- Package trans: contracts of GetTcp, GetUdp. -/
import Derived.Test.YthjbabkmjmfmjaaDoorMg6
import Derived.Test.YthjbabkmjmfmjaaDoorCutD
import Derived.Lib.Walk
import Derived.BigCall
import Derived.WalkSpells
import Derived.WalkLawsBesides
import Derived.Deep.QuietTactic
import Derived.BigQuiet
import Derived.BigRegion
import Derived.Deep.DeepCutAuto
namespace Go.Proofs.YthjbabkmjmfmjaaDoor
open Go.RowKit Go.Sort
set_option linter.unusedVariables false

theorem inf16 : (Tryd.prog.info? 27).map (·.size) = some 1 := by kernel_rfl
theorem infSl : (Tryd.prog.info? 22).map (·.size) = some 1 := by kernel_rfl
theorem num_le {l : List UInt8} {n : Nat} (h : l.length ≤ n) : numM l < 256 ^ n := Nat.lt_of_lt_of_le (numM_lt l) (Nat.pow_le_pow_right (by decide) h)
theorem Cutr.nil {w w' : World} {g n c : Nat} {A : Option Addr} {s : Cst} (h : Cutr w g A n c s) (k : Kept Nil w w') : Cutr w' g A n c s := h.kept k (fun hf => hf) (fun _ _ hf => hf)
theorem one_at (l : List UInt8) (k : Nat) (h : k < l.length) : numM ((l.drop k).take 1) = (l.getD k 0).toNat := by
  rw [List.drop_eq_getElem_cons h, List.take_succ_cons, List.take_zero, List.getD_eq_getElem?_getD, List.getElem?_eq_getElem h]
  simp [numM]
theorem and_15 (k : Nat) (h : k < 256) : bits .and .u8 (k : Int) 15 = ((k % 16 : Nat) : Int) := by
  have := u8_and_nat k 15 h (by omega)
  rw [show k &&& 15 = k % 16 from Nat.and_two_pow_sub_one_eq_mod k 4] at this
  exact this

/-- What the calls take. -/
theorem tchain (b : List UInt8) {s1 s2 s3 s4 s5 s6 s7 s8 s9 : Cst} {x1 x2 x3 x4 x5 x6 x7 x8 x9 : Nat} (h1 : (takeM ⟨b, 0, 0⟩ 2).2 = s1 ∧ numM (takeM ⟨b, 0, 0⟩ 2).1 = x1) (h2 : (takeM s1 2).2 = s2 ∧ numM (takeM s1 2).1 = x2) (h3 : (takeM s2 4).2 = s3 ∧ numM (takeM s2 4).1 = x3) (h4 : (takeM s3 4).2 = s4 ∧ numM (takeM s3 4).1 = x4) (h5 : (takeM s4 1).2 = s5 ∧ numM (takeM s4 1).1 = x5) (h6 : (takeM s5 1).2 = s6 ∧ numM (takeM s5 1).1 = x6) (h7 : (takeM s6 2).2 = s7 ∧ numM (takeM s6 2).1 = x7) (h8 : (takeM s7 2).2 = s8 ∧ numM (takeM s7 2).1 = x8) (h9 : (takeM s8 2).2 = s9 ∧ numM (takeM s8 2).1 = x9) :
    (20 ≤ b.length ∧ s9 = ⟨b, 20, 0⟩ ∧ x1 = numM ((b.drop 0).take 2) ∧ x2 = numM ((b.drop 2).take 2) ∧ x3 = numM ((b.drop 4).take 4) ∧ x4 = numM ((b.drop 8).take 4) ∧ x5 = numM ((b.drop 12).take 1) ∧ x6 = numM ((b.drop 13).take 1) ∧ x7 = numM ((b.drop 14).take 2) ∧ x8 = numM ((b.drop 16).take 2) ∧ x9 = numM ((b.drop 18).take 2)) ∨ (b.length < 20 ∧ s9.er = 4) := by
  rcases Nat.lt_or_ge b.length 20 with hb | hb
  · refine .inr ⟨hb, ?_⟩
    have k0 := took_start b
    have k1 := k0.next 2
    rw [show (takeM ⟨b, 0, 0⟩ ((2 : Nat) : Int)).2 = s1 from h1.1] at k1
    have k2 := k1.next 2
    rw [show (takeM s1 ((2 : Nat) : Int)).2 = s2 from h2.1] at k2
    have k3 := k2.next 4
    rw [show (takeM s2 ((4 : Nat) : Int)).2 = s3 from h3.1] at k3
    have k4 := k3.next 4
    rw [show (takeM s3 ((4 : Nat) : Int)).2 = s4 from h4.1] at k4
    have k5 := k4.next 1
    rw [show (takeM s4 ((1 : Nat) : Int)).2 = s5 from h5.1] at k5
    have k6 := k5.next 1
    rw [show (takeM s5 ((1 : Nat) : Int)).2 = s6 from h6.1] at k6
    have k7 := k6.next 2
    rw [show (takeM s6 ((2 : Nat) : Int)).2 = s7 from h7.1] at k7
    have k8 := k7.next 2
    rw [show (takeM s7 ((2 : Nat) : Int)).2 = s8 from h8.1] at k8
    have k9 := k8.next 2
    rw [show (takeM s8 ((2 : Nat) : Int)).2 = s9 from h9.1] at k9
    exact k9.done (by omega)
  · refine .inl ?_
    have e1 : takeM ⟨b, 0, 0⟩ 2 = _ := takeM_ok b (0) 2 (by omega)
    obtain ⟨h1, y1⟩ := h1
    rw [e1] at h1 y1
    subst h1
    have e2 : takeM ⟨b, 0 + 2, 0⟩ 2 = _ := takeM_ok b (0 + 2) 2 (by omega)
    obtain ⟨h2, y2⟩ := h2
    rw [e2] at h2 y2
    subst h2
    have e3 : takeM ⟨b, 0 + 2 + 2, 0⟩ 4 = _ := takeM_ok b (0 + 2 + 2) 4 (by omega)
    obtain ⟨h3, y3⟩ := h3
    rw [e3] at h3 y3
    subst h3
    have e4 : takeM ⟨b, 0 + 2 + 2 + 4, 0⟩ 4 = _ := takeM_ok b (0 + 2 + 2 + 4) 4 (by omega)
    obtain ⟨h4, y4⟩ := h4
    rw [e4] at h4 y4
    subst h4
    have e5 : takeM ⟨b, 0 + 2 + 2 + 4 + 4, 0⟩ 1 = _ := takeM_ok b (0 + 2 + 2 + 4 + 4) 1 (by omega)
    obtain ⟨h5, y5⟩ := h5
    rw [e5] at h5 y5
    subst h5
    have e6 : takeM ⟨b, 0 + 2 + 2 + 4 + 4 + 1, 0⟩ 1 = _ := takeM_ok b (0 + 2 + 2 + 4 + 4 + 1) 1 (by omega)
    obtain ⟨h6, y6⟩ := h6
    rw [e6] at h6 y6
    subst h6
    have e7 : takeM ⟨b, 0 + 2 + 2 + 4 + 4 + 1 + 1, 0⟩ 2 = _ := takeM_ok b (0 + 2 + 2 + 4 + 4 + 1 + 1) 2 (by omega)
    obtain ⟨h7, y7⟩ := h7
    rw [e7] at h7 y7
    subst h7
    have e8 : takeM ⟨b, 0 + 2 + 2 + 4 + 4 + 1 + 1 + 2, 0⟩ 2 = _ := takeM_ok b (0 + 2 + 2 + 4 + 4 + 1 + 1 + 2) 2 (by omega)
    obtain ⟨h8, y8⟩ := h8
    rw [e8] at h8 y8
    subst h8
    have e9 : takeM ⟨b, 0 + 2 + 2 + 4 + 4 + 1 + 1 + 2 + 2, 0⟩ 2 = _ := takeM_ok b (0 + 2 + 2 + 4 + 4 + 1 + 1 + 2 + 2) 2 (by omega)
    obtain ⟨h9, y9⟩ := h9
    rw [e9] at h9 y9
    subst h9
    exact ⟨hb, rfl, y1.symm, y2.symm, y3.symm, y4.symm, y5.symm, y6.symm, y7.symm, y8.symm, y9.symm⟩
/-- What the calls take. -/
theorem uchain (b : List UInt8) {s1 s2 s3 s4 : Cst} {x1 x2 x3 x4 : Nat} (h1 : (takeM ⟨b, 0, 0⟩ 2).2 = s1 ∧ numM (takeM ⟨b, 0, 0⟩ 2).1 = x1) (h2 : (takeM s1 2).2 = s2 ∧ numM (takeM s1 2).1 = x2) (h3 : (takeM s2 2).2 = s3 ∧ numM (takeM s2 2).1 = x3) (h4 : (takeM s3 2).2 = s4 ∧ numM (takeM s3 2).1 = x4) :
    (8 ≤ b.length ∧ s4 = ⟨b, 8, 0⟩ ∧ x1 = numM ((b.drop 0).take 2) ∧ x2 = numM ((b.drop 2).take 2) ∧ x3 = numM ((b.drop 4).take 2) ∧ x4 = numM ((b.drop 6).take 2)) ∨ (b.length < 8 ∧ s4.er = 4) := by
  rcases Nat.lt_or_ge b.length 8 with hb | hb
  · refine .inr ⟨hb, ?_⟩
    have k0 := took_start b
    have k1 := k0.next 2
    rw [show (takeM ⟨b, 0, 0⟩ ((2 : Nat) : Int)).2 = s1 from h1.1] at k1
    have k2 := k1.next 2
    rw [show (takeM s1 ((2 : Nat) : Int)).2 = s2 from h2.1] at k2
    have k3 := k2.next 2
    rw [show (takeM s2 ((2 : Nat) : Int)).2 = s3 from h3.1] at k3
    have k4 := k3.next 2
    rw [show (takeM s3 ((2 : Nat) : Int)).2 = s4 from h4.1] at k4
    exact k4.done (by omega)
  · refine .inl ?_
    have e1 : takeM ⟨b, 0, 0⟩ 2 = _ := takeM_ok b (0) 2 (by omega)
    obtain ⟨h1, y1⟩ := h1
    rw [e1] at h1 y1
    subst h1
    have e2 : takeM ⟨b, 0 + 2, 0⟩ 2 = _ := takeM_ok b (0 + 2) 2 (by omega)
    obtain ⟨h2, y2⟩ := h2
    rw [e2] at h2 y2
    subst h2
    have e3 : takeM ⟨b, 0 + 2 + 2, 0⟩ 2 = _ := takeM_ok b (0 + 2 + 2) 2 (by omega)
    obtain ⟨h3, y3⟩ := h3
    rw [e3] at h3 y3
    subst h3
    have e4 : takeM ⟨b, 0 + 2 + 2 + 2, 0⟩ 2 = _ := takeM_ok b (0 + 2 + 2 + 2) 2 (by omega)
    obtain ⟨h4, y4⟩ := h4
    rw [e4] at h4 y4
    subst h4
    exact ⟨hb, rfl, y1.symm, y2.symm, y3.symm, y4.symm⟩
theorem sub_at (l : List UInt8) (m k j : Nat) (h : k + j ≤ m) : ((l.take m).drop k).take j = (l.drop k).take j := by rw [List.drop_take, List.take_take, Nat.min_eq_left (by omega)]
/-- What is told where all is there; what is told else. -/
theorem tgot_of (l L : List UInt8) (n m0 : Nat) {x1 x2 x3 x4 x5 x6 x7 x8 x9 q N : Nat} (hl : l.length = n) (hL : l.take m0 = L) (hm : m0 = min 60 n) (hb : 20 ≤ m0) (e : x1 = numM ((L.drop 0).take 2) ∧ x2 = numM ((L.drop 2).take 2) ∧ x3 = numM ((L.drop 4).take 4) ∧ x4 = numM ((L.drop 8).take 4) ∧ x5 = numM ((L.drop 12).take 1) ∧ x6 = numM ((L.drop 13).take 1) ∧ x7 = numM ((L.drop 14).take 2) ∧ x8 = numM ((L.drop 16).take 2) ∧ x9 = numM ((L.drop 18).take 2)) (hq : x5 / 16 = q) (hN : 4 * q = N) :
    (N < 20 → getT l = (Tc.zero, 5)) ∧ (20 ≤ N → n < N → getT l = (Tc.zero, 4)) ∧ (20 ≤ N → N ≤ n → getT l = (⟨x1, x2, x3, x4, x5 % 16, x6, x7, x8, x9, (L.drop 20).take (N - 20), l.drop N⟩, 0)) := by
  subst hL
  obtain ⟨e1, e2, e3, e4, e5, e6, e7, e8, e9⟩ := e
  rw [sub_at l m0 0 2 (by omega), List.drop_zero] at e1
  rw [sub_at l m0 2 2 (by omega)] at e2
  rw [sub_at l m0 4 4 (by omega)] at e3
  rw [sub_at l m0 8 4 (by omega)] at e4
  rw [sub_at l m0 12 1 (by omega), one_at l 12 (by omega)] at e5
  rw [sub_at l m0 13 1 (by omega), one_at l 13 (by omega)] at e6
  rw [sub_at l m0 14 2 (by omega)] at e7
  rw [sub_at l m0 16 2 (by omega)] at e8
  rw [sub_at l m0 18 2 (by omega)] at e9
  have hx5 : x5 < 256 := by rw [e5]; exact UInt8.toNat_lt _
  have hn : tcN l = N := by unfold tcN; rw [← e5]; omega
  refine ⟨fun h => ?_, fun h h2 => ?_, fun h h2 => ?_⟩
  · unfold getT
    rw [if_neg (by omega), hn, if_pos h]
  · unfold getT
    rw [if_neg (by omega), hn, if_neg (by omega), if_pos (by omega)]
  · unfold getT
    rw [if_neg (by omega), hn, if_neg (by omega), if_neg (by omega), sub_at l m0 20 (N - 20) (by omega)]
    unfold tcOf
    rw [hn, List.drop_take, ← e1, ← e2, ← e3, ← e4, ← e5, ← e6, ← e7, ← e8, ← e9]
theorem tgot_short (l L : List UInt8) (n m0 : Nat) (hl : l.length = n) (hL : l.take m0 = L) (hm : m0 = min 60 n) (hb : L.length < 20) : getT l = (Tc.zero, 4) := by
  subst hL
  rw [List.length_take] at hb
  unfold getT
  rw [if_pos (by omega)]
theorem tgot_zero {w w' : World} {er : Int} {r : Tc × Int} (hr : r = (Tc.zero, er)) (hk : Kept Nil w w') : TGot w (.returned (.tuple #[.agg (tcs Tc.zero none 0 0 none 0 0).toArray, .int .i64 er])) w' r := by
  subst hr
  exact ⟨none, 0, 0, none, 0, 0, rfl, newB_none _ _, newB_none _ _, hk⟩
set_option maxRecDepth 100000 in
set_option maxHeartbeats 16000000 in
theorem tget_yes (A : Option Addr) (n c : Nat) (l : List UInt8) (w : World) (h : Byt w A n c l) (hn : n ≤ 1099511627776) : Calls Tryd.prog 10 #[.slice A n c] w fun e w' => TGot w e w' (getT l) := by
  have hnc := h.2.1
  have hcc := h.2.2.1
  obtain ⟨m0, hm, hmn, hm1, hm2, hm3⟩ := min60 n
  have hsl := run_cut_hi (P := Tryd.prog) Tryd.underlying22 inf5.1 A n c m0 (m0 : Int) rfl (by omega)
  have HLN := Lib.hid h.1
  have HBL := Lib.hid h
  have HBY := Lib.hid (h.pre hm1)
  have hll : (l.take m0).length = m0 := by rw [List.length_take, h.1]; omega
  obtain ⟨L, hL⟩ : ∃ L, l.take m0 = L := ⟨_, rfl⟩
  rw [hL] at HBY hll
  have HL0 := Lib.hid hL
  have HLL := Lib.hid hll
  have HM := Lib.hid (And.intro hm2 (And.intro hm3 (show m0 ≤ c by omega)))
  have HZ0 := Lib.hid (TB.new w 29 Tc.zero none 0 0 none 0 0)
  have HK0 := Lib.hid ((Kept.refl Nil w).alloc (.cells (tcs Tc.zero none 0 0 none 0 0).toArray 29))
  have HS0 := Lib.hid (show (w.alloc (.cells (tcs Tc.zero none 0 0 none 0 0).toArray 29)).heap.size = w.heap.size + 1 by simp)
  clear h hm3 hL hll hm1
  go_enter Tryd.func10, Tryd.ntmps10
  go_wp2_with (fail)
  refine (new_yes A m0 c L _ (HBY.out.kept HK0.out (fun _ _ hf => hf)) (by have := HM.out.1; omega)).mono ?_
  rintro e w1 ⟨g, A', c', rfl, hc, hk, hg, hl⟩
  obtain ⟨gz, hgz⟩ : ∃ gz, w.heap.size = gz := ⟨_, rfl⟩
  have HC0 := Lib.hid hc
  have HZa := Lib.hid (HZ0.out.kept hk (fun hf => hf))
  have HKa := Lib.hid (HK0.out.then hk)
  have HG := Lib.hid (show w.heap.size ≤ g ∧ gz < g by have := HS0.out; omega)
  have HLZ := Lib.hid (show w.heap.size ≤ gz ∧ gz < g by have := HS0.out; omega)
  have HA := Lib.hid (show ∀ i, Lies A' m0 i → gz < i ∧ i < w1.heap.size from fun i hi => by have := HS0.out; have := hl i hi; have := hc.byt.lt i hi; omega)
  have HGL0 := Lib.hid hc.blo.lt
  rw [hgz] at HZa ⊢
  clear hc hk hg hl HZ0 HK0 HS0 hsl hm hmn hgz
  have HZ0 := HZa
  have HK0 := HKa
  clear HZa HKa
  go_wp2_with (fail)
  refine (Two_yes _ _ _ _ _ _ HC0.out).mono ?_
  rintro e w2 ⟨rfl, hc, hk⟩
  obtain ⟨s1, h1⟩ : ∃ s, (takeM ⟨L, 0, 0⟩ 2).2 = s := ⟨_, rfl⟩
  obtain ⟨x1, h2⟩ : ∃ x, numM (takeM ⟨L, 0, 0⟩ 2).1 = x := ⟨_, rfl⟩
  have HX1 := Lib.hid (show x1 < 65536 by rw [← h2]; exact num_le (n := 2) (takeM_len2 _ 2))
  rw [h1] at hc
  rw [h2]
  have HC1 := Lib.hid hc
  have HZ1 := Lib.hid (HZ0.out.kept hk (fun hf => by have := HG.out; have := HLZ.out; cases hf; omega))
  have HK1 := Lib.hid (HK0.out.fresh hk (fun i hi => by cases hi; have := HG.out; omega))
  have HH1 := Lib.hid (And.intro h1 h2)
  clear hc hk h1 h2 HC0 HZ0 HK0
  go_wp2_with (fail)
  refine (Two_yes _ _ _ _ _ _ HC1.out).mono ?_
  rintro e w3 ⟨rfl, hc, hk⟩
  obtain ⟨s2, h1⟩ : ∃ s, (takeM s1 2).2 = s := ⟨_, rfl⟩
  obtain ⟨x2, h2⟩ : ∃ x, numM (takeM s1 2).1 = x := ⟨_, rfl⟩
  have HX2 := Lib.hid (show x2 < 65536 by rw [← h2]; exact num_le (n := 2) (takeM_len2 _ 2))
  rw [h1] at hc
  rw [h2]
  have HC2 := Lib.hid hc
  have HZ2 := Lib.hid (HZ1.out.kept hk (fun hf => by have := HG.out; have := HLZ.out; cases hf; omega))
  have HK2 := Lib.hid (HK1.out.fresh hk (fun i hi => by cases hi; have := HG.out; omega))
  have HH2 := Lib.hid (And.intro h1 h2)
  clear hc hk h1 h2 HC1 HZ1 HK1
  go_wp2_with (fail)
  refine (Four_yes _ _ _ _ _ _ HC2.out).mono ?_
  rintro e w4 ⟨rfl, hc, hk⟩
  obtain ⟨s3, h1⟩ : ∃ s, (takeM s2 4).2 = s := ⟨_, rfl⟩
  obtain ⟨x3, h2⟩ : ∃ x, numM (takeM s2 4).1 = x := ⟨_, rfl⟩
  have HX3 := Lib.hid (show x3 < 4294967296 by rw [← h2]; exact num_le (n := 4) (takeM_len2 _ 4))
  rw [h1] at hc
  rw [h2]
  have HC3 := Lib.hid hc
  have HZ3 := Lib.hid (HZ2.out.kept hk (fun hf => by have := HG.out; have := HLZ.out; cases hf; omega))
  have HK3 := Lib.hid (HK2.out.fresh hk (fun i hi => by cases hi; have := HG.out; omega))
  have HH3 := Lib.hid (And.intro h1 h2)
  clear hc hk h1 h2 HC2 HZ2 HK2
  go_wp2_with (fail)
  refine (Four_yes _ _ _ _ _ _ HC3.out).mono ?_
  rintro e w5 ⟨rfl, hc, hk⟩
  obtain ⟨s4, h1⟩ : ∃ s, (takeM s3 4).2 = s := ⟨_, rfl⟩
  obtain ⟨x4, h2⟩ : ∃ x, numM (takeM s3 4).1 = x := ⟨_, rfl⟩
  have HX4 := Lib.hid (show x4 < 4294967296 by rw [← h2]; exact num_le (n := 4) (takeM_len2 _ 4))
  rw [h1] at hc
  rw [h2]
  have HC4 := Lib.hid hc
  have HZ4 := Lib.hid (HZ3.out.kept hk (fun hf => by have := HG.out; have := HLZ.out; cases hf; omega))
  have HK4 := Lib.hid (HK3.out.fresh hk (fun i hi => by cases hi; have := HG.out; omega))
  have HH4 := Lib.hid (And.intro h1 h2)
  clear hc hk h1 h2 HC3 HZ3 HK3
  have HN4 := Lib.hid (TB.new w5 29 Tc.zero none 0 0 none 0 0)
  have HGC := Lib.hid HC4.out.blo.lt
  go_upto_region 3 with (first
    | (refine wpList_st rfl _ (.tmp 5) _ rfl _ 0 rfl (tcs ⟨x1, x2, x3, x4, 0, 0, 0, 0, 0, [], []⟩ none 0 0 none 0 0) _ rfl rfl (infTc _ _ _ _ _ _ _) 29 _ HN4.out (by show 0 + 11 ≤ 11; omega) (tcs_one _ _ _ _ _ _ _) ?_; intro v5 hb hk hz; simp only [Act.put])
    | fail)
  have hk2 := ((Kept.refl Nil w5).alloc (.cells (tcs Tc.zero none 0 0 none 0 0).toArray 29)).fresh hk (fun i hi => by cases hi; exact Nat.le_refl _)
  have HT4 := Lib.hid (show TB v5 w5.heap.size 29 ⟨x1, x2, x3, x4, 0, 0, 0, 0, 0, [], []⟩ none 0 0 none 0 0 from hb)
  have HZ5 := Lib.hid (HZ4.out.kept hk2 (fun hf => hf))
  have HC5 := Lib.hid (HC4.out.nil hk2)
  have HK5 := Lib.hid (HK4.out.then hk2)
  obtain ⟨gt, hgt⟩ : ∃ gt, w5.heap.size = gt := ⟨_, rfl⟩
  have HLT := Lib.hid (show w.heap.size ≤ gt ∧ g < gt ∧ gz < gt by have := HGC.out; have := HG.out; omega)
  have HAT := Lib.hid (show ∀ i, Lies A' m0 i → i < gt from fun i hi => by have := (HA.out i hi).2; have := HC4.out.byt.lt i hi; omega)
  rw [hgt] at HT4 ⊢
  have HZ4' := HZ5
  have HC4' := HC5
  have HK4' := HK5
  clear hb hk hz hk2 hgt HZ4 HC4 HK4 HN4 HGC HZ5 HC5 HK5
  have HZ4 := HZ4'
  have HC4 := HC4'
  have HK4 := HK4'
  clear HZ4' HC4' HK4'
  go_wp2_with (fail)
  refine (Byte_yes _ _ _ _ _ _ HC4.out).mono ?_
  rintro e w6 ⟨rfl, hc, hk⟩
  obtain ⟨s5, h1⟩ : ∃ s, (takeM s4 1).2 = s := ⟨_, rfl⟩
  obtain ⟨x5, h2⟩ : ∃ x, numM (takeM s4 1).1 = x := ⟨_, rfl⟩
  have HX5 := Lib.hid (show x5 < 256 by rw [← h2]; exact num_le (n := 1) (takeM_len2 _ 1))
  rw [h1] at hc
  rw [h2]
  have HC5 := Lib.hid hc
  have HZ5 := Lib.hid (HZ4.out.kept hk (fun hf => by have := HG.out; have := HLZ.out; cases hf; omega))
  have HT5 := Lib.hid (HT4.out.kept hk (fun hf => by have := HG.out; have := HLT.out; cases hf; omega))
  have HK5 := Lib.hid (HK4.out.fresh hk (fun i hi => by cases hi; have := HG.out; omega))
  have HH5 := Lib.hid (And.intro h1 h2)
  clear hc hk h1 h2 HC4 HZ4 HT4 HK4
  go_wp2_with (fail)
  refine (Byte_yes _ _ _ _ _ _ HC5.out).mono ?_
  rintro e w7 ⟨rfl, hc, hk⟩
  obtain ⟨s6, h1⟩ : ∃ s, (takeM s5 1).2 = s := ⟨_, rfl⟩
  obtain ⟨x6, h2⟩ : ∃ x, numM (takeM s5 1).1 = x := ⟨_, rfl⟩
  have HX6 := Lib.hid (show x6 < 256 by rw [← h2]; exact num_le (n := 1) (takeM_len2 _ 1))
  rw [h1] at hc
  rw [h2]
  have HC6 := Lib.hid hc
  have HZ6 := Lib.hid (HZ5.out.kept hk (fun hf => by have := HG.out; have := HLZ.out; cases hf; omega))
  have HT6 := Lib.hid (HT5.out.kept hk (fun hf => by have := HG.out; have := HLT.out; cases hf; omega))
  have HK6 := Lib.hid (HK5.out.fresh hk (fun i hi => by cases hi; have := HG.out; omega))
  have HH6 := Lib.hid (And.intro h1 h2)
  clear hc hk h1 h2 HC5 HZ5 HT5 HK5
  go_upto_region 5 with (first
    | (refine wpList_st rfl _ _ _ rfl gt 5 rfl [.int .u8 (x6 : Int)] _ rfl rfl sz5 29 _ HT6.out (by rw [tcs_len, List.length_singleton]; omega) (by intro u hu; simp at hu; subst hu; rfl) ?_; intro v7 hb hk hz; simp only [Act.put])
    | fail)
  have HT6' := Lib.hid (show TB v7 gt 29 ⟨x1, x2, x3, x4, 0, x6, 0, 0, 0, [], []⟩ none 0 0 none 0 0 from hb)
  have HZ6' := Lib.hid (HZ6.out.kept hk (fun hf => by have := HLT.out; cases hf; omega))
  have HC6' := Lib.hid (HC6.out.kept hk (fun hf => by have := HLT.out; cases hf; omega) (fun i hi hf => by have := HAT.out i hi; cases hf; omega))
  have HK6' := Lib.hid (HK6.out.fresh hk (fun i hi => by cases hi; exact HLT.out.1))
  clear hb hk hz HT6 HZ6 HC6 HK6
  have HT6 := HT6'
  have HZ6 := HZ6'
  have HC6 := HC6'
  have HK6 := HK6'
  clear HT6' HZ6' HC6' HK6'
  go_wp2_with (fail)
  refine (Two_yes _ _ _ _ _ _ HC6.out).mono ?_
  rintro e w8 ⟨rfl, hc, hk⟩
  obtain ⟨s7, h1⟩ : ∃ s, (takeM s6 2).2 = s := ⟨_, rfl⟩
  obtain ⟨x7, h2⟩ : ∃ x, numM (takeM s6 2).1 = x := ⟨_, rfl⟩
  have HX7 := Lib.hid (show x7 < 65536 by rw [← h2]; exact num_le (n := 2) (takeM_len2 _ 2))
  rw [h1] at hc
  rw [h2]
  have HC7 := Lib.hid hc
  have HZ7 := Lib.hid (HZ6.out.kept hk (fun hf => by have := HG.out; have := HLZ.out; cases hf; omega))
  have HT7 := Lib.hid (HT6.out.kept hk (fun hf => by have := HG.out; have := HLT.out; cases hf; omega))
  have HK7 := Lib.hid (HK6.out.fresh hk (fun i hi => by cases hi; have := HG.out; omega))
  have HH7 := Lib.hid (And.intro h1 h2)
  clear hc hk h1 h2 HC6 HZ6 HT6 HK6
  go_wp2_with (fail)
  refine (Two_yes _ _ _ _ _ _ HC7.out).mono ?_
  rintro e w9 ⟨rfl, hc, hk⟩
  obtain ⟨s8, h1⟩ : ∃ s, (takeM s7 2).2 = s := ⟨_, rfl⟩
  obtain ⟨x8, h2⟩ : ∃ x, numM (takeM s7 2).1 = x := ⟨_, rfl⟩
  have HX8 := Lib.hid (show x8 < 65536 by rw [← h2]; exact num_le (n := 2) (takeM_len2 _ 2))
  rw [h1] at hc
  rw [h2]
  have HC8 := Lib.hid hc
  have HZ8 := Lib.hid (HZ7.out.kept hk (fun hf => by have := HG.out; have := HLZ.out; cases hf; omega))
  have HT8 := Lib.hid (HT7.out.kept hk (fun hf => by have := HG.out; have := HLT.out; cases hf; omega))
  have HK8 := Lib.hid (HK7.out.fresh hk (fun i hi => by cases hi; have := HG.out; omega))
  have HH8 := Lib.hid (And.intro h1 h2)
  clear hc hk h1 h2 HC7 HZ7 HT7 HK7
  go_wp2_with (fail)
  refine (Two_yes _ _ _ _ _ _ HC8.out).mono ?_
  rintro e w10 ⟨rfl, hc, hk⟩
  obtain ⟨s9, h1⟩ : ∃ s, (takeM s8 2).2 = s := ⟨_, rfl⟩
  obtain ⟨x9, h2⟩ : ∃ x, numM (takeM s8 2).1 = x := ⟨_, rfl⟩
  have HX9 := Lib.hid (show x9 < 65536 by rw [← h2]; exact num_le (n := 2) (takeM_len2 _ 2))
  rw [h1] at hc
  rw [h2]
  have HC9 := Lib.hid hc
  have HZ9 := Lib.hid (HZ8.out.kept hk (fun hf => by have := HG.out; have := HLZ.out; cases hf; omega))
  have HT9 := Lib.hid (HT8.out.kept hk (fun hf => by have := HG.out; have := HLT.out; cases hf; omega))
  have HK9 := Lib.hid (HK8.out.fresh hk (fun i hi => by cases hi; have := HG.out; omega))
  have HH9 := Lib.hid (And.intro h1 h2)
  clear hc hk h1 h2 HC8 HZ8 HT8 HK8
  go_upto_region 6 with (first
    | (refine wpList_st rfl _ _ _ rfl gt 6 rfl [.int .u16 (x7 : Int)] _ rfl rfl inf16 29 _ HT9.out (by rw [tcs_len, List.length_singleton]; omega) (by intro u hu; simp at hu; subst hu; rfl) ?_; intro v8 hb hk hz; simp only [Act.put]; have HTa := Lib.hid (show TB v8 gt 29 ⟨x1, x2, x3, x4, 0, x6, x7, 0, 0, [], []⟩ none 0 0 none 0 0 from hb); have HZ9 := Lib.hid (HZ9.out.kept hk (fun hf => by have := HLT.out; cases hf; omega)); have HC9 := Lib.hid (HC9.out.kept hk (fun hf => by have := HLT.out; cases hf; omega) (fun i hi hf => by have := HAT.out i hi; cases hf; omega)); have HK9 := Lib.hid (HK9.out.fresh hk (fun i hi => by cases hi; exact HLT.out.1)); clear hb hk hz)
    | (refine wpList_st rfl _ _ _ rfl gt 7 rfl [.int .u16 (x8 : Int)] _ rfl rfl inf16 29 _ HTa.out (by rw [tcs_len, List.length_singleton]; omega) (by intro u hu; simp at hu; subst hu; rfl) ?_; intro v9 hb hk hz; simp only [Act.put]; have HTb := Lib.hid (show TB v9 gt 29 ⟨x1, x2, x3, x4, 0, x6, x7, x8, 0, [], []⟩ none 0 0 none 0 0 from hb); have HZ9 := Lib.hid (HZ9.out.kept hk (fun hf => by have := HLT.out; cases hf; omega)); have HC9 := Lib.hid (HC9.out.kept hk (fun hf => by have := HLT.out; cases hf; omega) (fun i hi hf => by have := HAT.out i hi; cases hf; omega)); have HK9 := Lib.hid (HK9.out.fresh hk (fun i hi => by cases hi; exact HLT.out.1)); clear hb hk hz)
    | (refine wpList_st rfl _ _ _ rfl gt 8 rfl [.int .u16 (x9 : Int)] _ rfl rfl inf16 29 _ HTb.out (by rw [tcs_len, List.length_singleton]; omega) (by intro u hu; simp at hu; subst hu; rfl) ?_; intro v10 hb hk hz; simp only [Act.put]; have HTc := Lib.hid (show TB v10 gt 29 ⟨x1, x2, x3, x4, 0, x6, x7, x8, x9, [], []⟩ none 0 0 none 0 0 from hb); have HZ9 := Lib.hid (HZ9.out.kept hk (fun hf => by have := HLT.out; cases hf; omega)); have HC9 := Lib.hid (HC9.out.kept hk (fun hf => by have := HLT.out; cases hf; omega) (fun i hi hf => by have := HAT.out i hi; cases hf; omega)); have HK9 := Lib.hid (HK9.out.fresh hk (fun i hi => by cases hi; exact HLT.out.1)); clear hb hk hz)
    | fail)
  have HCH := Lib.hid (tchain L HH1.out HH2.out HH3.out HH4.out HH5.out HH6.out HH7.out HH8.out HH9.out)
  clear HH1 HH2 HH3 HH4 HH5 HH6 HH7 HH8 HH9
  have r0 := HC9.out.c0
  rcases HCH.out with ⟨hb, hs, hx⟩ | ⟨hb, her⟩
  · rw [hs] at HC9
    have r3 : v10.cell? ⟨g, 3, none⟩ = some (.int .i64 0) := HC9.out.c3
    have hx5 := HX5.out
    obtain ⟨q, hq⟩ : ∃ q, x5 / 16 = q := ⟨_, rfl⟩
    obtain ⟨N, hN⟩ : ∃ N, 4 * q = N := ⟨_, rfl⟩
    have HGT := Lib.hid (tgot_of l L n m0 HLN.out HL0.out HM.out.2.1 (by rw [← HLL.out]; exact hb) hx hq hN)
    have hqi : (x5 : Int) / 16 = (q : Int) := by omega
    have hNi : 4 * (q : Int) = (N : Int) := by omega
    have hq16 : q < 16 := by omega
    have hN60 : N ≤ 60 := by omega
    obtain ⟨o, hoo⟩ : ∃ o, x5 % 16 = o := ⟨_, rfl⟩
    have hand : bits .and .u8 (x5 : Int) 15 = (o : Int) := by rw [← hoo]; exact and_15 x5 hx5
    have HOO := Lib.hid hoo
    have HB20 := Lib.hid (show 20 ≤ m0 by rw [← HLL.out]; exact hb)
    clear HCH hs hx hq hN hb hoo
    by_cases h20 : N < 20
    · have h20' : (N : Int) < 20 := by omega
      go_wp2_with (first
        | (go_at_call 40; refine (err_yes g _ _ r0 r3).mono ?_; rintro e w' ⟨rfl, rfl⟩)
        | (refine wpList_st rfl _ (.tmp 2) _ rfl gz 0 rfl (tcs Tc.zero none 0 0 none 0 0) _ rfl rfl (infTc _ _ _ _ _ _ _) 29 _ HZ9.out (by show 0 + 11 ≤ 11; omega) (tcs_one _ _ _ _ _ _ _) ?_; intro w40 hb9 hk9 hz9; simp only [Act.put])
        | fail)
      have h2 : TB w40 gz 29 Tc.zero none 0 0 none 0 0 := hb9
      refine bodyPost_ret (res_cell1 Tryd.results10 rfl rfl h2.all Tryd.underlying29 rfl (infTc _ _ _ _ _ _ _)) rfl ?_
      exact tgot_zero (HGT.out.1 h20) (HK9.out.fresh hk9 (fun i hi => by cases hi; exact HLZ.out.1))
    · have h20' : ¬ (N : Int) < 20 := by omega
      obtain ⟨K, hK⟩ : ∃ K, N - 20 = K := ⟨_, rfl⟩
      have hKi : (N : Int) - 20 = (K : Int) := by omega
      have HKN := Lib.hid hK
      clear hK
      go_wp2_with (first
        | (go_at_call 40; refine (err_yes g _ _ r0 r3).mono ?_; rintro e w' ⟨rfl, rfl⟩)
        | fail)
      refine (Take_yes g A' m0 c' ⟨L, 20, 0⟩ (K : Int) _ HC9.out (by omega) (by have := HM.out.1; omega)).mono ?_
      rintro e w11 ⟨v, rfl, ho, hc, hk⟩
      dsimp only
      have HO := Lib.hid ho
      have HCt := Lib.hid hc
      have HZt := Lib.hid (HZ9.out.kept hk (fun hf => by have := HLZ.out; cases hf; omega))
      have HTt := Lib.hid (HTc.out.kept hk (fun hf => by have := HLT.out; cases hf; omega))
      have HKt := Lib.hid (HK9.out.fresh hk (fun i hi => by cases hi; exact HG.out.1))
      have HSZ := Lib.hid (show w.heap.size ≤ v10.heap.size ∧ gt < v10.heap.size from ⟨HK9.out.size, HTc.out.lt⟩)
      clear ho hc hk HC9 HZ9 HTc HK9 r0 r3
      by_cases hfit : N ≤ m0
      · have hok := takeM_ok L 20 K (by have := HLL.out; have := HKN.out; omega)
        rw [hok] at HO HCt
        obtain ⟨A1, c1, rfl, hnx⟩ := NewB.of_own (w0 := v10) HO.out (Nat.le_refl _)
        obtain ⟨X, hX⟩ : ∃ X, (L.drop 20).take K = X := ⟨_, rfl⟩
        rw [hX] at hnx ⊢
        have HGR := Lib.hid (show getT l = (⟨x1, x2, x3, x4, o, x6, x7, x8, x9, X, l.drop N⟩, 0) by rw [HGT.out.2.2 (by omega) (by have := HM.out.2.1; omega), HKN.out, hX, HOO.out])
        have HNX := Lib.hid hnx
        have HNn := Lib.hid (show N ≤ n by have := HM.out.2.1; omega)
        have hNn := HNn.out
        have hcut := run_cut_lo (P := Tryd.prog) Tryd.underlying22 inf5.1 inf5.2 A n c N (N : Int) rfl hNn
        have HBC := Lib.hid (show Byt w (cutA A c N) (n - N) (c - N) (l.drop N) by have := HBL.out.cut (lo := N) (hi := n) hNn (Nat.le_refl _); rw [List.take_of_length_le (by rw [HLN.out]; exact Nat.le_refl _)] at this; exact this)
        clear hnx hX hok HO hfit HGT
        go_upto_region 12 with (first
          | (refine wpList_st rfl _ _ _ rfl gt 4 rfl [.int .u8 (o : Int)] _ rfl rfl sz5 29 _ HTt.out (by rw [tcs_len, List.length_singleton]; omega) (by intro u hu; simp at hu; subst hu; rfl) ?_; intro v11 hb hk hz; simp only [Act.put]; have HTu := Lib.hid (show TB v11 gt 29 ⟨x1, x2, x3, x4, o, x6, x7, x8, x9, [], []⟩ none 0 0 none 0 0 from hb); have HZu := Lib.hid (HZt.out.kept hk (fun hf => by have := HLT.out; cases hf; omega)); have HCu := Lib.hid (HCt.out.kept hk (fun hf => by have := HLT.out; cases hf; omega) (fun i hi hf => by have := HAT.out i hi; cases hf; omega)); have HKu := Lib.hid (HKt.out.fresh hk (fun i hi => by cases hi; exact HLT.out.1)); have HNu := Lib.hid (HNX.out.kept hk (fun i hi hf => by have := HSZ.out.2; cases hf; omega)); clear hb hk hz)
          | (refine wpList_st rfl _ _ _ rfl gt 9 rfl [.slice A1 X.length c1] _ rfl rfl infSl 29 _ HTu.out (by rw [tcs_len, List.length_singleton]; omega) (by intro u hu; simp at hu; subst hu; rfl) ?_; intro v12 hb hk hz; simp only [Act.put]; have HTv := Lib.hid (show TB v12 gt 29 ⟨x1, x2, x3, x4, o, x6, x7, x8, x9, X, []⟩ A1 X.length c1 none 0 0 from hb); have HZv := Lib.hid (HZu.out.kept hk (fun hf => by have := HLT.out; cases hf; omega)); have HCv := Lib.hid (HCu.out.kept hk (fun hf => by have := HLT.out; cases hf; omega) (fun i hi hf => by have := HAT.out i hi; cases hf; omega)); have HKv := Lib.hid (HKu.out.fresh hk (fun i hi => by cases hi; exact HLT.out.1)); have HNv := Lib.hid (HNu.out.kept hk (fun i hi hf => by have := HSZ.out.2; cases hf; omega)); clear hb hk hz)
          | fail)
        have r0 := HCv.out.c0
        have r3 : v12.cell? ⟨g, 3, none⟩ = some (.int .i64 0) := HCv.out.c3
        clear HTt HZt HCt HKt HNX HTu HZu HCu HKu HNu
        go_wp2_with (first
          | (go_at_call 40; refine (err_yes g _ _ r0 r3).mono ?_; rintro e w' ⟨rfl, rfl⟩)
          | fail)
        refine (sclone (cutA A c N) (n - N) (c - N) (l.drop N) _ (HBC.out.kept HKv.out (fun _ _ hf => hf)) (by omega)).mono ?_
        rintro e w13 ⟨v2, rfl, hm⟩
        dsimp only
        obtain ⟨A2, c2, rfl, hnb⟩ := NewB.of_own (w0 := v12) hm.1 (Nat.le_refl _)
        obtain ⟨Y, hY⟩ : ∃ Y, l.drop N = Y := ⟨_, rfl⟩
        rw [hY] at hnb HGR ⊢
        have HNY := Lib.hid hnb
        have HTw := Lib.hid (HTv.out.kept hm.2 (fun hf => hf))
        have HZw := Lib.hid (HZv.out.kept hm.2 (fun hf => hf))
        have HKw := Lib.hid (HKv.out.then hm.2)
        have HNw := Lib.hid (HNv.out.kept hm.2 (fun _ _ hf => hf))
        have HSY := Lib.hid (show w.heap.size ≤ v12.heap.size ∧ gt < v12.heap.size ∧ gz < v12.heap.size ∧ gz < v10.heap.size from ⟨HKv.out.size, HTv.out.lt, HZv.out.lt, by have := HLT.out; have := HSZ.out; omega⟩)
        clear hm hnb hY HTv HZv HCv HKv HNv r0 r3 hcut HBC
        go_upto_region 15 with (first
          | (refine wpList_st rfl _ _ _ rfl gt 10 rfl [.slice A2 Y.length c2] _ rfl rfl infSl 29 _ HTw.out (by rw [tcs_len, List.length_singleton]; omega) (by intro u hu; simp at hu; subst hu; rfl) ?_; intro v14 hb hk hz; simp only [Act.put])
          | fail)
        have HT := Lib.hid (show TB v14 gt 29 ⟨x1, x2, x3, x4, o, x6, x7, x8, x9, X, Y⟩ A1 X.length c1 A2 Y.length c2 from hb)
        have HZ := Lib.hid (HZw.out.kept hk (fun hf => by have := HLT.out; cases hf; omega))
        have HK := Lib.hid (HKw.out.fresh hk (fun i hi => by cases hi; exact HLT.out.1))
        have HNx := Lib.hid (HNw.out.kept hk (fun i hi hf => by have := HSZ.out.2; cases hf; omega))
        have HNy := Lib.hid (HNY.out.kept hk (fun i hi hf => by have := HSY.out.2.1; cases hf; omega))
        clear hb hk hz HTw HZw HKw HNw HNY
        go_wp2_with (first
          | (refine wpList_ld rfl _ _ rfl gt 0 rfl (tcs ⟨x1, x2, x3, x4, o, x6, x7, x8, x9, X, Y⟩ A1 X.length c1 A2 Y.length c2) HT.out.all _ Tryd.underlying29 rfl (infTc _ _ _ _ _ _ _) ?_; simp only [Act.put, List.setIfInBounds_toArray, List.set_cons_succ, List.set_cons_zero])
          | (refine wpList_st rfl _ (.tmp 2) _ rfl gz 0 rfl (tcs ⟨x1, x2, x3, x4, o, x6, x7, x8, x9, X, Y⟩ A1 X.length c1 A2 Y.length c2) _ rfl rfl (infTc _ _ _ _ _ _ _) 29 _ HZ.out (by show 0 + 11 ≤ 11; omega) (tcs_one _ _ _ _ _ _ _) ?_; intro v15 hb9 hk9 hz9; simp only [Act.put])
          | fail)
        have h2 : TB v15 gz 29 ⟨x1, x2, x3, x4, o, x6, x7, x8, x9, X, Y⟩ A1 X.length c1 A2 Y.length c2 := hb9
        refine bodyPost_ret (res_cell1 Tryd.results10 rfl rfl h2.all Tryd.underlying29 rfl (infTc _ _ _ _ _ _ _)) rfl ?_
        rw [HGR.out]
        exact ⟨A1, _, c1, A2, _, c2, rfl, (HNx.out.kept hk9 (fun i hi hf => by have := HSY.out.2.2.2; cases hf; omega)).older HSZ.out.1, (HNy.out.kept hk9 (fun i hi hf => by have := HSY.out.2.2.1; cases hf; omega)).older HSY.out.1, HK.out.fresh hk9 (fun i hi => by cases hi; exact HLZ.out.1)⟩
      · have hno := takeM_short L 20 K (by rw [HLL.out]; exact HB20.out) (by have := HLL.out; have := HKN.out; omega)
        rw [hno] at HO HCt
        obtain ⟨A1, c1, rfl, hnx⟩ := NewB.of_own (w0 := v10) HO.out (Nat.le_refl _)
        have HGR := Lib.hid (show getT l = (Tc.zero, 4) from HGT.out.2.1 (by omega) (by have := HM.out.2.1; omega))
        simp only [hno]
        clear hnx hno HO hfit HGT
        go_upto_region 12 with (first
          | (refine wpList_st rfl _ _ _ rfl gt 4 rfl [.int .u8 (o : Int)] _ rfl rfl sz5 29 _ HTt.out (by rw [tcs_len, List.length_singleton]; omega) (by intro u hu; simp at hu; subst hu; rfl) ?_; intro v11 hb hk hz; simp only [Act.put]; have HTu := Lib.hid (show TB v11 gt 29 ⟨x1, x2, x3, x4, o, x6, x7, x8, x9, [], []⟩ none 0 0 none 0 0 from hb); have HZu := Lib.hid (HZt.out.kept hk (fun hf => by have := HLT.out; cases hf; omega)); have HCu := Lib.hid (HCt.out.kept hk (fun hf => by have := HLT.out; cases hf; omega) (fun i hi hf => by have := HAT.out i hi; cases hf; omega)); have HKu := Lib.hid (HKt.out.fresh hk (fun i hi => by cases hi; exact HLT.out.1)); clear hb hk hz)
          | (refine wpList_st rfl _ _ _ rfl gt 9 rfl [.slice A1 ([] : List UInt8).length c1] _ rfl rfl infSl 29 _ HTu.out (by rw [tcs_len, List.length_singleton]; omega) (by intro u hu; simp at hu; subst hu; rfl) ?_; intro v12 hb hk hz; simp only [Act.put]; have HZv := Lib.hid (HZu.out.kept hk (fun hf => by have := HLT.out; cases hf; omega)); have HCv := Lib.hid (HCu.out.kept hk (fun hf => by have := HLT.out; cases hf; omega) (fun i hi hf => by have := HAT.out i hi; cases hf; omega)); have HKv := Lib.hid (HKu.out.fresh hk (fun i hi => by cases hi; exact HLT.out.1)); clear hb hk hz)
          | fail)
        have r0 := HCv.out.c0
        have r3 : v12.cell? ⟨g, 3, none⟩ = some (.int .i64 4) := HCv.out.c3
        clear HTt HZt HCt HKt HTu HZu HCu HKu
        go_wp2_with (first
          | (go_at_call 40; refine (err_yes g _ _ r0 r3).mono ?_; rintro e w' ⟨rfl, rfl⟩)
          | (refine wpList_st rfl _ (.tmp 2) _ rfl gz 0 rfl (tcs Tc.zero none 0 0 none 0 0) _ rfl rfl (infTc _ _ _ _ _ _ _) 29 _ HZv.out (by show 0 + 11 ≤ 11; omega) (tcs_one _ _ _ _ _ _ _) ?_; intro w40 hb9 hk9 hz9; simp only [Act.put])
          | fail)
        have h2 : TB w40 gz 29 Tc.zero none 0 0 none 0 0 := hb9
        refine bodyPost_ret (res_cell1 Tryd.results10 rfl rfl h2.all Tryd.underlying29 rfl (infTc _ _ _ _ _ _ _)) rfl ?_
        exact tgot_zero HGR.out (HKv.out.fresh hk9 (fun i hi => by cases hi; exact HLZ.out.1))
  · have r3 := HC9.out.c3
    rw [her] at r3
    have HGR := Lib.hid (tgot_short l L n m0 HLN.out HL0.out HM.out.2.1 hb)
    clear HCH her hb
    go_wp2_with (first
      | (go_at_call 40; refine (err_yes g _ _ r0 r3).mono ?_; rintro e w' ⟨rfl, rfl⟩)
      | (refine wpList_st rfl _ (.tmp 2) _ rfl gz 0 rfl (tcs Tc.zero none 0 0 none 0 0) _ rfl rfl (infTc _ _ _ _ _ _ _) 29 _ HZ9.out (by show 0 + 11 ≤ 11; omega) (tcs_one _ _ _ _ _ _ _) ?_; intro w40 hb9 hk9 hz9; simp only [Act.put])
      | fail)
    have h2 : TB w40 gz 29 Tc.zero none 0 0 none 0 0 := hb9
    refine bodyPost_ret (res_cell1 Tryd.results10 rfl rfl h2.all Tryd.underlying29 rfl (infTc _ _ _ _ _ _ _)) rfl ?_
    exact tgot_zero HGR.out (HK9.out.fresh hk9 (fun i hi => by cases hi; exact HLZ.out.1))

end Go.Proofs.YthjbabkmjmfmjaaDoor
