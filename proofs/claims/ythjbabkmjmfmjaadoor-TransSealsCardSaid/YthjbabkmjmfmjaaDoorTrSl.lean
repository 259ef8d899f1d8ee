/- tolllaw07.TransSeals: the walk. -/
import Derived.Test.YthjbabkmjmfmjaaDoorMg16
import Derived.Test.YthjbabkmjmfmjaaDoorMg17
import Derived.Test.YthjbabkmjmfmjaaDoorTrK
import Derived.Test.YthjbabkmjmfmjaaDoorMg24
import Derived.Test.YthjbabkmjmfmjaaDoorOwnB
namespace Go.Proofs.YthjbabkmjmfmjaaDoor
open Go.RowKit Go.Sort
set_option linter.unusedVariables false

theorem seal_short (s d p : Nat) (l : List UInt8) (hp : p = 6 ∨ p = 17) (h : l.length < atM p + 2) : sealM s d p l = ([], 4) := by
  have : atM p ≤ 16 := by unfold atM; split <;> omega
  unfold sealM
  rw [if_neg (by omega), if_pos h]
theorem right_sealed (s d p : Nat) (l r : List UInt8) (hs : s < 4294967296) (hd : d < 4294967296) (hp : p = 6 ∨ p = 17) (hl : l.length ≤ 65535) (h : Sealed s d p l r) : rightM s d p r = true := by
  rw [right_iff s d p r hs hd hp (by rw [h.len]; exact hl), decide_eq_true h.right, Bool.or_true]
theorem own_blk {w : World} {base m c : Nat} {A : Option Addr} {l : List UInt8} (h : w.ownsRow base 5 1 (.slice A m c) m (bys l)) (hm : 0 < m) : ∃ g cs, A = some ⟨g, 0, none⟩ ∧ base ≤ g ∧ Blo w g 5 (List.toArray cs) ∧ m ≤ cs.length ∧ cs.take m = bys l ∧ m ≤ c ∧ c ≤ 9223372036854775807 := by
  rcases h.2 with ⟨e, h0⟩ | ⟨g, cap, cur, e, hb, hg, hnc, hcap, hsz, htk⟩
  · cases e; omega
  · injection e with e1 e2 e3
    subst e3
    rw [Nat.mul_one] at htk hsz
    exact ⟨g, cur.toList, e1, hb, hg, by rw [Array.length_toList, hsz]; exact hnc, htk, hnc, by unfold maxLen at hcap; exact hcap⟩
theorem blk_byt {w : World} {g m c : Nat} {T : TypeId} {cs : List Value} {l : List UInt8} (h : Blo w g T cs.toArray) (ht : cs.take m = bys l) (hl : l.length = m) (hc : m ≤ c) (hcc : c ≤ 9223372036854775807) : Byt w (some ⟨g, 0, none⟩) m c l := by
  refine ⟨hl, hc, hcc, fun _ => ⟨g, 0, rfl, fun i hi => ?_⟩⟩
  rw [h.cell]
  have h1 : (cs.take m)[i]? = (bys l)[i]? := by rw [ht]
  rw [List.getElem?_take_of_lt (by omega)] at h1
  simp only [List.getElem?_toArray, Nat.zero_add]
  rw [h1]
  simp [bys, hi]
theorem blk_set {w : World} {g m c k : Nat} {T : TypeId} {cs : List Value} {l : List UInt8} {x : UInt8} (h : Blo w g T (cs.take k ++ [Value.int .u8 (x.toNat : Int)] ++ cs.drop (k + [Value.int .u8 (x.toNat : Int)].length)).toArray) (ht : cs.take m = bys l) (hl : l.length = m) (hk : k < m) (hm : m ≤ cs.length) (hc : m ≤ c) (hcc : c ≤ 9223372036854775807) : Byt w (some ⟨g, 0, none⟩) m c (l.set k x) := by
  have e : cs.take k ++ [Value.int .u8 (x.toNat : Int)] ++ cs.drop (k + [Value.int .u8 (x.toNat : Int)].length) = cs.set k (.int .u8 (x.toNat : Int)) := by rw [List.set_eq_take_append_cons_drop, if_pos (by omega)]; simp
  rw [e] at h
  refine blk_byt h ?_ (by rw [List.length_set]; exact hl) hc hcc
  rw [List.take_set, ht]
  simp [bys, List.map_set]
theorem xor_val (z : UInt8) (y : Nat) : bits .xor .u8 (z.toNat : Int) (1 + (y : Int) % 255) = ((z ^^^ UInt8.ofNat (1 + y % 255)).toNat : Int) := by
  have h := u8_xor_nat z.toNat (1 + y % 255) z.toNat_lt (by omega)
  rw [show ((1 + y % 255 : Nat) : Int) = 1 + (y : Int) % 255 by omega] at h
  rw [h, UInt8.toNat_xor, UInt8.toNat_ofNat']
  rw [Nat.mod_eq_of_lt (show 1 + y % 255 < 2 ^ 8 by omega)]
theorem xor_val32 (s k : Nat) (hs : s < 4294967296) (hk : k < 32) : bits .xor .u32 (s : Int) ((2 : Int) ^ k % 4294967296) = ((s ^^^ 2 ^ k : Nat) : Int) := by
  have hp := (pow_mod k hk).2
  rw [← u32_xor_nat s (2 ^ k) hs hp]
  have e : ((2 ^ k : Nat) : Int) = (2 : Int) ^ k := by simp
  rw [← e]
  generalize 2 ^ k = P at *
  congr 1
  omega
theorem xor_val32' (s k : Nat) (hs : s < 4294967296) (hk : k < 32) : bits .xor .u32 (s : Int) (((2 ^ k : Nat) : Int) % 4294967296) = ((s ^^^ 2 ^ k : Nat) : Int) := by
  have hp := (pow_mod k hk).2
  rw [← u32_xor_nat s (2 ^ k) hs hp]
  generalize 2 ^ k = P at *
  congr 1
  omega
theorem nos_two (r : List UInt8) (h : 8 ≤ r.length) : nosM 17 r = (r[6] == 0 && r[7] == 0) := by
  unfold nosM
  rw [decide_eq_true (rfl : 17 = 17), decide_eq_true h, Bool.true_and, Bool.true_and, List.getD_eq_getElem?_getD, List.getD_eq_getElem?_getD, List.getElem?_eq_getElem (by omega), List.getElem?_eq_getElem (by omega)]
  rfl
theorem seal_byte (y : Nat) : UInt8.ofNat (1 + y % 255) ≠ 0 := fun e => by
  have := congrArg UInt8.toNat e
  rw [UInt8.toNat_ofNat'] at this
  simp at this
  omega
set_option maxRecDepth 100000 in
set_option maxHeartbeats 16000000 in
theorem tseals6 (A : Option Addr) (n c : Nat) (bl : List UInt8) (s d k y : Nat) (w : World) (h : Byt w A n c bl) (hs : s < 4294967296) (hd : d < 4294967296) (hk : k < 65536) (hy : y < 256) (hG : Gl w) :
    Calls Tryd.prog 6 #[.slice A n c, .agg #[.int .u32 (s : Int), .int .u32 (d : Int)], .agg #[.int .u16 (k : Int), .int .u8 (y : Int), .bool false]] w fun e w' => e = .returned (.bool true) ∧ Below w.heap.size w w' := by
  have hnc := h.2.1
  obtain ⟨m, hm, hmn, hm1, hm2, hm3⟩ := min200 n
  have hsl := run_cut_hi (P := Tryd.prog) Tryd.underlying22 inf5.1 A n c m (m : Int) rfl (by omega)
  have HBY := Lib.hid (h.pre hm1)
  have HM := Lib.hid (And.intro hm2 (show m ≤ c by omega))
  have hll : (bl.take m).length = m := by rw [List.length_take, h.1]; omega
  generalize bl.take m = l at *
  have HLL := Lib.hid hll
  have HSD := Lib.hid (And.intro hs (And.intro hd (And.intro hk hy)))
  have HGG := Lib.hid hG
  clear h hm1 hm2 hnc hll hm3 hs hd hk hG
  have hE := Blo.new w 25 #[.int .u32 (s : Int), .int .u32 (d : Int)]
  have hk1 := (Kept.refl Nil w).alloc (.cells #[.int .u32 (s : Int), .int .u32 (d : Int)] 25)
  have hC : Blo ((w.alloc (.cells #[.int .u32 (s : Int), .int .u32 (d : Int)] 25)).alloc (.cells #[.int .u16 (k : Int), .int .u8 (y : Int), .bool false] 74)) (w.heap.size + 1) 74 #[.int .u16 (k : Int), .int .u8 (y : Int), .bool false] := by simpa using Blo.new (w.alloc (.cells #[.int .u32 (s : Int), .int .u32 (d : Int)] 25)) 74 #[.int .u16 (k : Int), .int .u8 (y : Int), .bool false]
  have hk2 := (Kept.refl Nil (w.alloc (.cells #[.int .u32 (s : Int), .int .u32 (d : Int)] 25))).alloc (.cells #[.int .u16 (k : Int), .int .u8 (y : Int), .bool false] 74)
  have HE := Lib.hid (hE.kept hk2 (fun hf => hf))
  have HC := Lib.hid hC
  have HK := Lib.hid (hk1.then hk2)
  clear hE hk1 hC hk2
  go_enter Tryd.func6, Tryd.ntmps6
  go_upto_region 1 with (fail)
  refine wp_nameE (fun W => Blo W w.heap.size 25 #[.int .u32 (s : Int), .int .u32 (d : Int)] ∧ Blo W (w.heap.size + 1) 74 #[.int .u16 (k : Int), .int .u8 (y : Int), .bool false] ∧ Kept Nil w W) ⟨HE.out, HC.out, HK.out⟩ ?_
  clear HE HC HK
  rintro W ⟨hE, hC, hK⟩
  obtain ⟨g4, hg4⟩ : ∃ g, w.heap.size = g := ⟨_, rfl⟩
  obtain ⟨g5, hg5⟩ : ∃ g, w.heap.size + 1 = g := ⟨_, rfl⟩
  rw [hg5] at hC ⊢
  rw [hg4] at hE ⊢
  have HE := Lib.hid hE
  have HC := Lib.hid hC
  have HK := Lib.hid hK
  have HBY := Lib.hid (HBY.out.kept hK (fun _ _ hf => hf))
  have e0 := hE.cell 0
  have e1 := hE.cell 1
  have f2 := hC.cell 2
  simp only [List.getElem?_toArray, List.getElem?_cons_zero, List.getElem?_cons_succ] at e0 e1 f2
  clear hE hC hK hg4 hg5
  go_wp2_with (fail)
  have hp := tseal_yes s d 6 HSD.out.1 HSD.out.2.1 (by decide) A m c l W HBY.out (by have := HM.out.1; omega)
  by_cases hlt : m < 16 + 2
  · rw [seal_short s d 6 l (.inl rfl) (by rw [HLL.out]; exact hlt)] at hp
    refine hp.mono ?_
    clear hp e0 e1 f2
    rintro e u1 ⟨v, rfl, hmd⟩
    obtain ⟨D, f, rfl, _, _⟩ := byt_own hmd
    dsimp only [List.length_nil]
    have HK := Lib.hid (HK.out.then hmd.2)
    have hltI : (m : Int) < 16 + 2 := by omega
    clear hmd
    go_wp2_with (fail)
    refine (twakes_yes _ (HGG.out.kept HK.out).nm).mono ?_
    rintro e wl ⟨rfl, hk⟩
    go_wp2_with (fail)
    go_ret
    exact ⟨rfl, (HK.out.then hk).below (Nat.le_refl _) (fun _ hf => hf.elim)⟩
  · obtain ⟨r, er, SL⟩ := seal_is s d 6 l HSD.out.1 HSD.out.2.1 (.inl rfl) (by rw [HLL.out]; have := HM.out.1; omega) (by rw [HLL.out]; show 16 + 2 ≤ m; omega)
    rw [er] at hp
    refine hp.mono ?_
    clear hp e0 e1 f2 er
    rintro e u1 ⟨v, rfl, hmd⟩
    obtain ⟨D, f, rfl, hyD, _⟩ := byt_own hmd
    dsimp only at hyD ⊢
    have hrl : r.length = m := by rw [SL.len, HLL.out]
    rw [hrl] at hyD ⊢
    have HK := Lib.hid (HK.out.then hmd.2)
    have HBY := Lib.hid (HBY.out.kept hmd.2 (fun _ _ hf => hf))
    have HE := Lib.hid (HE.out.kept hmd.2 (fun hf => hf))
    have HC := Lib.hid (HC.out.kept hmd.2 (fun hf => hf))
    have HS := Lib.hid hyD
    have HSL := Lib.hid SL
    have HRL := Lib.hid hrl
    have e0 := HE.out.cell 0
    have e1 := HE.out.cell 1
    simp only [List.getElem?_toArray, List.getElem?_cons_zero, List.getElem?_cons_succ] at e0 e1
    clear hmd hyD hrl SL
    go_wp2_with (fail)
    have hp := tseal_yes s d 6 HSD.out.1 HSD.out.2.1 (by decide) D m f r u1 HS.out (by have := HM.out.1; omega)
    rw [HSL.out.again] at hp
    refine hp.mono ?_
    clear hp e0 e1
    rintro e u2 ⟨v, rfl, hmd⟩
    obtain ⟨D2, f2, rfl, hyD, _⟩ := byt_own hmd
    dsimp only at hyD ⊢
    rw [HRL.out] at hyD ⊢
    have HK := Lib.hid (HK.out.then hmd.2)
    have HBY := Lib.hid (HBY.out.kept hmd.2 (fun _ _ hf => hf))
    have HE := Lib.hid (HE.out.kept hmd.2 (fun hf => hf))
    have HC := Lib.hid (HC.out.kept hmd.2 (fun hf => hf))
    have HS := Lib.hid (HS.out.kept hmd.2 (fun _ _ hf => hf))
    have HS2 := Lib.hid hyD
    clear hmd hyD
    go_wp2_with (fail)
    have hge : 16 + 2 ≤ m := by omega
    have hm200 := HM.out.1
    have hmc := HM.out.2
    have hmf := HS.out.2.1
    have e0 := fun dr os => cell_regrown (HE.out.cell 0) dr os
    have e1 := fun dr os => cell_regrown (HE.out.cell 1) dr os
    have c2 := fun dr os => cell_regrown (HC.out.cell 2) dr os
    have hs1 := run_cut_hi (P := Tryd.prog) Tryd.underlying22 inf5.1 D m f 16 (16 : Int) rfl (by omega)
    have hs2 := run_cut_hi (P := Tryd.prog) Tryd.underlying22 inf5.1 A m c 16 (16 : Int) rfl (by omega)
    have hs3 := run_cut_lo (P := Tryd.prog) Tryd.underlying22 inf5.1 inf5.2 D m f 18 (18 : Int) rfl hge
    have hs4 := run_cut_lo (P := Tryd.prog) Tryd.underlying22 inf5.1 inf5.2 A m c 18 (18 : Int) rfl hge
    have hc1 := (HS.out.cut (lo := 18) (hi := m) hge (Nat.le_refl _))
    have hc2 := (HBY.out.cut (lo := 18) (hi := m) hge (Nat.le_refl _))
    rw [List.take_of_length_le (by rw [HRL.out]; exact Nat.le_refl _)] at hc1
    rw [List.take_of_length_le (by rw [HLL.out]; exact Nat.le_refl _), show l.drop 18 = r.drop 18 from HSL.out.tail.symm] at hc2
    generalize cutA D f 18 = D3 at *
    generalize cutA A c 18 = A3 at *
    generalize m - 18 = m3 at *
    generalize f - 18 = f3 at *
    generalize c - 18 = c3 at *
    have hh1 := HS.out.pre (hi := 16) (by omega)
    have hh2 := HBY.out.pre (hi := 16) (by omega)
    rw [show l.take 16 = r.take 16 from HSL.out.head.symm] at hh2
    have HC1 := Lib.hid hc1
    have HC2 := Lib.hid hc2
    have HH1 := Lib.hid hh1
    have HH2 := Lib.hid hh2
    clear hc1 hc2 hh1 hh2
    have hq1 : ∀ dr os, Calls Tryd.prog 22 #[.slice D2 m f2, .slice D m f] (grow (redrawn u2 dr) os) fun e w' => e = .returned (.bool true) ∧ grow (redrawn u2 dr) os = w' := fun dr os => by
      have := equal _ _ _ _ _ _ _ _ _ (HS2.out.kept (kept_grown' u2 dr os) (fun _ _ hf => hf)) (HS.out.kept (kept_grown' u2 dr os) (fun _ _ hf => hf))
      rw [beq_self_eq_true] at this
      exact this
    have hq2 : ∀ dr os, Calls Tryd.prog 22 #[.slice D 16 f, .slice A 16 c] (grow (redrawn u2 dr) os) fun e w' => e = .returned (.bool true) ∧ grow (redrawn u2 dr) os = w' := fun dr os => by
      have := equal _ _ _ _ _ _ _ _ _ (HH1.out.kept (kept_grown' u2 dr os) (fun _ _ hf => hf)) (HH2.out.kept (kept_grown' u2 dr os) (fun _ _ hf => hf))
      rw [beq_self_eq_true] at this
      exact this
    have hq3 : ∀ dr os, Calls Tryd.prog 22 #[.slice D3 m3 f3, .slice A3 m3 c3] (grow (redrawn u2 dr) os) fun e w' => e = .returned (.bool true) ∧ grow (redrawn u2 dr) os = w' := fun dr os => by
      have := equal _ _ _ _ _ _ _ _ _ (HC1.out.kept (kept_grown' u2 dr os) (fun _ _ hf => hf)) (HC2.out.kept (kept_grown' u2 dr os) (fun _ _ hf => hf))
      rw [beq_self_eq_true] at this
      exact this
    have hr1 : ∀ dr os, Calls Tryd.prog 23 #[.int .u32 (s : Int), .int .u32 (d : Int), .int .u8 6, .slice D m f] (grow (redrawn u2 dr) os) fun e w' => e = .returned (.bool true) ∧ Kept Nil (grow (redrawn u2 dr) os) w' := fun dr os => by
      have := tright_yes s d 6 HSD.out.1 HSD.out.2.1 (by decide) D m f r (grow (redrawn u2 dr) os) (HS.out.kept (kept_grown' u2 dr os) (fun _ _ hf => hf)) (by omega)
      rw [right_sealed s d 6 l r HSD.out.1 HSD.out.2.1 (.inl rfl) (by rw [HLL.out]; omega) HSL.out] at this
      exact this
    refine wp_region_quiet_below (by kernel_rfl) (by kernel_rfl) ?_
    repeat (go_big_quiet_step (first | with_reducible exact quietS (hq1 _ _) | with_reducible exact quietS (hq2 _ _) | with_reducible exact quietS (hq3 _ _) | with_reducible exact quietK (hr1 _ _)))
    refine wpQuiet_nil ?_
    rintro u3 ⟨nq, hw⟩
    have hkz : Kept Nil u2 u3 := by rw [hw]; exact kept_grown _ _
    have HK := Lib.hid (HK.out.then hkz)
    have HE := Lib.hid (HE.out.kept hkz (fun hf => hf))
    have HC := Lib.hid (HC.out.kept hkz (fun hf => hf))
    have HS := Lib.hid (HS.out.kept hkz (fun _ _ hf => hf))
    clear hw hkz e0 e1 c2 hs1 hs2 hs3 hs4 hq1 hq2 hq3 hr1 HC1 HC2 HH1 HH2 HS2
    have c0 := HC.out.cell 0
    simp only [List.getElem?_toArray, List.getElem?_cons_zero, List.getElem?_cons_succ] at c0
    have hk16 := HSD.out.2.2.1
    have hmod : (k : Int).tmod (m : Int) = ((k % m : Nat) : Int) := (Int.ofNat_tmod k m).symm
    have hkm : k % m < m := Nat.mod_lt _ (by omega)
    generalize k % m = K at *
    go_wp2_with (fail)
    clear c0 hmod
    refine (bclone D m f r u3 HS.out (by omega)).mono ?_
    rintro e u4 ⟨v4, rfl, ho4, hk4⟩
    rw [HRL.out] at ho4
    obtain ⟨A4, c4, rfl⟩ := own_form ho4
    obtain ⟨g6, cs, rfl, hg6, hb6, hl6, ht6, hc6, hcc6⟩ := own_blk ho4 (by omega)
    have HY4 := Lib.hid (blk_byt hb6 ht6 HRL.out hc6 hcc6)
    have HGE := Lib.hid (show u3.heap.size ≤ g6 from hg6)
    have HWS := Lib.hid HK.out.size
    have HCS := Lib.hid (And.intro hb6 (And.intro hl6 (And.intro ht6 (And.intro hc6 hcc6))))
    have hkr : K < r.length := by rw [HRL.out]; exact hkm
    obtain ⟨b2, o2, eA, hcK⟩ := HY4.out.at (i := K) hkr
    injection eA with eA
    injection eA with eA1 eA2
    subst eA1 eA2
    rw [Nat.zero_add] at hcK
    have HK := Lib.hid (HK.out.then hk4)
    have HLT := Lib.hid (And.intro HE.out.lt (And.intro HC.out.lt HS.out.lt))
    have HE := Lib.hid (HE.out.kept hk4 (fun hf => hf))
    have HC := Lib.hid (HC.out.kept hk4 (fun hf => hf))
    have HS := Lib.hid (HS.out.kept hk4 (fun _ _ hf => hf))
    clear ho4 hk4 hg6 hb6 hl6 ht6 hc6 hcc6 HY4
    have cK := fun dr os => cell_regrown hcK dr os
    have c1 := fun dr os => cell_regrown (HC.out.cell 1) dr os
    have hy8 := HSD.out.2.2.2
    have hxv : bits .xor .u8 (r[K].toNat : Int) (1 + (y : Int) % 255) = ((r[K] ^^^ UInt8.ofNat (1 + y % 255)).toNat : Int) := xor_val _ _
    have HXN := Lib.hid (xor_ne r[K] (UInt8.ofNat (1 + y % 255)) (seal_byte y))
    have HOT := Lib.hid (fun x hx => right_other s d 6 r HSD.out.1 HSD.out.2.1 (.inl rfl) (by rw [HRL.out]; omega) HSL.out.right K hkr x hx)
    generalize r[K] ^^^ UInt8.ofNat (1 + y % 255) = X at *
    have hcl : (0 : Int) ≤ (K : Int) ∧ (K : Int) < (m : Int) := by omega
    obtain ⟨hcl1, hcl2⟩ := hcl
    go_wp2_with (fail)
    refine wp_region_tail 9 (by kernel_rfl) (by kernel_rfl) ?_
    simp only [List.take_succ_cons, List.take_zero, List.drop_succ_cons, List.drop_zero]
    repeat (go_big_quiet_step (fail))
    refine wpQuiet_nil ?_
    rintro u5 ⟨nq, hw⟩
    have hkz : Kept Nil u4 u5 := by rw [hw]; exact kept_grown _ _
    have HCB := Lib.hid (HCS.out.1.kept hkz (fun hf => hf))
    have HK := Lib.hid (HK.out.then hkz)
    have HE := Lib.hid (HE.out.kept hkz (fun hf => hf))
    have HC := Lib.hid (HC.out.kept hkz (fun hf => hf))
    have HS := Lib.hid (HS.out.kept hkz (fun _ _ hf => hf))
    clear hw hkz cK c1 hcK
    go_upto_region 14 with (first
      | (refine wpList_st rfl _ _ _ rfl g6 K rfl [.int .u8 (X.toNat : Int)] _ (by first | rfl | simp [Act.eval]) rfl infU' 5 _ HCB.out (by have := HCS.out.2.1; rw [List.length_singleton]; omega) (by intro u hu; simp at hu; subst hu; rfl) ?_; intro u6 hb hks hz; simp only [Act.put])
      | fail)
    have HY := Lib.hid (blk_set hb HCS.out.2.2.1 HRL.out hkm HCS.out.2.1 HCS.out.2.2.2.1 HCS.out.2.2.2.2)
    have HK := Lib.hid (HK.out.fresh hks (fun i hi => by cases hi; have := HWS.out; have := HGE.out; omega))
    have HE := Lib.hid (HE.out.kept hks (fun hf => by have := HLT.out.1; have := HGE.out; unfold One at hf; omega))
    have HC := Lib.hid (HC.out.kept hks (fun hf => by have := HLT.out.2.1; have := HGE.out; unfold One at hf; omega))
    have HS := Lib.hid (HS.out.kept hks (fun i hi hf => by have := HLT.out.2.2 i hi; have := HGE.out; unfold One at hf; omega))
    clear hb hks hz HCB HCS HLT HGE HWS hxv
    have f2 := HC.out.cell 2
    have e0 := HE.out.cell 0
    have e1 := HE.out.cell 1
    simp only [List.getElem?_toArray, List.getElem?_cons_zero, List.getElem?_cons_succ] at f2 e0 e1
    have hnn : nosM 6 (r.set K X) = false := rfl
    go_wp2_with (fail)
    have hp := tright_yes s d 6 HSD.out.1 HSD.out.2.1 (by decide) _ m c4 (r.set K X) u6 HY.out (by omega)
    rw [HOT.out X HXN.out, hnn] at hp
    refine hp.mono ?_
    clear hp e0 e1 f2 hnn
    rintro e u7 ⟨rfl, hk⟩
    have HK := Lib.hid (HK.out.then hk)
    have HE := Lib.hid (HE.out.kept hk (fun hf => hf))
    have HC := Lib.hid (HC.out.kept hk (fun hf => hf))
    have HS := Lib.hid (HS.out.kept hk (fun _ _ hf => hf))
    clear hk HY
    have e0 := HE.out.cell 0
    have e1 := HE.out.cell 1
    simp only [List.getElem?_toArray, List.getElem?_cons_zero, List.getElem?_cons_succ] at e0 e1
    go_wp2_with (fail)
    have hp := tright_yes d s 6 HSD.out.2.1 HSD.out.1 (by decide) _ m f r u7 HS.out (by omega)
    rw [right_swap s d 6 r HSD.out.1 HSD.out.2.1 (.inl rfl) (by rw [HRL.out]; omega), right_sealed s d 6 l r HSD.out.1 HSD.out.2.1 (.inl rfl) (by rw [HLL.out]; omega) HSL.out] at hp
    refine hp.mono ?_
    clear hp e0 e1
    rintro e u8 ⟨rfl, hk⟩
    have HK := Lib.hid (HK.out.then hk)
    have HE := Lib.hid (HE.out.kept hk (fun hf => hf))
    have HC := Lib.hid (HC.out.kept hk (fun hf => hf))
    have HS := Lib.hid (HS.out.kept hk (fun _ _ hf => hf))
    clear hk
    have e0 := HE.out.cell 0
    have e1 := HE.out.cell 1
    have c1 := HC.out.cell 1
    simp only [List.getElem?_toArray, List.getElem?_cons_zero, List.getElem?_cons_succ] at e0 e1 c1
    go_wp2_with (fail)
    first
      | rw [xor_val32 s (y % 32) HSD.out.1 (Nat.mod_lt _ (by decide))]
      | rw [xor_val32' s (y % 32) HSD.out.1 (Nat.mod_lt _ (by decide))]
    have hp := tright_yes (s ^^^ 2 ^ (y % 32)) d 6 (Nat.xor_lt_two_pow (n := 32) HSD.out.1 (pow_mod _ (Nat.mod_lt _ (by decide))).2) HSD.out.2.1 (by decide) _ m f r u8 HS.out (by omega)
    rw [right_addr s d 6 r HSD.out.1 HSD.out.2.1 (.inl rfl) (by rw [HRL.out]; omega) HSL.out.right (none_sealed s d 6 l r HSL.out) (y % 32) (Nat.mod_lt _ (by decide))] at hp
    refine hp.mono ?_
    clear hp e0 e1 c1
    rintro e u9 ⟨rfl, hk⟩
    have HK := Lib.hid (HK.out.then hk)
    clear hk
    go_wp2_with (fail)
    refine (twakes_yes _ (HGG.out.kept HK.out).nm).mono ?_
    rintro e wl ⟨rfl, hk⟩
    go_wp2_with (fail)
    go_ret
    exact ⟨rfl, (HK.out.then hk).below (Nat.le_refl _) (fun _ hf => hf.elim)⟩
set_option maxRecDepth 100000 in
set_option maxHeartbeats 16000000 in
theorem tseals17 (A : Option Addr) (n c : Nat) (bl : List UInt8) (s d k y : Nat) (w : World) (h : Byt w A n c bl) (hs : s < 4294967296) (hd : d < 4294967296) (hk : k < 65536) (hy : y < 256) (hG : Gl w) :
    Calls Tryd.prog 6 #[.slice A n c, .agg #[.int .u32 (s : Int), .int .u32 (d : Int)], .agg #[.int .u16 (k : Int), .int .u8 (y : Int), .bool true]] w fun e w' => e = .returned (.bool true) ∧ Below w.heap.size w w' := by
  have hnc := h.2.1
  obtain ⟨m, hm, hmn, hm1, hm2, hm3⟩ := min200 n
  have hsl := run_cut_hi (P := Tryd.prog) Tryd.underlying22 inf5.1 A n c m (m : Int) rfl (by omega)
  have HBY := Lib.hid (h.pre hm1)
  have HM := Lib.hid (And.intro hm2 (show m ≤ c by omega))
  have hll : (bl.take m).length = m := by rw [List.length_take, h.1]; omega
  generalize bl.take m = l at *
  have HLL := Lib.hid hll
  have HSD := Lib.hid (And.intro hs (And.intro hd (And.intro hk hy)))
  have HGG := Lib.hid hG
  clear h hm1 hm2 hnc hll hm3 hs hd hk hG
  have hE := Blo.new w 25 #[.int .u32 (s : Int), .int .u32 (d : Int)]
  have hk1 := (Kept.refl Nil w).alloc (.cells #[.int .u32 (s : Int), .int .u32 (d : Int)] 25)
  have hC : Blo ((w.alloc (.cells #[.int .u32 (s : Int), .int .u32 (d : Int)] 25)).alloc (.cells #[.int .u16 (k : Int), .int .u8 (y : Int), .bool true] 74)) (w.heap.size + 1) 74 #[.int .u16 (k : Int), .int .u8 (y : Int), .bool true] := by simpa using Blo.new (w.alloc (.cells #[.int .u32 (s : Int), .int .u32 (d : Int)] 25)) 74 #[.int .u16 (k : Int), .int .u8 (y : Int), .bool true]
  have hk2 := (Kept.refl Nil (w.alloc (.cells #[.int .u32 (s : Int), .int .u32 (d : Int)] 25))).alloc (.cells #[.int .u16 (k : Int), .int .u8 (y : Int), .bool true] 74)
  have HE := Lib.hid (hE.kept hk2 (fun hf => hf))
  have HC := Lib.hid hC
  have HK := Lib.hid (hk1.then hk2)
  clear hE hk1 hC hk2
  go_enter Tryd.func6, Tryd.ntmps6
  go_upto_region 1 with (fail)
  refine wp_nameE (fun W => Blo W w.heap.size 25 #[.int .u32 (s : Int), .int .u32 (d : Int)] ∧ Blo W (w.heap.size + 1) 74 #[.int .u16 (k : Int), .int .u8 (y : Int), .bool true] ∧ Kept Nil w W) ⟨HE.out, HC.out, HK.out⟩ ?_
  clear HE HC HK
  rintro W ⟨hE, hC, hK⟩
  obtain ⟨g4, hg4⟩ : ∃ g, w.heap.size = g := ⟨_, rfl⟩
  obtain ⟨g5, hg5⟩ : ∃ g, w.heap.size + 1 = g := ⟨_, rfl⟩
  rw [hg5] at hC ⊢
  rw [hg4] at hE ⊢
  have HE := Lib.hid hE
  have HC := Lib.hid hC
  have HK := Lib.hid hK
  have HBY := Lib.hid (HBY.out.kept hK (fun _ _ hf => hf))
  have e0 := hE.cell 0
  have e1 := hE.cell 1
  have f2 := hC.cell 2
  simp only [List.getElem?_toArray, List.getElem?_cons_zero, List.getElem?_cons_succ] at e0 e1 f2
  clear hE hC hK hg4 hg5
  go_wp2_with (fail)
  have hp := tseal_yes s d 17 HSD.out.1 HSD.out.2.1 (by decide) A m c l W HBY.out (by have := HM.out.1; omega)
  by_cases hlt : m < 6 + 2
  · rw [seal_short s d 17 l (.inr rfl) (by rw [HLL.out]; exact hlt)] at hp
    refine hp.mono ?_
    clear hp e0 e1 f2
    rintro e u1 ⟨v, rfl, hmd⟩
    obtain ⟨D, f, rfl, _, _⟩ := byt_own hmd
    dsimp only [List.length_nil]
    have HK := Lib.hid (HK.out.then hmd.2)
    have hltI : (m : Int) < 6 + 2 := by omega
    clear hmd
    go_wp2_with (fail)
    refine (twakes_yes _ (HGG.out.kept HK.out).nm).mono ?_
    rintro e wl ⟨rfl, hk⟩
    go_wp2_with (fail)
    go_ret
    exact ⟨rfl, (HK.out.then hk).below (Nat.le_refl _) (fun _ hf => hf.elim)⟩
  · obtain ⟨r, er, SL⟩ := seal_is s d 17 l HSD.out.1 HSD.out.2.1 (.inr rfl) (by rw [HLL.out]; have := HM.out.1; omega) (by rw [HLL.out]; show 6 + 2 ≤ m; omega)
    rw [er] at hp
    refine hp.mono ?_
    clear hp e0 e1 f2 er
    rintro e u1 ⟨v, rfl, hmd⟩
    obtain ⟨D, f, rfl, hyD, _⟩ := byt_own hmd
    dsimp only at hyD ⊢
    have hrl : r.length = m := by rw [SL.len, HLL.out]
    rw [hrl] at hyD ⊢
    have HK := Lib.hid (HK.out.then hmd.2)
    have HBY := Lib.hid (HBY.out.kept hmd.2 (fun _ _ hf => hf))
    have HE := Lib.hid (HE.out.kept hmd.2 (fun hf => hf))
    have HC := Lib.hid (HC.out.kept hmd.2 (fun hf => hf))
    have HS := Lib.hid hyD
    have HSL := Lib.hid SL
    have HRL := Lib.hid hrl
    have e0 := HE.out.cell 0
    have e1 := HE.out.cell 1
    simp only [List.getElem?_toArray, List.getElem?_cons_zero, List.getElem?_cons_succ] at e0 e1
    clear hmd hyD hrl SL
    go_wp2_with (fail)
    have hp := tseal_yes s d 17 HSD.out.1 HSD.out.2.1 (by decide) D m f r u1 HS.out (by have := HM.out.1; omega)
    rw [HSL.out.again] at hp
    refine hp.mono ?_
    clear hp e0 e1
    rintro e u2 ⟨v, rfl, hmd⟩
    obtain ⟨D2, f2, rfl, hyD, _⟩ := byt_own hmd
    dsimp only at hyD ⊢
    rw [HRL.out] at hyD ⊢
    have HK := Lib.hid (HK.out.then hmd.2)
    have HBY := Lib.hid (HBY.out.kept hmd.2 (fun _ _ hf => hf))
    have HE := Lib.hid (HE.out.kept hmd.2 (fun hf => hf))
    have HC := Lib.hid (HC.out.kept hmd.2 (fun hf => hf))
    have HS := Lib.hid (HS.out.kept hmd.2 (fun _ _ hf => hf))
    have HS2 := Lib.hid hyD
    clear hmd hyD
    go_wp2_with (fail)
    have hge : 6 + 2 ≤ m := by omega
    have hm200 := HM.out.1
    have hmc := HM.out.2
    have hmf := HS.out.2.1
    have e0 := fun dr os => cell_regrown (HE.out.cell 0) dr os
    have e1 := fun dr os => cell_regrown (HE.out.cell 1) dr os
    have c2 := fun dr os => cell_regrown (HC.out.cell 2) dr os
    have hs1 := run_cut_hi (P := Tryd.prog) Tryd.underlying22 inf5.1 D m f 6 (6 : Int) rfl (by omega)
    have hs2 := run_cut_hi (P := Tryd.prog) Tryd.underlying22 inf5.1 A m c 6 (6 : Int) rfl (by omega)
    have hs3 := run_cut_lo (P := Tryd.prog) Tryd.underlying22 inf5.1 inf5.2 D m f 8 (8 : Int) rfl hge
    have hs4 := run_cut_lo (P := Tryd.prog) Tryd.underlying22 inf5.1 inf5.2 A m c 8 (8 : Int) rfl hge
    have hc1 := (HS.out.cut (lo := 8) (hi := m) hge (Nat.le_refl _))
    have hc2 := (HBY.out.cut (lo := 8) (hi := m) hge (Nat.le_refl _))
    rw [List.take_of_length_le (by rw [HRL.out]; exact Nat.le_refl _)] at hc1
    rw [List.take_of_length_le (by rw [HLL.out]; exact Nat.le_refl _), show l.drop 8 = r.drop 8 from HSL.out.tail.symm] at hc2
    generalize cutA D f 8 = D3 at *
    generalize cutA A c 8 = A3 at *
    generalize m - 8 = m3 at *
    generalize f - 8 = f3 at *
    generalize c - 8 = c3 at *
    have hh1 := HS.out.pre (hi := 6) (by omega)
    have hh2 := HBY.out.pre (hi := 6) (by omega)
    rw [show l.take 6 = r.take 6 from HSL.out.head.symm] at hh2
    have HC1 := Lib.hid hc1
    have HC2 := Lib.hid hc2
    have HH1 := Lib.hid hh1
    have HH2 := Lib.hid hh2
    clear hc1 hc2 hh1 hh2
    have hq1 : ∀ dr os, Calls Tryd.prog 22 #[.slice D2 m f2, .slice D m f] (grow (redrawn u2 dr) os) fun e w' => e = .returned (.bool true) ∧ grow (redrawn u2 dr) os = w' := fun dr os => by
      have := equal _ _ _ _ _ _ _ _ _ (HS2.out.kept (kept_grown' u2 dr os) (fun _ _ hf => hf)) (HS.out.kept (kept_grown' u2 dr os) (fun _ _ hf => hf))
      rw [beq_self_eq_true] at this
      exact this
    have hq2 : ∀ dr os, Calls Tryd.prog 22 #[.slice D 6 f, .slice A 6 c] (grow (redrawn u2 dr) os) fun e w' => e = .returned (.bool true) ∧ grow (redrawn u2 dr) os = w' := fun dr os => by
      have := equal _ _ _ _ _ _ _ _ _ (HH1.out.kept (kept_grown' u2 dr os) (fun _ _ hf => hf)) (HH2.out.kept (kept_grown' u2 dr os) (fun _ _ hf => hf))
      rw [beq_self_eq_true] at this
      exact this
    have hq3 : ∀ dr os, Calls Tryd.prog 22 #[.slice D3 m3 f3, .slice A3 m3 c3] (grow (redrawn u2 dr) os) fun e w' => e = .returned (.bool true) ∧ grow (redrawn u2 dr) os = w' := fun dr os => by
      have := equal _ _ _ _ _ _ _ _ _ (HC1.out.kept (kept_grown' u2 dr os) (fun _ _ hf => hf)) (HC2.out.kept (kept_grown' u2 dr os) (fun _ _ hf => hf))
      rw [beq_self_eq_true] at this
      exact this
    have hr1 : ∀ dr os, Calls Tryd.prog 23 #[.int .u32 (s : Int), .int .u32 (d : Int), .int .u8 17, .slice D m f] (grow (redrawn u2 dr) os) fun e w' => e = .returned (.bool true) ∧ Kept Nil (grow (redrawn u2 dr) os) w' := fun dr os => by
      have := tright_yes s d 17 HSD.out.1 HSD.out.2.1 (by decide) D m f r (grow (redrawn u2 dr) os) (HS.out.kept (kept_grown' u2 dr os) (fun _ _ hf => hf)) (by omega)
      rw [right_sealed s d 17 l r HSD.out.1 HSD.out.2.1 (.inr rfl) (by rw [HLL.out]; omega) HSL.out] at this
      exact this
    obtain ⟨b0, o0, eD, hc6⟩ := HS.out.at (i := 6) (by rw [HRL.out]; omega)
    obtain ⟨b1, o1, eD1, hc7⟩ := HS.out.at (i := 7) (by rw [HRL.out]; omega)
    rw [eD] at eD1
    injection eD1 with eD1
    injection eD1 with eD2 eD3
    subst eD2 eD3
    have c6 := fun dr os => cell_regrown hc6 dr os
    have c7 := fun dr os => cell_regrown hc7 dr os
    have hu : ¬ (r[6]'(by rw [HRL.out]; omega) = 0 ∧ r[7]'(by rw [HRL.out]; omega) = 0) := fun ⟨h1, h2⟩ => HSL.out.udp rfl ⟨by show r.getD 6 0 = 0; rw [List.getD_eq_getElem?_getD, List.getElem?_eq_getElem (by rw [HRL.out]; omega)]; exact h1, by show r.getD 7 0 = 0; rw [List.getD_eq_getElem?_getD, List.getElem?_eq_getElem (by rw [HRL.out]; omega)]; exact h2⟩
    generalize r[6]'(by rw [HRL.out]; omega) = z6 at *
    generalize r[7]'(by rw [HRL.out]; omega) = z7 at *
    subst eD
    clear hc6 hc7
    by_cases h6 : z6 = 0
    · have h7 : ((z7.toNat : Int) == 0) = false := by
        have : z7.toNat ≠ 0 := fun e => hu ⟨h6, UInt8.toNat_inj.1 e⟩
        simpa using this
      subst h6
      clear hu
      refine wp_region_quiet_below (by kernel_rfl) (by kernel_rfl) ?_
      repeat (go_big_quiet_step (first | with_reducible exact quietS (hq1 _ _) | with_reducible exact quietS (hq2 _ _) | with_reducible exact quietS (hq3 _ _) | with_reducible exact quietK (hr1 _ _)))
      refine wpQuiet_nil ?_
      rintro u3 ⟨nq, hw⟩
      have hkz : Kept Nil u2 u3 := by rw [hw]; exact kept_grown _ _
      have HK := Lib.hid (HK.out.then hkz)
      have HE := Lib.hid (HE.out.kept hkz (fun hf => hf))
      have HC := Lib.hid (HC.out.kept hkz (fun hf => hf))
      have HS := Lib.hid (HS.out.kept hkz (fun _ _ hf => hf))
      clear hw hkz e0 e1 c2 hs1 hs2 hs3 hs4 hq1 hq2 hq3 hr1 HC1 HC2 HH1 HH2 HS2
      have c0 := HC.out.cell 0
      simp only [List.getElem?_toArray, List.getElem?_cons_zero, List.getElem?_cons_succ] at c0
      have hk16 := HSD.out.2.2.1
      have hmod : (k : Int).tmod (m : Int) = ((k % m : Nat) : Int) := (Int.ofNat_tmod k m).symm
      have hkm : k % m < m := Nat.mod_lt _ (by omega)
      generalize k % m = K at *
      go_wp2_with (fail)
      clear c0 hmod
      refine (bclone (some ⟨b0, o0, none⟩) m f r u3 HS.out (by omega)).mono ?_
      rintro e u4 ⟨v4, rfl, ho4, hk4⟩
      rw [HRL.out] at ho4
      obtain ⟨A4, c4, rfl⟩ := own_form ho4
      obtain ⟨g6, cs, rfl, hg6, hb6, hl6, ht6, hc6, hcc6⟩ := own_blk ho4 (by omega)
      have HY4 := Lib.hid (blk_byt hb6 ht6 HRL.out hc6 hcc6)
      have HGE := Lib.hid (show u3.heap.size ≤ g6 from hg6)
      have HWS := Lib.hid HK.out.size
      have HCS := Lib.hid (And.intro hb6 (And.intro hl6 (And.intro ht6 (And.intro hc6 hcc6))))
      have hkr : K < r.length := by rw [HRL.out]; exact hkm
      obtain ⟨b2, o2, eA, hcK⟩ := HY4.out.at (i := K) hkr
      injection eA with eA
      injection eA with eA1 eA2
      subst eA1 eA2
      rw [Nat.zero_add] at hcK
      have HK := Lib.hid (HK.out.then hk4)
      have HLT := Lib.hid (And.intro HE.out.lt (And.intro HC.out.lt HS.out.lt))
      have HE := Lib.hid (HE.out.kept hk4 (fun hf => hf))
      have HC := Lib.hid (HC.out.kept hk4 (fun hf => hf))
      have HS := Lib.hid (HS.out.kept hk4 (fun _ _ hf => hf))
      clear ho4 hk4 hg6 hb6 hl6 ht6 hc6 hcc6 HY4
      have cK := fun dr os => cell_regrown hcK dr os
      have c1 := fun dr os => cell_regrown (HC.out.cell 1) dr os
      have hy8 := HSD.out.2.2.2
      have hxv : bits .xor .u8 (r[K].toNat : Int) (1 + (y : Int) % 255) = ((r[K] ^^^ UInt8.ofNat (1 + y % 255)).toNat : Int) := xor_val _ _
      have HXN := Lib.hid (xor_ne r[K] (UInt8.ofNat (1 + y % 255)) (seal_byte y))
      have HOT := Lib.hid (fun x hx => right_other s d 17 r HSD.out.1 HSD.out.2.1 (.inr rfl) (by rw [HRL.out]; omega) HSL.out.right K hkr x hx)
      generalize r[K] ^^^ UInt8.ofNat (1 + y % 255) = X at *
      have hcl : (0 : Int) ≤ (K : Int) ∧ (K : Int) < (m : Int) := by omega
      obtain ⟨hcl1, hcl2⟩ := hcl
      go_wp2_with (fail)
      refine wp_region_tail 9 (by kernel_rfl) (by kernel_rfl) ?_
      simp only [List.take_succ_cons, List.take_zero, List.drop_succ_cons, List.drop_zero]
      repeat (go_big_quiet_step (fail))
      refine wpQuiet_nil ?_
      rintro u5 ⟨nq, hw⟩
      have hkz : Kept Nil u4 u5 := by rw [hw]; exact kept_grown _ _
      have HCB := Lib.hid (HCS.out.1.kept hkz (fun hf => hf))
      have HK := Lib.hid (HK.out.then hkz)
      have HE := Lib.hid (HE.out.kept hkz (fun hf => hf))
      have HC := Lib.hid (HC.out.kept hkz (fun hf => hf))
      have HS := Lib.hid (HS.out.kept hkz (fun _ _ hf => hf))
      clear hw hkz cK c1 hcK
      go_upto_region 14 with (first
        | (refine wpList_st rfl _ _ _ rfl g6 K rfl [.int .u8 (X.toNat : Int)] _ (by first | rfl | simp [Act.eval]) rfl infU' 5 _ HCB.out (by have := HCS.out.2.1; rw [List.length_singleton]; omega) (by intro u hu; simp at hu; subst hu; rfl) ?_; intro u6 hb hks hz; simp only [Act.put])
        | fail)
      have HY := Lib.hid (blk_set hb HCS.out.2.2.1 HRL.out hkm HCS.out.2.1 HCS.out.2.2.2.1 HCS.out.2.2.2.2)
      have HK := Lib.hid (HK.out.fresh hks (fun i hi => by cases hi; have := HWS.out; have := HGE.out; omega))
      have HE := Lib.hid (HE.out.kept hks (fun hf => by have := HLT.out.1; have := HGE.out; unfold One at hf; omega))
      have HC := Lib.hid (HC.out.kept hks (fun hf => by have := HLT.out.2.1; have := HGE.out; unfold One at hf; omega))
      have HS := Lib.hid (HS.out.kept hks (fun i hi hf => by have := HLT.out.2.2 i hi; have := HGE.out; unfold One at hf; omega))
      clear hb hks hz HCB HCS HLT HGE HWS hxv
      have f2 := HC.out.cell 2
      have e0 := HE.out.cell 0
      have e1 := HE.out.cell 1
      simp only [List.getElem?_toArray, List.getElem?_cons_zero, List.getElem?_cons_succ] at f2 e0 e1
      obtain ⟨b4, o4, eA, c6⟩ := HY.out.at (i := 6) (by rw [List.length_set, HRL.out]; omega)
      injection eA with eA
      injection eA with eA1 eA2
      subst eA1 eA2
      obtain ⟨b5, o5, eA, c7⟩ := HY.out.at (i := 7) (by rw [List.length_set, HRL.out]; omega)
      injection eA with eA
      injection eA with eA1 eA2
      subst eA1 eA2
      rw [Nat.zero_add] at c6 c7
      have hno := nos_two (r.set K X) (by rw [List.length_set, HRL.out]; omega)
      generalize (r.set K X)[6]'(by rw [List.length_set, HRL.out]; omega) = z8 at *
      generalize (r.set K X)[7]'(by rw [List.length_set, HRL.out]; omega) = z9 at *
      by_cases h8 : z8 = 0
      · subst h8
        by_cases h9 : z9 = 0
        · subst h9
          have hnn : nosM 17 (r.set K X) = true := by rw [hno]; rfl
          clear hno
          go_wp2_with (fail)
          have hp := tright_yes s d 17 HSD.out.1 HSD.out.2.1 (by decide) _ m c4 (r.set K X) u6 HY.out (by omega)
          rw [HOT.out X HXN.out, hnn] at hp
          refine hp.mono ?_
          clear hp e0 e1 f2 hnn
          rintro e u7 ⟨rfl, hk⟩
          have HK := Lib.hid (HK.out.then hk)
          have HE := Lib.hid (HE.out.kept hk (fun hf => hf))
          have HC := Lib.hid (HC.out.kept hk (fun hf => hf))
          have HS := Lib.hid (HS.out.kept hk (fun _ _ hf => hf))
          clear hk HY
          have e0 := HE.out.cell 0
          have e1 := HE.out.cell 1
          simp only [List.getElem?_toArray, List.getElem?_cons_zero, List.getElem?_cons_succ] at e0 e1
          go_wp2_with (fail)
          have hp := tright_yes d s 17 HSD.out.2.1 HSD.out.1 (by decide) _ m f r u7 HS.out (by omega)
          rw [right_swap s d 17 r HSD.out.1 HSD.out.2.1 (.inr rfl) (by rw [HRL.out]; omega), right_sealed s d 17 l r HSD.out.1 HSD.out.2.1 (.inr rfl) (by rw [HLL.out]; omega) HSL.out] at hp
          refine hp.mono ?_
          clear hp e0 e1
          rintro e u8 ⟨rfl, hk⟩
          have HK := Lib.hid (HK.out.then hk)
          have HE := Lib.hid (HE.out.kept hk (fun hf => hf))
          have HC := Lib.hid (HC.out.kept hk (fun hf => hf))
          have HS := Lib.hid (HS.out.kept hk (fun _ _ hf => hf))
          clear hk
          have e0 := HE.out.cell 0
          have e1 := HE.out.cell 1
          have c1 := HC.out.cell 1
          simp only [List.getElem?_toArray, List.getElem?_cons_zero, List.getElem?_cons_succ] at e0 e1 c1
          go_wp2_with (fail)
          first
            | rw [xor_val32 s (y % 32) HSD.out.1 (Nat.mod_lt _ (by decide))]
            | rw [xor_val32' s (y % 32) HSD.out.1 (Nat.mod_lt _ (by decide))]
          have hp := tright_yes (s ^^^ 2 ^ (y % 32)) d 17 (Nat.xor_lt_two_pow (n := 32) HSD.out.1 (pow_mod _ (Nat.mod_lt _ (by decide))).2) HSD.out.2.1 (by decide) _ m f r u8 HS.out (by omega)
          rw [right_addr s d 17 r HSD.out.1 HSD.out.2.1 (.inr rfl) (by rw [HRL.out]; omega) HSL.out.right (none_sealed s d 17 l r HSL.out) (y % 32) (Nat.mod_lt _ (by decide))] at hp
          refine hp.mono ?_
          clear hp e0 e1 c1
          rintro e u9 ⟨rfl, hk⟩
          have HK := Lib.hid (HK.out.then hk)
          clear hk
          go_wp2_with (fail)
          refine (twakes_yes _ (HGG.out.kept HK.out).nm).mono ?_
          rintro e wl ⟨rfl, hk⟩
          go_wp2_with (fail)
          go_ret
          exact ⟨rfl, (HK.out.then hk).below (Nat.le_refl _) (fun _ hf => hf.elim)⟩
        · have h9' : ((z9.toNat : Int) == 0) = false := by
            have : z9.toNat ≠ 0 := fun e => h9 (UInt8.toNat_inj.1 e)
            simpa using this
          have hnn : nosM 17 (r.set K X) = false := by rw [hno, show (z9 == 0) = false by simpa using h9, Bool.and_false]
          clear hno h9
          go_wp2_with (fail)
          have hp := tright_yes s d 17 HSD.out.1 HSD.out.2.1 (by decide) _ m c4 (r.set K X) u6 HY.out (by omega)
          rw [HOT.out X HXN.out, hnn] at hp
          refine hp.mono ?_
          clear hp e0 e1 f2 hnn
          rintro e u7 ⟨rfl, hk⟩
          have HK := Lib.hid (HK.out.then hk)
          have HE := Lib.hid (HE.out.kept hk (fun hf => hf))
          have HC := Lib.hid (HC.out.kept hk (fun hf => hf))
          have HS := Lib.hid (HS.out.kept hk (fun _ _ hf => hf))
          clear hk HY
          have e0 := HE.out.cell 0
          have e1 := HE.out.cell 1
          simp only [List.getElem?_toArray, List.getElem?_cons_zero, List.getElem?_cons_succ] at e0 e1
          go_wp2_with (fail)
          have hp := tright_yes d s 17 HSD.out.2.1 HSD.out.1 (by decide) _ m f r u7 HS.out (by omega)
          rw [right_swap s d 17 r HSD.out.1 HSD.out.2.1 (.inr rfl) (by rw [HRL.out]; omega), right_sealed s d 17 l r HSD.out.1 HSD.out.2.1 (.inr rfl) (by rw [HLL.out]; omega) HSL.out] at hp
          refine hp.mono ?_
          clear hp e0 e1
          rintro e u8 ⟨rfl, hk⟩
          have HK := Lib.hid (HK.out.then hk)
          have HE := Lib.hid (HE.out.kept hk (fun hf => hf))
          have HC := Lib.hid (HC.out.kept hk (fun hf => hf))
          have HS := Lib.hid (HS.out.kept hk (fun _ _ hf => hf))
          clear hk
          have e0 := HE.out.cell 0
          have e1 := HE.out.cell 1
          have c1 := HC.out.cell 1
          simp only [List.getElem?_toArray, List.getElem?_cons_zero, List.getElem?_cons_succ] at e0 e1 c1
          go_wp2_with (fail)
          first
            | rw [xor_val32 s (y % 32) HSD.out.1 (Nat.mod_lt _ (by decide))]
            | rw [xor_val32' s (y % 32) HSD.out.1 (Nat.mod_lt _ (by decide))]
          have hp := tright_yes (s ^^^ 2 ^ (y % 32)) d 17 (Nat.xor_lt_two_pow (n := 32) HSD.out.1 (pow_mod _ (Nat.mod_lt _ (by decide))).2) HSD.out.2.1 (by decide) _ m f r u8 HS.out (by omega)
          rw [right_addr s d 17 r HSD.out.1 HSD.out.2.1 (.inr rfl) (by rw [HRL.out]; omega) HSL.out.right (none_sealed s d 17 l r HSL.out) (y % 32) (Nat.mod_lt _ (by decide))] at hp
          refine hp.mono ?_
          clear hp e0 e1 c1
          rintro e u9 ⟨rfl, hk⟩
          have HK := Lib.hid (HK.out.then hk)
          clear hk
          go_wp2_with (fail)
          refine (twakes_yes _ (HGG.out.kept HK.out).nm).mono ?_
          rintro e wl ⟨rfl, hk⟩
          go_wp2_with (fail)
          go_ret
          exact ⟨rfl, (HK.out.then hk).below (Nat.le_refl _) (fun _ hf => hf.elim)⟩
      · have h8' : ((z8.toNat : Int) == 0) = false := by
          have : z8.toNat ≠ 0 := fun e => h8 (UInt8.toNat_inj.1 e)
          simpa using this
        have hnn : nosM 17 (r.set K X) = false := by rw [hno, show (z8 == 0) = false by simpa using h8, Bool.false_and]
        clear hno h8
        go_wp2_with (fail)
        have hp := tright_yes s d 17 HSD.out.1 HSD.out.2.1 (by decide) _ m c4 (r.set K X) u6 HY.out (by omega)
        rw [HOT.out X HXN.out, hnn] at hp
        refine hp.mono ?_
        clear hp e0 e1 f2 hnn
        rintro e u7 ⟨rfl, hk⟩
        have HK := Lib.hid (HK.out.then hk)
        have HE := Lib.hid (HE.out.kept hk (fun hf => hf))
        have HC := Lib.hid (HC.out.kept hk (fun hf => hf))
        have HS := Lib.hid (HS.out.kept hk (fun _ _ hf => hf))
        clear hk HY
        have e0 := HE.out.cell 0
        have e1 := HE.out.cell 1
        simp only [List.getElem?_toArray, List.getElem?_cons_zero, List.getElem?_cons_succ] at e0 e1
        go_wp2_with (fail)
        have hp := tright_yes d s 17 HSD.out.2.1 HSD.out.1 (by decide) _ m f r u7 HS.out (by omega)
        rw [right_swap s d 17 r HSD.out.1 HSD.out.2.1 (.inr rfl) (by rw [HRL.out]; omega), right_sealed s d 17 l r HSD.out.1 HSD.out.2.1 (.inr rfl) (by rw [HLL.out]; omega) HSL.out] at hp
        refine hp.mono ?_
        clear hp e0 e1
        rintro e u8 ⟨rfl, hk⟩
        have HK := Lib.hid (HK.out.then hk)
        have HE := Lib.hid (HE.out.kept hk (fun hf => hf))
        have HC := Lib.hid (HC.out.kept hk (fun hf => hf))
        have HS := Lib.hid (HS.out.kept hk (fun _ _ hf => hf))
        clear hk
        have e0 := HE.out.cell 0
        have e1 := HE.out.cell 1
        have c1 := HC.out.cell 1
        simp only [List.getElem?_toArray, List.getElem?_cons_zero, List.getElem?_cons_succ] at e0 e1 c1
        go_wp2_with (fail)
        first
          | rw [xor_val32 s (y % 32) HSD.out.1 (Nat.mod_lt _ (by decide))]
          | rw [xor_val32' s (y % 32) HSD.out.1 (Nat.mod_lt _ (by decide))]
        have hp := tright_yes (s ^^^ 2 ^ (y % 32)) d 17 (Nat.xor_lt_two_pow (n := 32) HSD.out.1 (pow_mod _ (Nat.mod_lt _ (by decide))).2) HSD.out.2.1 (by decide) _ m f r u8 HS.out (by omega)
        rw [right_addr s d 17 r HSD.out.1 HSD.out.2.1 (.inr rfl) (by rw [HRL.out]; omega) HSL.out.right (none_sealed s d 17 l r HSL.out) (y % 32) (Nat.mod_lt _ (by decide))] at hp
        refine hp.mono ?_
        clear hp e0 e1 c1
        rintro e u9 ⟨rfl, hk⟩
        have HK := Lib.hid (HK.out.then hk)
        clear hk
        go_wp2_with (fail)
        refine (twakes_yes _ (HGG.out.kept HK.out).nm).mono ?_
        rintro e wl ⟨rfl, hk⟩
        go_wp2_with (fail)
        go_ret
        exact ⟨rfl, (HK.out.then hk).below (Nat.le_refl _) (fun _ hf => hf.elim)⟩
    · have h6' : ((z6.toNat : Int) == 0) = false := by
        have : z6.toNat ≠ 0 := fun e => h6 (UInt8.toNat_inj.1 e)
        simpa using this
      clear hu h6
      refine wp_region_quiet_below (by kernel_rfl) (by kernel_rfl) ?_
      repeat (go_big_quiet_step (first | with_reducible exact quietS (hq1 _ _) | with_reducible exact quietS (hq2 _ _) | with_reducible exact quietS (hq3 _ _) | with_reducible exact quietK (hr1 _ _)))
      refine wpQuiet_nil ?_
      rintro u3 ⟨nq, hw⟩
      have hkz : Kept Nil u2 u3 := by rw [hw]; exact kept_grown _ _
      have HK := Lib.hid (HK.out.then hkz)
      have HE := Lib.hid (HE.out.kept hkz (fun hf => hf))
      have HC := Lib.hid (HC.out.kept hkz (fun hf => hf))
      have HS := Lib.hid (HS.out.kept hkz (fun _ _ hf => hf))
      clear hw hkz e0 e1 c2 hs1 hs2 hs3 hs4 hq1 hq2 hq3 hr1 HC1 HC2 HH1 HH2 HS2
      have c0 := HC.out.cell 0
      simp only [List.getElem?_toArray, List.getElem?_cons_zero, List.getElem?_cons_succ] at c0
      have hk16 := HSD.out.2.2.1
      have hmod : (k : Int).tmod (m : Int) = ((k % m : Nat) : Int) := (Int.ofNat_tmod k m).symm
      have hkm : k % m < m := Nat.mod_lt _ (by omega)
      generalize k % m = K at *
      go_wp2_with (fail)
      clear c0 hmod
      refine (bclone (some ⟨b0, o0, none⟩) m f r u3 HS.out (by omega)).mono ?_
      rintro e u4 ⟨v4, rfl, ho4, hk4⟩
      rw [HRL.out] at ho4
      obtain ⟨A4, c4, rfl⟩ := own_form ho4
      obtain ⟨g6, cs, rfl, hg6, hb6, hl6, ht6, hc6, hcc6⟩ := own_blk ho4 (by omega)
      have HY4 := Lib.hid (blk_byt hb6 ht6 HRL.out hc6 hcc6)
      have HGE := Lib.hid (show u3.heap.size ≤ g6 from hg6)
      have HWS := Lib.hid HK.out.size
      have HCS := Lib.hid (And.intro hb6 (And.intro hl6 (And.intro ht6 (And.intro hc6 hcc6))))
      have hkr : K < r.length := by rw [HRL.out]; exact hkm
      obtain ⟨b2, o2, eA, hcK⟩ := HY4.out.at (i := K) hkr
      injection eA with eA
      injection eA with eA1 eA2
      subst eA1 eA2
      rw [Nat.zero_add] at hcK
      have HK := Lib.hid (HK.out.then hk4)
      have HLT := Lib.hid (And.intro HE.out.lt (And.intro HC.out.lt HS.out.lt))
      have HE := Lib.hid (HE.out.kept hk4 (fun hf => hf))
      have HC := Lib.hid (HC.out.kept hk4 (fun hf => hf))
      have HS := Lib.hid (HS.out.kept hk4 (fun _ _ hf => hf))
      clear ho4 hk4 hg6 hb6 hl6 ht6 hc6 hcc6 HY4
      have cK := fun dr os => cell_regrown hcK dr os
      have c1 := fun dr os => cell_regrown (HC.out.cell 1) dr os
      have hy8 := HSD.out.2.2.2
      have hxv : bits .xor .u8 (r[K].toNat : Int) (1 + (y : Int) % 255) = ((r[K] ^^^ UInt8.ofNat (1 + y % 255)).toNat : Int) := xor_val _ _
      have HXN := Lib.hid (xor_ne r[K] (UInt8.ofNat (1 + y % 255)) (seal_byte y))
      have HOT := Lib.hid (fun x hx => right_other s d 17 r HSD.out.1 HSD.out.2.1 (.inr rfl) (by rw [HRL.out]; omega) HSL.out.right K hkr x hx)
      generalize r[K] ^^^ UInt8.ofNat (1 + y % 255) = X at *
      have hcl : (0 : Int) ≤ (K : Int) ∧ (K : Int) < (m : Int) := by omega
      obtain ⟨hcl1, hcl2⟩ := hcl
      go_wp2_with (fail)
      refine wp_region_tail 9 (by kernel_rfl) (by kernel_rfl) ?_
      simp only [List.take_succ_cons, List.take_zero, List.drop_succ_cons, List.drop_zero]
      repeat (go_big_quiet_step (fail))
      refine wpQuiet_nil ?_
      rintro u5 ⟨nq, hw⟩
      have hkz : Kept Nil u4 u5 := by rw [hw]; exact kept_grown _ _
      have HCB := Lib.hid (HCS.out.1.kept hkz (fun hf => hf))
      have HK := Lib.hid (HK.out.then hkz)
      have HE := Lib.hid (HE.out.kept hkz (fun hf => hf))
      have HC := Lib.hid (HC.out.kept hkz (fun hf => hf))
      have HS := Lib.hid (HS.out.kept hkz (fun _ _ hf => hf))
      clear hw hkz cK c1 hcK
      go_upto_region 14 with (first
        | (refine wpList_st rfl _ _ _ rfl g6 K rfl [.int .u8 (X.toNat : Int)] _ (by first | rfl | simp [Act.eval]) rfl infU' 5 _ HCB.out (by have := HCS.out.2.1; rw [List.length_singleton]; omega) (by intro u hu; simp at hu; subst hu; rfl) ?_; intro u6 hb hks hz; simp only [Act.put])
        | fail)
      have HY := Lib.hid (blk_set hb HCS.out.2.2.1 HRL.out hkm HCS.out.2.1 HCS.out.2.2.2.1 HCS.out.2.2.2.2)
      have HK := Lib.hid (HK.out.fresh hks (fun i hi => by cases hi; have := HWS.out; have := HGE.out; omega))
      have HE := Lib.hid (HE.out.kept hks (fun hf => by have := HLT.out.1; have := HGE.out; unfold One at hf; omega))
      have HC := Lib.hid (HC.out.kept hks (fun hf => by have := HLT.out.2.1; have := HGE.out; unfold One at hf; omega))
      have HS := Lib.hid (HS.out.kept hks (fun i hi hf => by have := HLT.out.2.2 i hi; have := HGE.out; unfold One at hf; omega))
      clear hb hks hz HCB HCS HLT HGE HWS hxv
      have f2 := HC.out.cell 2
      have e0 := HE.out.cell 0
      have e1 := HE.out.cell 1
      simp only [List.getElem?_toArray, List.getElem?_cons_zero, List.getElem?_cons_succ] at f2 e0 e1
      obtain ⟨b4, o4, eA, c6⟩ := HY.out.at (i := 6) (by rw [List.length_set, HRL.out]; omega)
      injection eA with eA
      injection eA with eA1 eA2
      subst eA1 eA2
      obtain ⟨b5, o5, eA, c7⟩ := HY.out.at (i := 7) (by rw [List.length_set, HRL.out]; omega)
      injection eA with eA
      injection eA with eA1 eA2
      subst eA1 eA2
      rw [Nat.zero_add] at c6 c7
      have hno := nos_two (r.set K X) (by rw [List.length_set, HRL.out]; omega)
      generalize (r.set K X)[6]'(by rw [List.length_set, HRL.out]; omega) = z8 at *
      generalize (r.set K X)[7]'(by rw [List.length_set, HRL.out]; omega) = z9 at *
      by_cases h8 : z8 = 0
      · subst h8
        by_cases h9 : z9 = 0
        · subst h9
          have hnn : nosM 17 (r.set K X) = true := by rw [hno]; rfl
          clear hno
          go_wp2_with (fail)
          have hp := tright_yes s d 17 HSD.out.1 HSD.out.2.1 (by decide) _ m c4 (r.set K X) u6 HY.out (by omega)
          rw [HOT.out X HXN.out, hnn] at hp
          refine hp.mono ?_
          clear hp e0 e1 f2 hnn
          rintro e u7 ⟨rfl, hk⟩
          have HK := Lib.hid (HK.out.then hk)
          have HE := Lib.hid (HE.out.kept hk (fun hf => hf))
          have HC := Lib.hid (HC.out.kept hk (fun hf => hf))
          have HS := Lib.hid (HS.out.kept hk (fun _ _ hf => hf))
          clear hk HY
          have e0 := HE.out.cell 0
          have e1 := HE.out.cell 1
          simp only [List.getElem?_toArray, List.getElem?_cons_zero, List.getElem?_cons_succ] at e0 e1
          go_wp2_with (fail)
          have hp := tright_yes d s 17 HSD.out.2.1 HSD.out.1 (by decide) _ m f r u7 HS.out (by omega)
          rw [right_swap s d 17 r HSD.out.1 HSD.out.2.1 (.inr rfl) (by rw [HRL.out]; omega), right_sealed s d 17 l r HSD.out.1 HSD.out.2.1 (.inr rfl) (by rw [HLL.out]; omega) HSL.out] at hp
          refine hp.mono ?_
          clear hp e0 e1
          rintro e u8 ⟨rfl, hk⟩
          have HK := Lib.hid (HK.out.then hk)
          have HE := Lib.hid (HE.out.kept hk (fun hf => hf))
          have HC := Lib.hid (HC.out.kept hk (fun hf => hf))
          have HS := Lib.hid (HS.out.kept hk (fun _ _ hf => hf))
          clear hk
          have e0 := HE.out.cell 0
          have e1 := HE.out.cell 1
          have c1 := HC.out.cell 1
          simp only [List.getElem?_toArray, List.getElem?_cons_zero, List.getElem?_cons_succ] at e0 e1 c1
          go_wp2_with (fail)
          first
            | rw [xor_val32 s (y % 32) HSD.out.1 (Nat.mod_lt _ (by decide))]
            | rw [xor_val32' s (y % 32) HSD.out.1 (Nat.mod_lt _ (by decide))]
          have hp := tright_yes (s ^^^ 2 ^ (y % 32)) d 17 (Nat.xor_lt_two_pow (n := 32) HSD.out.1 (pow_mod _ (Nat.mod_lt _ (by decide))).2) HSD.out.2.1 (by decide) _ m f r u8 HS.out (by omega)
          rw [right_addr s d 17 r HSD.out.1 HSD.out.2.1 (.inr rfl) (by rw [HRL.out]; omega) HSL.out.right (none_sealed s d 17 l r HSL.out) (y % 32) (Nat.mod_lt _ (by decide))] at hp
          refine hp.mono ?_
          clear hp e0 e1 c1
          rintro e u9 ⟨rfl, hk⟩
          have HK := Lib.hid (HK.out.then hk)
          clear hk
          go_wp2_with (fail)
          refine (twakes_yes _ (HGG.out.kept HK.out).nm).mono ?_
          rintro e wl ⟨rfl, hk⟩
          go_wp2_with (fail)
          go_ret
          exact ⟨rfl, (HK.out.then hk).below (Nat.le_refl _) (fun _ hf => hf.elim)⟩
        · have h9' : ((z9.toNat : Int) == 0) = false := by
            have : z9.toNat ≠ 0 := fun e => h9 (UInt8.toNat_inj.1 e)
            simpa using this
          have hnn : nosM 17 (r.set K X) = false := by rw [hno, show (z9 == 0) = false by simpa using h9, Bool.and_false]
          clear hno h9
          go_wp2_with (fail)
          have hp := tright_yes s d 17 HSD.out.1 HSD.out.2.1 (by decide) _ m c4 (r.set K X) u6 HY.out (by omega)
          rw [HOT.out X HXN.out, hnn] at hp
          refine hp.mono ?_
          clear hp e0 e1 f2 hnn
          rintro e u7 ⟨rfl, hk⟩
          have HK := Lib.hid (HK.out.then hk)
          have HE := Lib.hid (HE.out.kept hk (fun hf => hf))
          have HC := Lib.hid (HC.out.kept hk (fun hf => hf))
          have HS := Lib.hid (HS.out.kept hk (fun _ _ hf => hf))
          clear hk HY
          have e0 := HE.out.cell 0
          have e1 := HE.out.cell 1
          simp only [List.getElem?_toArray, List.getElem?_cons_zero, List.getElem?_cons_succ] at e0 e1
          go_wp2_with (fail)
          have hp := tright_yes d s 17 HSD.out.2.1 HSD.out.1 (by decide) _ m f r u7 HS.out (by omega)
          rw [right_swap s d 17 r HSD.out.1 HSD.out.2.1 (.inr rfl) (by rw [HRL.out]; omega), right_sealed s d 17 l r HSD.out.1 HSD.out.2.1 (.inr rfl) (by rw [HLL.out]; omega) HSL.out] at hp
          refine hp.mono ?_
          clear hp e0 e1
          rintro e u8 ⟨rfl, hk⟩
          have HK := Lib.hid (HK.out.then hk)
          have HE := Lib.hid (HE.out.kept hk (fun hf => hf))
          have HC := Lib.hid (HC.out.kept hk (fun hf => hf))
          have HS := Lib.hid (HS.out.kept hk (fun _ _ hf => hf))
          clear hk
          have e0 := HE.out.cell 0
          have e1 := HE.out.cell 1
          have c1 := HC.out.cell 1
          simp only [List.getElem?_toArray, List.getElem?_cons_zero, List.getElem?_cons_succ] at e0 e1 c1
          go_wp2_with (fail)
          first
            | rw [xor_val32 s (y % 32) HSD.out.1 (Nat.mod_lt _ (by decide))]
            | rw [xor_val32' s (y % 32) HSD.out.1 (Nat.mod_lt _ (by decide))]
          have hp := tright_yes (s ^^^ 2 ^ (y % 32)) d 17 (Nat.xor_lt_two_pow (n := 32) HSD.out.1 (pow_mod _ (Nat.mod_lt _ (by decide))).2) HSD.out.2.1 (by decide) _ m f r u8 HS.out (by omega)
          rw [right_addr s d 17 r HSD.out.1 HSD.out.2.1 (.inr rfl) (by rw [HRL.out]; omega) HSL.out.right (none_sealed s d 17 l r HSL.out) (y % 32) (Nat.mod_lt _ (by decide))] at hp
          refine hp.mono ?_
          clear hp e0 e1 c1
          rintro e u9 ⟨rfl, hk⟩
          have HK := Lib.hid (HK.out.then hk)
          clear hk
          go_wp2_with (fail)
          refine (twakes_yes _ (HGG.out.kept HK.out).nm).mono ?_
          rintro e wl ⟨rfl, hk⟩
          go_wp2_with (fail)
          go_ret
          exact ⟨rfl, (HK.out.then hk).below (Nat.le_refl _) (fun _ hf => hf.elim)⟩
      · have h8' : ((z8.toNat : Int) == 0) = false := by
          have : z8.toNat ≠ 0 := fun e => h8 (UInt8.toNat_inj.1 e)
          simpa using this
        have hnn : nosM 17 (r.set K X) = false := by rw [hno, show (z8 == 0) = false by simpa using h8, Bool.false_and]
        clear hno h8
        go_wp2_with (fail)
        have hp := tright_yes s d 17 HSD.out.1 HSD.out.2.1 (by decide) _ m c4 (r.set K X) u6 HY.out (by omega)
        rw [HOT.out X HXN.out, hnn] at hp
        refine hp.mono ?_
        clear hp e0 e1 f2 hnn
        rintro e u7 ⟨rfl, hk⟩
        have HK := Lib.hid (HK.out.then hk)
        have HE := Lib.hid (HE.out.kept hk (fun hf => hf))
        have HC := Lib.hid (HC.out.kept hk (fun hf => hf))
        have HS := Lib.hid (HS.out.kept hk (fun _ _ hf => hf))
        clear hk HY
        have e0 := HE.out.cell 0
        have e1 := HE.out.cell 1
        simp only [List.getElem?_toArray, List.getElem?_cons_zero, List.getElem?_cons_succ] at e0 e1
        go_wp2_with (fail)
        have hp := tright_yes d s 17 HSD.out.2.1 HSD.out.1 (by decide) _ m f r u7 HS.out (by omega)
        rw [right_swap s d 17 r HSD.out.1 HSD.out.2.1 (.inr rfl) (by rw [HRL.out]; omega), right_sealed s d 17 l r HSD.out.1 HSD.out.2.1 (.inr rfl) (by rw [HLL.out]; omega) HSL.out] at hp
        refine hp.mono ?_
        clear hp e0 e1
        rintro e u8 ⟨rfl, hk⟩
        have HK := Lib.hid (HK.out.then hk)
        have HE := Lib.hid (HE.out.kept hk (fun hf => hf))
        have HC := Lib.hid (HC.out.kept hk (fun hf => hf))
        have HS := Lib.hid (HS.out.kept hk (fun _ _ hf => hf))
        clear hk
        have e0 := HE.out.cell 0
        have e1 := HE.out.cell 1
        have c1 := HC.out.cell 1
        simp only [List.getElem?_toArray, List.getElem?_cons_zero, List.getElem?_cons_succ] at e0 e1 c1
        go_wp2_with (fail)
        first
          | rw [xor_val32 s (y % 32) HSD.out.1 (Nat.mod_lt _ (by decide))]
          | rw [xor_val32' s (y % 32) HSD.out.1 (Nat.mod_lt _ (by decide))]
        have hp := tright_yes (s ^^^ 2 ^ (y % 32)) d 17 (Nat.xor_lt_two_pow (n := 32) HSD.out.1 (pow_mod _ (Nat.mod_lt _ (by decide))).2) HSD.out.2.1 (by decide) _ m f r u8 HS.out (by omega)
        rw [right_addr s d 17 r HSD.out.1 HSD.out.2.1 (.inr rfl) (by rw [HRL.out]; omega) HSL.out.right (none_sealed s d 17 l r HSL.out) (y % 32) (Nat.mod_lt _ (by decide))] at hp
        refine hp.mono ?_
        clear hp e0 e1 c1
        rintro e u9 ⟨rfl, hk⟩
        have HK := Lib.hid (HK.out.then hk)
        clear hk
        go_wp2_with (fail)
        refine (twakes_yes _ (HGG.out.kept HK.out).nm).mono ?_
        rintro e wl ⟨rfl, hk⟩
        go_wp2_with (fail)
        go_ret
        exact ⟨rfl, (HK.out.then hk).below (Nat.le_refl _) (fun _ hf => hf.elim)⟩
theorem tseals_yes (A : Option Addr) (n c : Nat) (bl : List UInt8) (x : EndA) (g : ChA) (w : World) (h : Byt w A n c bl) (hx : x.s < 4294967296 ∧ x.t < 4294967296) (hg : g.k < 65536 ∧ g.y < 256) (hG : Gl w) :
    Calls Tryd.prog 6 #[.slice A n c, .agg #[.int .u32 (x.s : Int), .int .u32 (x.t : Int)], .agg #[.int .u16 (g.k : Int), .int .u8 (g.y : Int), .bool g.u]] w fun e w' => e = .returned (.bool true) ∧ Below w.heap.size w w' := by
  obtain ⟨k, y, u⟩ := g
  cases u
  · exact tseals6 A n c bl x.s x.t k y w h hx.1 hx.2 hg.1 hg.2 hG
  · exact tseals17 A n c bl x.s x.t k y w h hx.1 hx.2 hg.1 hg.2 hG
end Go.Proofs.YthjbabkmjmfmjaaDoor
