/- tolllaw01.CutLays: the walk. -/
import Derived.Test.YtjfffddaiefggaaLaysM
import Derived.Test.YtjfffddaiefggaaStays
import Derived.Test.YtjfffddaiefggaaBackM
import Derived.Deep.DeepCutAuto
import Derived.Deep.CutRange
import Derived.Deep.CutBlock
namespace Go.Proofs.Ytjfffddaiefggaa
open Go.RowKit
set_option linter.unusedVariables false

theorem be_two (V : Nat) : beAll 1 [V % 256, V / 256 % 256] = [UInt8.ofNat V, UInt8.ofNat (V / 256)] := by
  simp [beAll, beM, List.range_succ]
  constructor <;> (apply UInt8.toNat_inj.1; simp [UInt8.toNat_ofNat'])
theorem be_one2 (V : Nat) : beAll 2 [V % 65536] = beM 2 (V % 65536) := by simp [beAll]
theorem and_u32 (x : Nat) (hx : x < 4294967296) : bits .and .u32 (x : Int) 65535 = ((x % 65536 : Nat) : Int) := by
  have := u32_and_nat x 65535 hx (by omega)
  rw [show ((65535 : Nat) : Int) = 65535 from rfl] at this
  rw [this, show (65535 : Nat) = 2 ^ 16 - 1 from rfl, Nat.and_two_pow_sub_one_eq_mod]
theorem be_four (V : Nat) : beAll 4 [V, (V + 1) % 4294967296] = beM 4 V ++ beM 4 ((V + 1) % 4294967296) := by simp [beAll]

set_option maxRecDepth 100000 in
set_option maxHeartbeats 4000000 in
theorem lays_all (A2 : Option Addr) (n2 c2 : Nat) (ts : List AcD) (A : Option Addr) (n c : Nat) (lx : List UInt8) (A' : Option Addr) (n' c' : Nat) (ly : List UInt8) (w : World) (h2 : Acts w A2 n2 c2 ts) (hX : Byt w A n c lx) (hY : Byt w A' n' c' ly) :
    Calls Try.prog 4 #[.slice A2 n2 c2, .slice A n c, .slice A' n' c'] w fun e w' => e = .returned (.bool true) ∧ Below w.heap.size w w' := by
  have hnc := hX.2.1
  have hcc := hX.2.2.1
  have hnc' := hY.2.1
  have hcc' := hY.2.2.1
  have hn2 := h2.2.1
  have hc2 := h2.2.2.1
  have HX := Lib.hid hX
  have HY := Lib.hid hY
  have HA := Lib.hid h2
  have HL := Lib.hid h2.1
  clear h2 hX hY
  go_enter Try.func4, Try.ntmps4
  go_wp2_with fail
  refine (Lay_yes _).mono ?_
  rintro e w1 ⟨rfl, hp1, hk1⟩
  obtain ⟨g, hg⟩ : ∃ g, g = w.heap.size := ⟨_, rfl⟩
  rw [← hg] at hp1 ⊢
  have HP1 := Lib.hid hp1
  have HK1 := Lib.hid hk1
  have HG := Lib.hid hg
  clear hp1 hk1 hg
  go_wp2
  go_loopw [8, 20] (fun vw i wr => ∃ (k : Nat) (v : Value) (l : List UInt8) (B : Option Addr) (m d : Nat), k ≤ n2 ∧ k ≤ 60 ∧ i = .int .i64 k ∧ vw = .slice B m d ∧ l.length = m ∧ m ≤ 40 * k ∧ Lays w wr g v (.slice B m d) l l) (fun _ i _ => n2 - (intOf i).toNat)
  case atStart => exact ⟨0, _, [], none, 0, 0, Nat.zero_le _, Nat.zero_le _, rfl, rfl, rfl, Nat.le_refl _, HP1.out, World.ownsRow_nil _ _ _ _, (fun i hi => by cases hi), HK1.out, by rw [HG.out]; exact Nat.le_refl _⟩
  case round =>
    obtain ⟨k, v, l, B, m, d, hk, hk6, rfl, rfl, hlm, hm, hly⟩ := hrel
    by_cases hlt : k < n2 ∧ k ≠ 60
    · obtain ⟨hlt, h60⟩ := hlt
      have hth := HA.out.kept hly.kept
      have hkl : k < ts.length := by rw [HL.out]; exact hlt
      obtain ⟨b, o, rfl, hce⟩ := hth.2.2.2.2 (by omega)
      obtain ⟨q0, q1, q2, q3⟩ := hce k hkl
      have hok := HA.out.2.2.2.1 _ (List.getElem_mem hkl)
      have hn0 := hok.n0
      have hn1 := hok.n1
      clear hce hth
      generalize ts[k] = t at *
      obtain ⟨what, x, V, tB, bn, bc, tb⟩ := t
      simp only at q0 q1 q2 q3 hn0 hn1
      have hb60 : ((k : Int) == 60) = false := by simp; omega
      obtain ⟨pm, hmin, hpm, hp4⟩ : ∃ pm : Nat, (if (40 : Int) < (bn : Int) then (40 : Int) else (bn : Int)) = (pm : Int) ∧ pm ≤ bn ∧ pm ≤ 40 := ⟨min bn 40, by split <;> omega, by omega, by omega⟩
      have hbn := hok.byt.2.1
      have hbc := hok.byt.2.2.1
      have hvd := hok.vd
      simp only at hbn hbc hvd
      have hslp := run_cut_hi (P := Try.prog) Try.underlying22 inf5.1 tB bn bc pm (pm : Int) rfl (by omega)
      have HBYT := Lib.hid (hok.byt.pre hpm)
      have HLY := Lib.hid hly
      clear hok hly
      obtain ⟨i0, hi, hz0, hz1, hz2⟩ := info_parts Try.infb
      go_upto_block 2 with (fail)
      go_cut [8, 12, 13, 14] (fun vw _ _ _ wx => ∃ (v5 : Value) (l5 : List UInt8) (B5 : Option Addr) (m5 d5 : Nat), vw = .slice B5 m5 d5 ∧ l5.length = m5 ∧ m5 ≤ 40 * (k + 1) ∧ Lays w wx g v5 (.slice B5 m5 d5) l5 l5)
      case first =>
          have hBa := HLY.out.alloc ((Kept.refl Nil wr).alloc (.cells #[.int .i64 what, .int .i64 x, .int .u32 (V : Int), .slice tB bn bc] 32))
          have hBn := Blo.new wr 32 #[.int .i64 what, .int .i64 x, .int .u32 (V : Int), .slice tB bn bc]
          have hgf : ∀ i, foot g v i → i ≠ wr.heap.size := fun i hf => by have := HLY.out.pad.foot_lt _ hf; omega
          have hgw : ∀ i, (Value.slice B m d).ownBlock = some i → i ≠ wr.heap.size := fun i hf => by have := (HLY.out.own.lt _ hf).2; omega
          have HBA := Lib.hid hBa
          have HBN := Lib.hid hBn
          clear hBa hBn
          generalize hwa : wr.alloc (.cells #[.int .i64 what, .int .i64 x, .int .u32 (V : Int), .slice tB bn bc] 32) = wa at *
          generalize hga : wr.heap.size = ga at *
          have y1 := HBN.out.cell 1
          have y2 := HBN.out.cell 2
          simp at y1 y2
          have hgf' : ∀ i, foot g v i → i ≠ ga := hgf
          have hgw' : ∀ i, (Value.slice B m d).ownBlock = some i → i ≠ ga := hgw
          have HGF := Lib.hid hgf'
          have HGW := Lib.hid hgw'
          clear hwa hga q0 q1 q2 q3 hslp hmin hgf' hgf hgw' hgw
          by_cases h0 : what = 0
          · subst h0
            have hcs : #[Value.int .u8 ((V : Int) % 256), .int .u8 ((V : Int) / 256 % 256)] = (bys [UInt8.ofNat V, UInt8.ofNat (V / 256)]).toArray := by simp [bys, UInt8.toNat_ofNat']
            have HCS := Lib.hid hcs
            clear hcs
            go_wp2_with fail
            refine (PByte_cs g g _ 2 v l [V % 256, V / 256 % 256] _ ?_ rfl wa _ ?_ ?_ ?_ ?_ ?_).mono ?_
            · simp
            · rfl
            · exact HBA.out.pad
            · exact HBA.out.size
            · simp; omega
            · intro z hz; simp at hz; omega
            rintro e w2 ⟨v2, rfl, hp2, hk2, hn2⟩
            rw [be_two] at hp2
            have H2 := Lib.hid (HBA.out.pad' hp2 hk2 hn2)
            have y22 := (HBN.out.kept hk2 (fun hf => HGF.out _ hf rfl)).cell 2
            simp at y22
            have hal := (Kept.refl Nil w2).alloc (.cells #[Value.int .u8 ((V : Int) % 256), .int .u8 ((V : Int) / 256 % 256)] 5)
            have H3 := Lib.hid (H2.out.alloc hal)
            have hby : Byt (w2.alloc (.cells #[Value.int .u8 ((V : Int) % 256), .int .u8 ((V : Int) / 256 % 256)] 5)) (some ⟨w2.heap.size, 0, none⟩) 2 2 [UInt8.ofNat V, UInt8.ofNat (V / 256)] := by rw [HCS.out]; exact Byt.lit w2 [UInt8.ofNat V, UInt8.ofNat (V / 256)] 5 (by simp)
            have HBY := Lib.hid hby
            have how := H3.out.own
            rw [hlm] at how
            have HOW := Lib.hid how
            have HSZ := Lib.hid H3.out.size
            have HLN : Hid (([UInt8.ofNat V, UInt8.ofNat (V / 256)] : List UInt8).length = 2) := rfl
            clear hp2 hk2 hn2 hal hby how
            go_wp2_with (at_builtin; refine wpList_any rfl (.tmp 48) (.tmp 56) 22 rfl g 5 i0 (.int .u8 0) Try.underlying22 hi hz0 hz1 hz2 rfl (.slice B m d) m (bys l) rfl (by exact HOW.out) (some ⟨w2.heap.size, 0, none⟩) 2 2 [UInt8.ofNat V, UInt8.ofNat (V / 256)] rfl (by exact HBY.out) (by omega) (by exact HSZ.out) ?_; intro v3 w3 ho3 hg3 hn3)
            have HG3 := Lib.hid hg3
            have hx3 := (H3.out.grown HLN.out (by rw [hlm]; exact ho3) HG3.out hn3)
            obtain ⟨B3, d3, rfl⟩ := own_form ho3
            have H4 := Lib.hid hx3
            clear ho3 hg3 hn3 hx3
            go_wp2
            go_meet
            exact ⟨v2, _, B3, _, d3, rfl, by have := HLN.out; rw [List.length_append, this, hlm], by omega, H4.out⟩
          by_cases h1 : what = 1
          · subst h1
            have hand := and_u32 V hvd
            have HAND := Lib.hid hand
            clear hand
            go_wp2_with fail
            refine (PTwo_at g g _ v l (V % 65536) _ ?_ wa _ ?_ ?_ ?_ ?_ ?_).mono ?_
            · simp [IntKind.wrap, IntKind.bits, IntKind.signed]
            · rfl
            · exact HBA.out.pad
            · exact HBA.out.size
            · omega
            · omega
            rintro e w2 ⟨v2, rfl, hp2, hk2, hn2⟩
            rw [be_one2] at hp2
            have H2 := Lib.hid (HBA.out.pad' hp2 hk2 hn2)
            have y22 := (HBN.out.kept hk2 (fun hf => HGF.out _ hf rfl)).cell 2
            simp at y22
            clear hp2 hk2 hn2
            go_wp2_with fail
            rw [HAND.out]
            refine (rbytes2 (V % 65536) _ (by omega)).mono ?_
            rintro e w4 ⟨v4, rfl, hm4⟩
            obtain ⟨ho4, hk4⟩ := hm4
            rw [beM_len] at ho4
            obtain ⟨A4, c4, rfl, hb4, _⟩ := Byt.of_own ho4
            have H3 := Lib.hid (H2.out.alloc hk4)
            have HBY := Lib.hid hb4
            have how := H3.out.own
            rw [hlm] at how
            have HOW := Lib.hid how
            have HSZ := Lib.hid H3.out.size
            have HLN := Lib.hid (beM_len 2 (V % 65536))
            clear ho4 hk4 hb4 how
            go_wp2_with (at_builtin; refine wpList_any rfl (.tmp 66) (.tmp 70) 22 rfl g 5 i0 (.int .u8 0) Try.underlying22 hi hz0 hz1 hz2 rfl (.slice B m d) m (bys l) rfl (by exact HOW.out) A4 2 c4 (beM 2 (V % 65536)) rfl (by exact HBY.out) (by omega) (by exact HSZ.out) ?_; intro v3 w3 ho3 hg3 hn3)
            have HG3 := Lib.hid hg3
            have hx3 := (H3.out.grown HLN.out (by rw [hlm]; exact ho3) HG3.out hn3)
            obtain ⟨B3, d3, rfl⟩ := own_form ho3
            have H4 := Lib.hid hx3
            clear ho3 hg3 hn3 hx3
            go_wp2
            go_meet
            exact ⟨v2, _, B3, _, d3, rfl, by have := HLN.out; rw [List.length_append, this, hlm], by omega, H4.out⟩
          by_cases h2 : what = 2
          · with_reducible refine Box.out ?_
            as_aux_lemma =>
            with_reducible refine Box.mk ?_
            subst h2
            go_wp2_with fail
            refine (PFour_cs g g _ 2 v l [V, (V + 1) % 4294967296] _ ?_ rfl wa _ ?_ ?_ ?_ ?_ ?_).mono ?_
            · simp [IntKind.wrap, IntKind.bits, IntKind.signed]
            · rfl
            · exact HBA.out.pad
            · exact HBA.out.size
            · simp; omega
            · intro z hz; simp at hz; omega
            rintro e w2 ⟨v2, rfl, hp2, hk2, hn2⟩
            rw [be_four] at hp2
            have H2 := Lib.hid (HBA.out.pad' hp2 hk2 hn2)
            have hbg2 := HBN.out.kept hk2 (fun hf => HGF.out _ hf rfl)
            have y22 := hbg2.cell 2
            simp at y22
            have HBG2 := Lib.hid hbg2
            clear hbg2
            clear hp2 hk2 hn2
            go_wp2_with fail
            go_region_law (first
              | (refine step_any rfl (.tmp 82) (.tmp 85) 22 rfl g 5 i0 (.int .u8 0) Try.underlying22 hi hz0 hz1 hz2 rfl (.slice B m d) m (bys l) rfl (by exact HOW.out) A4 4 c4 (beM 4 V) rfl (by exact HBY.out) (by omega) (by exact HSZ.out) ?_; intro v5 w5 ho5 hg5 hn5; obtain ⟨y25, hx5⟩ := lays_step H3.out HBG.out hlm (beM_len 4 V) ho5 hg5 hn5 HGW.out; obtain ⟨B5, d5, rfl⟩ := own_form ho5; have H5 := Lib.hid hx5; have hy5 := y25.cell 2; simp at hy5; have HBG5 := Lib.hid y25; clear ho5 hg5 hn5 hx5 y25)
              | (refine step_any rfl (.tmp 86) (.tmp 90) 22 rfl g 5 i0 (.int .u8 0) Try.underlying22 hi hz0 hz1 hz2 rfl (.slice B5 (m + 4) d5) (m + 4) (bys (l ++ beM 4 V)) rfl (by exact HOW6.out) A6 4 c6 (beM 4 ((V + 1) % 4294967296)) rfl (by exact HBY6.out) (by omega) (by exact HSZ6.out) ?_; intro v7 w7 ho7 hg7 hn7; have HO7 := Lib.hid ho7; have HG7 := Lib.hid hg7; have HN7 := Lib.hid hn7; obtain ⟨B7, d7, rfl⟩ := own_form ho7; clear ho7 hg7 hn7)
              | (go_simp; go_at_call 32; (with_reducible refine (rbytes4 V _ hvd).mono ?_); rintro e w4 ⟨v4, rfl, hm4⟩; obtain ⟨ho4, hk4⟩ := hm4; rw [beM_len] at ho4; obtain ⟨A4, c4, rfl, hb4, _⟩ := Byt.of_own ho4; have K4 : Kept Nil w2 w4 := (Kept.refl Nil w2).drew.then hk4; have H3 := Lib.hid (H2.out.alloc K4); have HBY := Lib.hid hb4; have how := H3.out.own; rw [hlm] at how; have HOW := Lib.hid how; have HSZ := Lib.hid H3.out.size; have hbg := HBG2.out.kept K4 (fun hf => hf); have y24 := hbg.cell 2; simp at y24; have HBG := Lib.hid hbg; clear ho4 hk4 hb4 how hbg K4)
              | (go_simp; go_at_call 32; refine Calls.mono (rbytes4_at ((V + 1) % 4294967296) _ ?_ _ ?_) ?_; simp [IntKind.wrap, IntKind.bits, IntKind.signed]; omega; rintro e w6 ⟨v6, rfl, hm6⟩; obtain ⟨ho6, hk6⟩ := hm6; rw [beM_len] at ho6; obtain ⟨A6, c6, rfl, hb6, _⟩ := Byt.of_own ho6; have H6 := Lib.hid (H5.out.alloc hk6); have HBY6 := Lib.hid hb6; have how := H6.out.own; rw [List.length_append, beM_len, hlm] at how; have HOW6 := Lib.hid how; have HSZ6 := Lib.hid H6.out.size; clear ho6 hk6 hb6 how))
            all_goals
              have hx7 := H6.out.grown (beM_len 4 ((V + 1) % 4294967296)) (by rw [List.length_append, beM_len, hlm]; exact HO7.out) HG7.out HN7.out
              rw [List.append_assoc] at hx7
              have H7 := Lib.hid hx7
              clear hx7
              go_wp2
              go_meet
              exact ⟨v2, _, B7, _, d7, rfl, by simp [beM_len, hlm], by omega, H7.out⟩
          by_cases h3 : what = 3
          · subst h3
            have hcs : #[Value.int .u8 1, .int .u8 ((V : Int) % 256), .int .u8 0, .int .u8 0, .int .u8 0, .int .u8 0] = (bys [1, UInt8.ofNat V, 0, 0, 0, 0]).toArray := by simp [bys, UInt8.toNat_ofNat']
            have HCS := Lib.hid hcs
            clear hcs
            have H1 := Lib.hid (HBA.out.alloc ((Kept.refl Nil wa).alloc (.cells #[Value.int .u8 1, .int .u8 ((V : Int) % 256), .int .u8 0, .int .u8 0, .int .u8 0, .int .u8 0] 39)))
            have hgm := Blo.new wa 39 #[Value.int .u8 1, .int .u8 ((V : Int) % 256), .int .u8 0, .int .u8 0, .int .u8 0, .int .u8 0]
            have HGM := Lib.hid hgm
            clear hgm
            go_wp2_with fail
            refine (PMac_at g g _ v l [1, UInt8.ofNat V, 0, 0, 0, 0] rfl _ ?_ _ _ ?_ ?_ ?_ ?_).mono ?_
            · exact HCS.out
            · simp
            · exact H1.out.pad
            · exact H1.out.size
            · omega
            rintro e w2 ⟨v2, rfl, hp2, hk2, hn2⟩
            have H2 := Lib.hid (H1.out.pad' hp2 hk2 hn2)
            have hb2 := HGM.out.kept hk2 (fun hf => Nat.lt_irrefl _ (HBA.out.pad.foot_lt _ hf))
            rw [HCS.out] at hb2
            have H3 := Lib.hid H2.out
            have HBY := Lib.hid (Byt.of_blo hb2 (by simp))
            have how := H3.out.own
            rw [hlm] at how
            have HOW := Lib.hid how
            have HSZ := Lib.hid H3.out.size
            have HLN : Hid (([1, UInt8.ofNat V, 0, 0, 0, 0] : List UInt8).length = 6) := rfl
            clear hp2 hk2 hn2 how hb2
            go_wp2_with (at_builtin; refine wpList_any rfl (.tmp 102) (.tmp 103) 22 rfl g 5 i0 (.int .u8 0) Try.underlying22 hi hz0 hz1 hz2 rfl (.slice B m d) m (bys l) rfl (by exact HOW.out) (some ⟨wa.heap.size, 0, none⟩) 6 6 [1, UInt8.ofNat V, 0, 0, 0, 0] rfl (by exact HBY.out) (by omega) (by exact HSZ.out) ?_; intro v3 w3 ho3 hg3 hn3)
            have HG3 := Lib.hid hg3
            have hx3 := (H3.out.grown HLN.out (by rw [hlm]; exact ho3) HG3.out hn3)
            obtain ⟨B3, d3, rfl⟩ := own_form ho3
            have H4 := Lib.hid hx3
            clear ho3 hg3 hn3 hx3
            go_wp2
            go_meet
            exact ⟨v2, _, B3, _, d3, rfl, by have := HLN.out; rw [List.length_append, this, hlm], by omega, H4.out⟩
          by_cases h4 : what = 4
          · subst h4
            have hbb : Byt w tB pm bc (tb.take pm) := HBYT.out
            go_wp2_with fail
            refine (PByte_yes g g v l tB pm bc ((tb.take pm).map UInt8.toNat) _ ?_ ?_ ?_ ?_ ?_ ?_).mono ?_
            · exact HBA.out.pad
            · exact (hbb.kept HBA.out.kept (fun _ _ hf => hf)).nums
            · exact HBA.out.size
            · intro i hi hf
              have h1 := HBA.out.pad.foot_ge _ hf
              have h2 := hbb.lt i hi
              have := HBA.out.ge
              omega
            · omega
            · intro z hz
              simp only [List.mem_map] at hz
              obtain ⟨b', _, rfl⟩ := hz
              have := b'.toNat_lt
              omega
            rintro e w2 ⟨v2, rfl, hp2, hk2, hn2⟩
            rw [beAll_bytes] at hp2
            have H3 := Lib.hid (HBA.out.pad' hp2 hk2 hn2)
            have HBY := Lib.hid (hbb.kept H3.out.kept (fun _ _ hf => hf))
            have how := H3.out.own
            rw [hlm] at how
            have HOW := Lib.hid how
            have HSZ := Lib.hid H3.out.size
            have HLN := Lib.hid hbb.1
            clear hp2 hk2 hn2 hbb how
            go_wp2_with (at_builtin; refine wpList_any rfl (.tmp 110) (.tmp 111) 22 rfl g 5 i0 (.int .u8 0) Try.underlying22 hi hz0 hz1 hz2 rfl (.slice B m d) m (bys l) rfl (by exact HOW.out) tB pm bc (tb.take pm) rfl (by exact HBY.out) (by omega) (by exact HSZ.out) ?_; intro v3 w3 ho3 hg3 hn3)
            have HG3 := Lib.hid hg3
            have hx3 := (H3.out.grown HLN.out (by rw [hlm]; exact ho3) HG3.out hn3)
            obtain ⟨B3, d3, rfl⟩ := own_form ho3
            have H4 := Lib.hid hx3
            clear ho3 hg3 hn3 hx3
            go_wp2
            go_meet
            exact ⟨v2, _, B3, _, d3, rfl, by have := HLN.out; rw [List.length_append, this, hlm], by omega, H4.out⟩
          by_cases h7 : what = 7
          · with_reducible refine Box.out ?_
            as_aux_lemma =>
            with_reducible refine Box.mk ?_
            subst h7
            have hand := and_u32 V hvd
            have HAND := Lib.hid hand
            clear hand
            by_cases hmay : 0 ≤ x ∧ x + 2 ≤ (m : Int)
            · obtain ⟨hx0, hx2⟩ := hmay
              obtain ⟨kx, rfl⟩ := Int.eq_ofNat_of_zero_le hx0
              obtain ⟨r, rfl⟩ : ∃ r, B = some ⟨r, 0, none⟩ := by
                have ho := HBA.out.own
                rcases ho.2 with ⟨e, e'⟩ | ⟨g', cap, cur, e, _⟩
                · rw [hlm] at e'; omega
                · injection e with e1 e2; exact ⟨g', e1⟩
              have hmd : m ≤ d := by
                have ho := HBA.out.own
                rcases ho.2 with ⟨e, e'⟩ | ⟨g', cap, cur, e, _, _, hq, _⟩
                · cases e
                · injection e with e1 e2 e3; omega
              have hsl := run_cut_lo (P := Try.prog) Try.underlying22 inf5.1 inf5.2 (some ⟨r, 0, none⟩) m d kx (kx : Int) rfl (by omega)
              rw [cutA_lt (by omega)] at hsl
              go_wp2_with fail
              refine (Fill_at g g v l kx (V % 65536) _ ?_ wa ?_ ?_ ?_ ?_).mono ?_
              · simp [IntKind.wrap, IntKind.bits, IntKind.signed]
              · exact HBA.out.pad
              · omega
              · omega
              · omega
              rintro e w2 ⟨rfl, hp2, hk2⟩
              have H2 := Lib.hid (HBA.out.pad' hp2 hk2 (Newer.refl _ _))
              have hbg := HBN.out.kept hk2 (fun hf => HGF.out _ hf rfl)
              have HBG2 := Lib.hid hbg
              have y12 := hbg.cell 1
              have y22 := hbg.cell 2
              simp at y12 y22
              clear hp2 hk2 hbg
              go_wp2_with fail
              go_region_law (first
                | (refine step_copy2 rfl (.tmp 155) (.tmp 159) rfl Try.underlying22 sz5 (B := g) (by exact HOW.out) hlm (by omega) rfl (by exact HBY.out) rfl rfl ?_; intro w5 ho5 hk5)
                | (go_simp; go_at_call 32; refine Calls.mono (rbytes2_at (V % 65536) _ ?_ _ ?_) ?_; exact HAND.out; omega; rintro e w4 ⟨v4, rfl, hm4⟩; obtain ⟨ho4, hk4⟩ := hm4; rw [beM_len] at ho4; obtain ⟨A4, c4, rfl, hb4, _⟩ := Byt.of_own ho4; have K4 : Kept Nil w2 w4 := (Kept.refl Nil w2).drew.then hk4; have H3 := Lib.hid (H2.out.alloc K4); have HBY := Lib.hid hb4; have how := H3.out.own; rw [hlm] at how; have HOW := Lib.hid how; have y24 := HBG2.out.kept K4 (fun hf => hf); have y14 := y24.cell 1; have y34 := y24.cell 2; simp at y14 y34; clear ho4 hk4 hb4 how K4 y24))
              all_goals
                have hx7 := H3.out.want' (vw' := .slice (some ⟨r, 0, none⟩) m d) (lw' := (l.set kx (UInt8.ofNat (V % 65536 / 256))).set (kx + 1) (UInt8.ofNat (V % 65536))) (by rw [show ((l.set kx (UInt8.ofNat (V % 65536 / 256))).set (kx + 1) (UInt8.ofNat (V % 65536))).length = m from by simp [hlm]]; exact ho5) (hk5.mono (fun i _ hi => by cases hi; rfl)) (.inl rfl)
                have H7 := Lib.hid hx7
                clear hx7 ho5 hk5
                go_wp2
                go_meet
                exact ⟨v, _, some ⟨r, 0, none⟩, m, d, rfl, by simp [hlm], by omega, H7.out⟩
            · go_wp2_with fail
              refine (Fill_bad g g v l x _ wa ?_ ?_ ?_).mono ?_
              · exact HBA.out.pad
              · omega
              · omega
              rintro e w' ⟨rfl, rfl⟩
              by_cases hx0 : 0 ≤ x
              · by_cases hxm : x = 9223372036854775807
                · subst hxm
                  have hwr : wrap64 9223372036854775808 = -9223372036854775808 := by unfold wrap64; omega
                  go_wp2
                  go_meet
                  exact ⟨v, l, B, m, d, rfl, hlm, by omega, HBA.out⟩
                · have hx1 : x < 9223372036854775807 := by omega
                  have hx2 : (m : Int) ≤ x + 1 := by omega
                  go_wp2
                  go_meet
                  exact ⟨v, l, B, m, d, rfl, hlm, by omega, HBA.out⟩
              · go_wp2
                go_meet
                exact ⟨v, l, B, m, d, rfl, hlm, by omega, HBA.out⟩
          go_wp2
          go_meet
          exact ⟨v, l, B, m, d, rfl, hlm, by omega, HBA.out⟩
      case rest =>
          obtain ⟨v5, l5, B5, m5, d5, rfl, hl5, hm5, h5⟩ := hcut
          have H5 := Lib.hid h5
          clear h5 q0 q1 q2 q3 hslp hmin hi hz0 hz1 hz2
          go_wp2_with fail
          refine (Done_yes g g v5 l5 _ H5.out.pad (by omega)).mono ?_
          rintro e w6 ⟨v6, rfl, hm6⟩
          obtain ⟨ho6, hk6⟩ := hm6
          rw [hl5] at ho6
          obtain ⟨A6, c6, rfl, hb6, _⟩ := Byt.of_own ho6
          have H6 := Lib.hid (H5.out.alloc hk6)
          have hbw : Byt w6 B5 m5 d5 l5 := by
            have ho := H6.out.own
            rw [hl5] at ho
            obtain ⟨A, c, e, hb, _⟩ := Byt.of_own ho
            cases e
            exact hb
          have HO6 := Lib.hid ho6
          have HB6 := Lib.hid hb6
          have HBW := Lib.hid hbw
          have hcd := hb6.2.1
          have hcd2 := hb6.2.2.1
          have hL := Len_yes g g v5 l5 w6 H6.out.pad (by omega)
          rw [hl5] at hL
          have HLEN := Lib.hid hL
          clear ho6 hk6 hb6 hbw hL
          go_wp2_with fail
          refine HLEN.out.mono ?_
          rintro e w' ⟨rfl, rfl⟩
          go_wp2_with fail
          refine (equal A6 B5 m5 c6 m5 d5 _ _ _ HB6.out HBW.out).mono ?_
          rintro e w' ⟨rfl, rfl⟩
          rw [show (l5 == l5) = true from by simp]
          clear HLEN HB6 HBW
          go_wp2
          obtain ⟨wo, rfl⟩ : ∃ wo : World, wo = wr := ⟨_, rfl⟩
          go_loopw [176] (fun i wr => ∃ (j : Nat) (zs : List Int), j ≤ m5 ∧ i = .int .i64 j ∧ wr.ownsRow wc.heap.size 5 1 (.slice A6 m5 c6) m5 (zs.map (Value.int .u8)) ∧ Lays w wr g v5 (.slice B5 m5 d5) l5 l5) (fun i _ => m5 - (intOf i).toNat)
          case atStart => exact ⟨0, l5.map (fun b => (b.toNat : Int)), Nat.zero_le _, rfl, by have := HO6.out; rw [List.map_map]; exact this, H6.out⟩
          case round =>
            obtain ⟨j, zs, hj, rfl, ho, hbo⟩ := hrel
            by_cases hlt : j < m5
            · obtain ⟨b, hA, hbw, hbl, z, hce, hfz, hput⟩ := own_put ho hlt
              subst hA
              have HP := Lib.hid hput
              have HBB := Lib.hid hbo
              clear ho hbo hput
              go_wp2
              go_roundw
              case rel => exact ⟨j + 1, _, by omega, by go_num, HP.out _, HBB.out.far (Kept.one wr b j none _) (by have := H5.out.kept.size; omega) (fun hf => by have := H5.out.pad.foot_lt _ hf; omega) (fun hf => by have := (H5.out.own.lt _ hf).2; omega)⟩
              case measure => simp [intOf]; omega
            · have HBB := Lib.hid hbo
              clear ho hbo
              go_wp2
              go_roundw
              case rel => exact ⟨k + 1, v5, l5, B5, m5, d5, by omega, by omega, by go_num, rfl, hl5, hm5, HBB.out⟩
              case measure => simp [intOf]; omega
    · -- the end
      obtain ⟨mx, hmx, hmx1, hmx2⟩ : ∃ mx : Nat, (if (300 : Int) < (n : Int) then (300 : Int) else (n : Int)) = (mx : Int) ∧ mx ≤ n ∧ mx ≤ 300 := ⟨min n 300, by split <;> omega, by omega, by omega⟩
      obtain ⟨my, hmy, hmy1, hmy2⟩ : ∃ my : Nat, (if (300 : Int) < (n' : Int) then (300 : Int) else (n' : Int)) = (my : Int) ∧ my ≤ n' ∧ my ≤ 300 := ⟨min n' 300, by split <;> omega, by omega, by omega⟩
      have hsx := run_cut_hi (P := Try.prog) Try.underlying22 inf5.1 A n c mx (mx : Int) rfl (by omega)
      have hsy := run_cut_hi (P := Try.prog) Try.underlying22 inf5.1 A' n' c' my (my : Int) rfl (by omega)
      have HKF := Lib.hid hly.kept
      clear hly
      obtain ⟨i0, hi, hz0, hz1, hz2⟩ := info_parts Try.infb
      by_cases hk2 : k < n2
      · have h60 : k = 60 := by omega
        have hkept := HKF.out
        have hth := HA.out.kept hkept
        have hkl : k < ts.length := by rw [HL.out]; exact hk2
        obtain ⟨b, o, rfl, hce⟩ := hth.2.2.2.2 (by omega)
        obtain ⟨q0, q1, q2, q3⟩ := hce k hkl
        clear hce hth hkept
        generalize ts[k] = t at *
        obtain ⟨what, x, V, tB, bn, bc, tb⟩ := t
        simp only at q0 q1 q2 q3
        have hb60 : ((k : Int) == 60) = true := by simp; omega
        have H60 := Lib.hid h60
        clear h60 hlt
        go_wp2_with fail
        have HKG := Lib.hid (HKF.out.alloc (.cells #[.int .i64 what, .int .i64 x, .int .u32 (V : Int), .slice tB bn bc] 32))
        generalize wr.alloc (.cells #[.int .i64 what, .int .i64 x, .int .u32 (V : Int), .slice tB bn bc] 32) = wf at *
        clear q0 q1 q2 q3
        go_quiet (fail)
        go_wp2_with fail
        have hbx : Byt wf A mx c (lx.take mx) := (HX.out.pre hmx1).kept HKG.out (fun _ _ hf => hf)
        have hby : Byt wf A' my c' (ly.take my) := (HY.out.pre hmy1).kept HKG.out (fun _ _ hf => hf)
        have HLX := Lib.hid hbx.1
        have HLY := Lib.hid hby.1
        have hrz := rowz2b (wf.drewN nq) A A' mx c my c' _ _ (hbx.heap rfl) (hby.heap rfl) wf.heap.size rfl
        have HBX := Lib.hid hbx
        have HBY := Lib.hid hby
        clear hbx hby hsx hsy hmx hmy
        generalize lx.take mx = lx' at *
        generalize ly.take my = ly' at *
        refine Calls.mono (Sum_yes _ 2 2 [lx', ly'] _ hrz (by have := HLX.out; have := HLY.out; simp; omega)) ?_
        rintro e w2 ⟨rfl, hw2⟩
        have K2 : Hid (Kept Nil wf w2) := by unfold Hid; rw [← hw2]; exact ((Kept.refl Nil wf).drewN nq).alloc _
        clear hw2 hrz
        rw [show ([lx', ly'] : List (List UInt8)).flatten = lx' ++ ly' from by simp]
        have HBX2 := Lib.hid (HBX.out.kept K2.out (fun _ _ hf => hf))
        go_wp2_with fail
        refine (bclone A mx c _ _ HBX2.out (by omega)).mono ?_
        rintro e w3 ⟨v3, rfl, hm3⟩
        obtain ⟨ho3, hk3⟩ := hm3
        rw [HLX.out] at ho3
        obtain ⟨A3, c3, rfl⟩ := own_form ho3
        have HO3 := Lib.hid ho3
        have HK3 := Lib.hid hk3
        have HBY3 := Lib.hid ((HBY.out.kept K2.out (fun _ _ hf => hf)).kept hk3 (fun _ _ hf => hf))
        clear ho3 hk3
        go_wp2_with (at_builtin; refine wpList_any rfl (.tmp 202) (.tmp 203) 22 rfl w2.heap.size 5 i0 (.int .u8 0) Try.underlying22 hi hz0 hz1 hz2 rfl (.slice A3 mx c3) mx (bys lx') rfl (by exact HO3.out) A' my c' ly' rfl (by exact HBY3.out) (by omega) (by exact HK3.out.size) ?_; intro v4 w4 ho4 hg4 hn4; rw [← bys_app] at ho4; obtain ⟨A4, c4, rfl⟩ := own_form ho4; have HO4 := Lib.hid ho4; have HG4 := Lib.hid hg4; clear ho4 hg4 hn4)
        have hl4 : (lx' ++ ly').length = mx + my := by rw [List.length_append, HLX.out, HLY.out]
        have hb4 : Byt w4 A4 (mx + my) c4 (lx' ++ ly') := by
          have ho := HO4.out
          rw [← hl4] at ho ⊢
          obtain ⟨A5, c5, e, hb, _⟩ := Byt.of_own ho
          cases e
          exact hb
        have K4 : Hid (Kept Nil w2 w4) := Kept.mono (F := fun i => w2.heap.size ≤ i) ((HK3.out.nil).grown HG4.out (fun i hi _ => (HO3.out.lt i hi).1)) (fun i hi hf => absurd hi (by omega))
        clear hl4
        refine (rsum_yes A4 (mx + my) c4 _ _ hb4).mono ?_
        rintro e w' ⟨rfl, rfl⟩
        generalize sumM (lx' ++ ly') = sm at *
        clear hb4
        go_wp2_with fail
        refine (wakes_yes _).mono ?_
        rintro e w9 ⟨rfl, hk9⟩
        go_wp2
        go_ret
        exact ⟨rfl, (((HKG.out.then K2.out).then K4.out).then hk9).below (Nat.le_refl _) (fun k hf => hf.elim)⟩
      · clear hlt
        have hk3 : k = n2 := by omega
        subst hk3
        go_wp2_with fail
        have HKG := HKF
        obtain ⟨wf, rfl⟩ : ∃ wf : World, wf = wr := ⟨_, rfl⟩
        go_quiet (fail)
        go_wp2_with fail
        have hbx : Byt wf A mx c (lx.take mx) := (HX.out.pre hmx1).kept HKG.out (fun _ _ hf => hf)
        have hby : Byt wf A' my c' (ly.take my) := (HY.out.pre hmy1).kept HKG.out (fun _ _ hf => hf)
        have HLX := Lib.hid hbx.1
        have HLY := Lib.hid hby.1
        have hrz := rowz2b (wf.drewN nq) A A' mx c my c' _ _ (hbx.heap rfl) (hby.heap rfl) wf.heap.size rfl
        have HBX := Lib.hid hbx
        have HBY := Lib.hid hby
        clear hbx hby hsx hsy hmx hmy
        generalize lx.take mx = lx' at *
        generalize ly.take my = ly' at *
        refine Calls.mono (Sum_yes _ 2 2 [lx', ly'] _ hrz (by have := HLX.out; have := HLY.out; simp; omega)) ?_
        rintro e w2 ⟨rfl, hw2⟩
        have K2 : Hid (Kept Nil wf w2) := by unfold Hid; rw [← hw2]; exact ((Kept.refl Nil wf).drewN nq).alloc _
        clear hw2 hrz
        rw [show ([lx', ly'] : List (List UInt8)).flatten = lx' ++ ly' from by simp]
        have HBX2 := Lib.hid (HBX.out.kept K2.out (fun _ _ hf => hf))
        go_wp2_with fail
        refine (bclone A mx c _ _ HBX2.out (by omega)).mono ?_
        rintro e w3 ⟨v3, rfl, hm3⟩
        obtain ⟨ho3, hk3⟩ := hm3
        rw [HLX.out] at ho3
        obtain ⟨A3, c3, rfl⟩ := own_form ho3
        have HO3 := Lib.hid ho3
        have HK3 := Lib.hid hk3
        have HBY3 := Lib.hid ((HBY.out.kept K2.out (fun _ _ hf => hf)).kept hk3 (fun _ _ hf => hf))
        clear ho3 hk3
        go_wp2_with (at_builtin; refine wpList_any rfl (.tmp 202) (.tmp 203) 22 rfl w2.heap.size 5 i0 (.int .u8 0) Try.underlying22 hi hz0 hz1 hz2 rfl (.slice A3 mx c3) mx (bys lx') rfl (by exact HO3.out) A' my c' ly' rfl (by exact HBY3.out) (by omega) (by exact HK3.out.size) ?_; intro v4 w4 ho4 hg4 hn4; rw [← bys_app] at ho4; obtain ⟨A4, c4, rfl⟩ := own_form ho4; have HO4 := Lib.hid ho4; have HG4 := Lib.hid hg4; clear ho4 hg4 hn4)
        have hl4 : (lx' ++ ly').length = mx + my := by rw [List.length_append, HLX.out, HLY.out]
        have hb4 : Byt w4 A4 (mx + my) c4 (lx' ++ ly') := by
          have ho := HO4.out
          rw [← hl4] at ho ⊢
          obtain ⟨A5, c5, e, hb, _⟩ := Byt.of_own ho
          cases e
          exact hb
        have K4 : Hid (Kept Nil w2 w4) := Kept.mono (F := fun i => w2.heap.size ≤ i) ((HK3.out.nil).grown HG4.out (fun i hi _ => (HO3.out.lt i hi).1)) (fun i hi hf => absurd hi (by omega))
        clear hl4
        refine (rsum_yes A4 (mx + my) c4 _ _ hb4).mono ?_
        rintro e w' ⟨rfl, rfl⟩
        generalize sumM (lx' ++ ly') = sm at *
        clear hb4
        go_wp2_with fail
        refine (wakes_yes _).mono ?_
        rintro e w9 ⟨rfl, hk9⟩
        go_wp2
        go_ret
        exact ⟨rfl, (((HKG.out.then K2.out).then K4.out).then hk9).below (Nat.le_refl _) (fun k hf => hf.elim)⟩
end Go.Proofs.Ytjfffddaiefggaa
