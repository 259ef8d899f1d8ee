/- Texts that belong together, one behind the other: EthH, EthI. Conditions: those of each. -/
import Derived.Test.YtddpdopccejmbaaMg19
import Derived.Test.YtddpdopccejmbaaMg9
import Derived.Test.YtddpdopccejmbaaMg24
import Derived.Test.YtddpdopccejmbaaMg16
/- Package ether: contract of ahead. -/
namespace Go.Proofs.Ytddpdopccejmbaa
open Go.RowKit Go.Sort
set_option linter.unusedVariables false

theorem padI_src {B g : Nat} {v0 : Value} {ls : Nat → List UInt8} {D : Nat → Prop} {s : List Value} {w u : World} {A : Option Addr} {n c : Nat} (l : List UInt8) (hu : Kept (foot g v0) w u) (hI : padI B g w.heap.size v0 ls D s u) (hy : Byt w A n c l) (hA : ∀ i, Lies A n i → ¬ foot g v0 i)
    (hls : ls (s.length + 1) = ls s.length ++ l) (hbd : (ls s.length).length + n ≤ 1099511627776) :
    Calls Try.prog 51 #[.pointer (some ⟨g, 0, none⟩), .slice A n c] u fun e w' =>
      ∃ r, e = .returned r ∧ r = .pointer (some ⟨g, 0, none⟩) ∧ Kept (foot g v0) w w' ∧ padI B g w.heap.size v0 ls D (s ++ [r]) w' ∧ u.heap.size ≤ w'.heap.size ∧ ∀ k, D k → k < u.heap.size → w'.heap[k]? = u.heap[k]? := by
  obtain ⟨v, h1, h2, h3, h4, h5⟩ := hI
  have hs := (hy.kept hu hA).nums
  have hln := hy.1
  refine (PByte_yes B g v (ls s.length) _ _ _ (l.map UInt8.toNat) u h1 hs (by omega) ?_ (by simp; omega) (fun x hx => by obtain ⟨y, _, rfl⟩ := List.mem_map.1 hx; exact y.toNat_lt)).mono ?_
  · intro i hi hf
    exact hA i hi (foot_newer h3 i (hy.lt i hi) hf)
  · rintro e w' ⟨v', rfl, hp, hk, hnw⟩
    rw [beAll_bytes] at hp
    refine ⟨_, rfl, rfl, hu.trans hk (fun i hi hf => foot_newer h3 i hi hf), ⟨v', by rw [List.length_append, List.length_singleton, hls]; exact hp, fun k hk' => ⟨Nat.lt_of_lt_of_le (h2 k hk').1 hk.size, fun hf => ?_⟩, h3.trans hnw h4, Nat.le_trans h4 hk.size, h5⟩, hk.size, fun k hk' hlt => hk.block k hlt (h2 k hk').2⟩
    rcases hf with rfl | hf
    · exact (h2 k hk').2 (.inl rfl)
    · rcases hnw k hf with h | h
      · exact (h2 k hk').2 (.inr h)
      · have := (h2 k hk').1; omega
theorem two_beAll (x : Nat) : beAll 2 [x] = twoM x := beAll_two x
/-- What the pad holds, act by act. -/
def lsB (q : Nat) (l : List UInt8) (i : Nat) : List UInt8 := if i = 0 then [] else if i = 1 then twoM q else twoM q ++ l
def lsS (q : Nat) (l o : List UInt8) (m : Nat) (i : Nat) : List UInt8 := if i = 0 then [] else if i = 1 then twoM q else if i = 2 then twoM q ++ l else if i = 3 then twoM q ++ l ++ o else twoM q ++ l ++ o ++ twoM m
set_option maxRecDepth 100000 in
set_option maxHeartbeats 4000000 in
theorem ahead_yes (f : Fr) (vt vb vr : Value) (w : World) (h : FrIn w f vt vb vr) (hc : carryM f = true) :
    Calls Try.prog 34 #[frv f vt vb vr] w fun e w' => ∃ v, e = .returned v ∧ Made w w' v (headM f) := by
  have hF := FB.new w 28 f vt vb vr
  have hk := (Kept.refl Nil w).alloc (.cells (fcs f vt vb vr).toArray 28)
  have HF := Lib.hid hF
  have HK := Lib.hid hk
  have HI := Lib.hid (h.kept hk)
  have hok := h.ok
  have HC := Lib.hid hc
  clear hF hk h hc
  obtain ⟨d, s, t, k, y, l, o, b, r⟩ := f
  have HSIX := Lib.hid hok.six
  have HL := Lib.hid (show l.length = 3 from hok.l)
  have HO := Lib.hid (show o.length = 3 from hok.o)
  clear hok
  go_enter Try.func34, Try.ntmps34
  go_upto_region 1 with (fail)
  refine wp_nameE (fun W => FB W w.heap.size 28 ⟨d, s, t, k, y, l, o, b, r⟩ vt vb vr ∧ Kept Nil w W ∧ FrIn W ⟨d, s, t, k, y, l, o, b, r⟩ vt vb vr) ⟨HF.out, HK.out, HI.out⟩ ?_
  clear HF HK HI
  rintro W ⟨hF, hk, hi⟩
  have HF := Lib.hid hF
  have HK := Lib.hid hk
  have HI := Lib.hid hi
  clear hF hk hi
  go_wp2_with fail
  refine (Lay_yes _).mono ?_
  rintro e w1 ⟨rfl, hp, hk⟩
  have HP1 := Lib.hid hp
  have HF1 := Lib.hid (HF.out.kept hk (fun hf => hf))
  have HI1 := Lib.hid (HI.out.kept hk)
  have HK1 := Lib.hid (HK.out.then hk)
  have HG := Lib.hid (show w.heap.size < W.heap.size from HF.out.lt)
  have HS := Lib.hid (show w.heap.size ≤ W.heap.size from HK.out.size)
  clear hp hk HF HK HI
  generalize W.heap.size = g at *
  have c13 := HF1.out.ck HSIX.out
  have c14 := HF1.out.cy HSIX.out
  have c21 := HF1.out.cb HSIX.out
  simp only at c13 c14
  obtain ⟨Ab, nb, cb, rfl, hyb⟩ := HI1.out.b
  have HBL := Lib.hid (show b.length = nb from hyb.1)
  have hcc := hyb.2.2.1
  have hcn := hyb.2.1
  clear hyb
  have HGS := Lib.hid (show g < w1.heap.size from HP1.out.foot_lt g (.inl rfl))
  by_cases h1 : k = 1
  · subst h1
    have hcy := HC.out
    simp [carryM] at hcy
    obtain ⟨m, rfl⟩ : ∃ m : Nat, y = (m : Int) := ⟨y.toNat, by omega⟩
    have hm : m < 65536 := by omega
    have hw : IntKind.wrap .u16 (m : Int) = (m : Int) := by rw [IntKind.wrap_u16]; omega
    clear hcy
    go_wp2_with fail
    refine (PTwo_lit g g _ _ [m] w1 45 HP1.out (Nat.le_of_lt HGS.out) (by simp) (by simpa using hm)).mono ?_
    rintro e w2 ⟨v2, rfl, hp2, hk2, _⟩
    rw [two_beAll, List.nil_append] at hp2
    have HP2 := Lib.hid hp2
    have HK2 := Lib.hid hk2
    have HH := Lib.hid (show headM ⟨d, s, t, 1, (m : Int), l, o, b, r⟩ = twoM m from rfl)
    clear hp2 hk2
    go_wp2_with fail
    refine (Done_yes _ _ _ _ _ HP2.out (by simp [twoM])).mono ?_
    rintro e w3 ⟨v3, rfl, hm3⟩
    have HM := Lib.hid hm3
    clear hm3
    go_wp2
    go_ret
    rw [HH.out]
    exact ⟨_, rfl, own_mono HM.out.1 (Nat.le_trans HK1.out.size HK2.out.size), (HK1.out.fresh HK2.out (fun i hi => Nat.le_trans HS.out (HP1.out.foot_ge i hi))).then HM.out.2⟩
  · by_cases h2 : k = 2
    · subst h2
      have hcy := HC.out
      simp [carryM, HBL.out] at hcy
      have hnb : 3 + nb ≤ 1500 := by omega
      clear hcy
      have HNF := Lib.hid (show ¬ foot g (.slice none 0 0) w.heap.size from fun hf => absurd (HP1.out.foot_ge _ hf) (Nat.not_le.2 HG.out))
      have HBY := Lib.hid (byt_row (HF1.out.rl HSIX.out) (by show l.length ≤ _; rw [HL.out]; decide) 3 HL.out)
      have HBO := Lib.hid (byt_row (HF1.out.ro HSIX.out) (by show o.length ≤ _; rw [HO.out]; decide) 3 HO.out)
      obtain ⟨q, hq⟩ : ∃ q : Nat, 3 + nb = q := ⟨_, rfl⟩
      have hw : IntKind.wrap .i64 (3 + (nb : Int)) = (q : Int) := by rw [IntKind.wrap_i64]; omega
      have hw2 : IntKind.wrap .u16 (q : Int) = (q : Int) := by rw [IntKind.wrap_u16]; omega
      have HQ := Lib.hid (show q < 65536 by omega)
      have HH := Lib.hid (show headM ⟨d, s, t, 2, y, l, o, b, r⟩ = twoM q ++ l by show twoM (3 + b.length) ++ l = _; rw [HBL.out, hq])
      have HST := Lib.hid (padI_start (w := w1) (lsB q l) HP1.out rfl (Nat.le_of_lt HGS.out))
      have HKP := Lib.hid (padI_keeps g g w1.heap.size (.slice none 0 0) (lsB q l))
      clear c14 h1 hq hnb
      go_wp2
      refine wp_region_acts (foot g (.slice none 0 0)) [7, 10] (fun i vl => (vl.toArray, 45)) (fun i => if i = 3 then .int .i64 (nb : Int) else undef) (padI g g w1.heap.size (.slice none 0 0) (lsB q l)) (fun i v => v = .pointer (some ⟨g, 0, none⟩)) 11 (by kernel_rfl) (by kernel_rfl) HKP.out HST.out ?_
      simp only [List.take_succ_cons, List.take_zero, List.drop_succ_cons, List.drop_zero]
      refine tLex_quiets 6 rfl (by kernel_rfl) ?_
      simp only [List.take_succ_cons, List.take_zero, List.drop_succ_cons, List.drop_zero]
      apply Exists.intro
      refine ⟨?hq1, ?hv1, ?ht1⟩
      case hq1 =>
        intro V hV
        have hfv := HF1.out.kept hV HNF.out
        have e21 := fun d os => (hfv.kept (kept_grown' V d os) (fun hf => hf)).cb HSIX.out
        have e14 := fun d os => (hfv.kept (kept_grown' V d os) (fun hf => hf)).cy HSIX.out
        clear hfv
        clear hV
        repeat (go_big_quiet_step (fail))
        exact wpQuiet_nil rfl
      case hv1 => exact ⟨trivial, trivial, trivial, rfl, trivial, trivial, trivial⟩
      case ht1 =>
        refine tLex_make (#[.int .u16 (q : Int)], 45) rfl rfl rfl rfl (fun u => ?hma) ?_
        case hma => simp [execOp, mkVal, Instr.buildSlice, go_sem]
        intro gg hg hL
        simp only [Act.put, mkVal, List.setIfInBounds_toArray, List.set_cons_succ, List.set_cons_zero]
        refine tLex_act 52 #[.pointer (some ⟨g, 0, none⟩), .slice (some ⟨gg, 0, none⟩) 1 1] (fun u => ?heb) rfl rfl _ rfl ?hcb ?_
        case heb => simp [execOp, go_sem, mkVal]
        case hcb =>
          intro D u hu hI hdd
          obtain ⟨d1, d2⟩ := hdd gg _ ⟨_, List.mem_cons_of_mem _ (List.mem_cons_of_mem _ (List.mem_cons_self ..)), rfl⟩ (mput_same _ _ _)
          exact padI_two (n := 1) [q] hu hI d1 d2 rfl rfl (by rw [two_beAll]; rfl) (by simp [lsB]) (by have := HQ.out; simp; omega)
        rintro v rfl
        simp only [Act.put, List.setIfInBounds_toArray, List.set_cons_succ, List.set_cons_zero]
        refine tLex_quiets 2 rfl (by kernel_rfl) ?_
        simp only [List.take_succ_cons, List.take_zero, List.drop_succ_cons, List.drop_zero]
        apply Exists.intro
        refine ⟨?hq2, ?hv2, ?ht2⟩
        case hq2 =>
          intro V hV
          clear hV
          repeat (go_big_quiet_step (fail))
          exact wpQuiet_nil rfl
        case hv2 => exact ⟨trivial, trivial, trivial⟩
        case ht2 =>
          refine tLex_act 51 #[.pointer (some ⟨g, 0, none⟩), .slice (some ⟨w.heap.size, 15, none⟩) 3 3] (fun u => ?hec) rfl rfl _ rfl ?hcc ?_
          case hec => simp [execOp, go_sem]
          case hcc =>
            intro D u hu hI hdd
            exact padI_src l hu hI HBY.out (fun i hi => by obtain ⟨_, ad, e, rfl⟩ := hi; cases e; exact HNF.out) rfl (by simp [lsB, twoM])
          rintro v rfl
          simp only [Act.put, List.setIfInBounds_toArray, List.set_cons_succ, List.set_cons_zero]
          intro w2 hs
          obtain ⟨v2, hp2, _, _, _, _⟩ := hs.know
          have HP2 := Lib.hid (show Padd w2 g g v2 (twoM q ++ l) from hp2)
          have HK2 := Lib.hid hs.kept
          clear hp2 hs
          go_wp2_with fail
          refine (Done_yes _ _ _ _ _ HP2.out (by simp [twoM, HL.out])).mono ?_
          rintro e w3 ⟨v3, rfl, hm3⟩
          have HM := Lib.hid hm3
          clear hm3
          go_wp2
          go_ret
          rw [HH.out]
          exact ⟨_, rfl, own_mono HM.out.1 (Nat.le_trans HK1.out.size HK2.out.size), (HK1.out.fresh HK2.out (fun i hi => Nat.le_trans HS.out (HP1.out.foot_ge i hi))).then HM.out.2⟩
    · by_cases h3 : k = 3
      · subst h3
        have hcy := HC.out
        simp [carryM, HBL.out] at hcy
        obtain ⟨m, rfl⟩ : ∃ m : Nat, y = (m : Int) := ⟨y.toNat, by omega⟩
        have HM3 := Lib.hid (show m < 65536 by omega)
        have hwm : IntKind.wrap .u16 (m : Int) = (m : Int) := by rw [IntKind.wrap_u16]; omega
        have hnb : 8 + nb ≤ 1500 := by omega
        clear hcy
        have HNF := Lib.hid (show ¬ foot g (.slice none 0 0) w.heap.size from fun hf => absurd (HP1.out.foot_ge _ hf) (Nat.not_le.2 HG.out))
        have HBY := Lib.hid (byt_row (HF1.out.rl HSIX.out) (by show l.length ≤ _; rw [HL.out]; decide) 3 HL.out)
        have HBO := Lib.hid (byt_row (HF1.out.ro HSIX.out) (by show o.length ≤ _; rw [HO.out]; decide) 3 HO.out)
        obtain ⟨q, hq⟩ : ∃ q : Nat, 8 + nb = q := ⟨_, rfl⟩
        have hw : IntKind.wrap .i64 (8 + (nb : Int)) = (q : Int) := by rw [IntKind.wrap_i64]; omega
        have hw2 : IntKind.wrap .u16 (q : Int) = (q : Int) := by rw [IntKind.wrap_u16]; omega
        have HQ := Lib.hid (show q < 65536 by omega)
        have HH := Lib.hid (show headM ⟨d, s, t, 3, (m : Int), l, o, b, r⟩ = twoM q ++ l ++ o ++ twoM m by show twoM (8 + b.length) ++ l ++ o ++ twoM m = _; rw [HBL.out, hq])
        have HST := Lib.hid (padI_start (w := w1) (lsS q l o m) HP1.out rfl (Nat.le_of_lt HGS.out))
        have HKP := Lib.hid (padI_keeps g g w1.heap.size (.slice none 0 0) (lsS q l o m))
        clear h1 h2 hq hnb
        go_wp2
        refine wp_region_acts (foot g (.slice none 0 0)) [7, 10, 13, 18] (fun i vl => (vl.toArray, 45)) (fun i => if i = 3 then .int .i64 (nb : Int) else undef) (padI g g w1.heap.size (.slice none 0 0) (lsS q l o m)) (fun i v => v = .pointer (some ⟨g, 0, none⟩)) 19 (by kernel_rfl) (by kernel_rfl) HKP.out HST.out ?_
        simp only [List.take_succ_cons, List.take_zero, List.drop_succ_cons, List.drop_zero]
        refine tLex_quiets 6 rfl (by kernel_rfl) ?_
        simp only [List.take_succ_cons, List.take_zero, List.drop_succ_cons, List.drop_zero]
        apply Exists.intro
        refine ⟨?hq1, ?hv1, ?ht1⟩
        case hq1 =>
          intro V hV
          have hfv := HF1.out.kept hV HNF.out
          have e21 := fun d os => (hfv.kept (kept_grown' V d os) (fun hf => hf)).cb HSIX.out
          have e14 := fun d os => (hfv.kept (kept_grown' V d os) (fun hf => hf)).cy HSIX.out
          clear hfv
          clear hV
          repeat (go_big_quiet_step (fail))
          exact wpQuiet_nil rfl
        case hv1 => exact ⟨trivial, trivial, trivial, rfl, trivial, trivial, trivial⟩
        case ht1 =>
          refine tLex_make (#[.int .u16 (q : Int)], 45) rfl rfl rfl rfl (fun u => ?hma) ?_
          case hma => simp [execOp, mkVal, Instr.buildSlice, go_sem]
          intro gg hg hL
          simp only [Act.put, mkVal, List.setIfInBounds_toArray, List.set_cons_succ, List.set_cons_zero]
          refine tLex_act 52 #[.pointer (some ⟨g, 0, none⟩), .slice (some ⟨gg, 0, none⟩) 1 1] (fun u => ?heb) rfl rfl _ rfl ?hcb ?_
          case heb => simp [execOp, go_sem, mkVal]
          case hcb =>
            intro D u hu hI hdd
            obtain ⟨d1, d2⟩ := hdd gg _ ⟨_, List.mem_cons_of_mem _ (List.mem_cons_of_mem _ (List.mem_cons_self ..)), rfl⟩ (mput_same _ _ _)
            exact padI_two (n := 1) [q] hu hI d1 d2 rfl rfl (by rw [two_beAll]; rfl) (by simp [lsS]) (by have := HQ.out; simp; omega)
          rintro v rfl
          simp only [Act.put, List.setIfInBounds_toArray, List.set_cons_succ, List.set_cons_zero]
          refine tLex_quiets 2 rfl (by kernel_rfl) ?_
          simp only [List.take_succ_cons, List.take_zero, List.drop_succ_cons, List.drop_zero]
          apply Exists.intro
          refine ⟨?hq2, ?hv2, ?ht2⟩
          case hq2 =>
            intro V hV
            clear hV
            repeat (go_big_quiet_step (fail))
            exact wpQuiet_nil rfl
          case hv2 => exact ⟨trivial, trivial, trivial⟩
          case ht2 =>
            refine tLex_act 51 #[.pointer (some ⟨g, 0, none⟩), .slice (some ⟨w.heap.size, 15, none⟩) 3 3] (fun u => ?hec) rfl rfl _ rfl ?hcc ?_
            case hec => simp [execOp, go_sem]
            case hcc =>
              intro D u hu hI hdd
              exact padI_src l hu hI HBY.out (fun i hi => by obtain ⟨_, ad, e, rfl⟩ := hi; cases e; exact HNF.out) rfl (by simp [lsS, twoM])
            rintro v rfl
            simp only [Act.put, List.setIfInBounds_toArray, List.set_cons_succ, List.set_cons_zero]
            refine tLex_quiets 2 rfl (by kernel_rfl) ?_
            simp only [List.take_succ_cons, List.take_zero, List.drop_succ_cons, List.drop_zero]
            apply Exists.intro
            refine ⟨?hq3, ?hv3, ?ht3⟩
            case hq3 =>
              intro V hV
              clear hV
              repeat (go_big_quiet_step (fail))
              exact wpQuiet_nil rfl
            case hv3 => exact ⟨trivial, trivial, trivial⟩
            case ht3 =>
              refine tLex_act 51 #[.pointer (some ⟨g, 0, none⟩), .slice (some ⟨w.heap.size, 18, none⟩) 3 3] (fun u => ?hed) rfl rfl _ rfl ?hcd ?_
              case hed => simp [execOp, go_sem]
              case hcd =>
                intro D u hu hI hdd
                exact padI_src o hu hI HBO.out (fun i hi => by obtain ⟨_, ad, e, rfl⟩ := hi; cases e; exact HNF.out) rfl (by simp [lsS, twoM, HL.out])
              rintro v rfl
              simp only [Act.put, List.setIfInBounds_toArray, List.set_cons_succ, List.set_cons_zero]
              refine tLex_quiets 3 rfl (by kernel_rfl) ?_
              simp only [List.take_succ_cons, List.take_zero, List.drop_succ_cons, List.drop_zero]
              apply Exists.intro
              refine ⟨?hq4, ?hv4, ?ht4⟩
              case hq4 =>
                intro V hV
                have hfv := HF1.out.kept hV HNF.out
                have e14 := fun d os => (hfv.kept (kept_grown' V d os) (fun hf => hf)).cy HSIX.out
                clear hfv hV
                repeat (go_big_quiet_step (fail))
                exact wpQuiet_nil rfl
              case hv4 => exact ⟨trivial, trivial, trivial, trivial⟩
              case ht4 =>
                refine tLex_make (#[.int .u16 (m : Int)], 45) rfl rfl rfl rfl (fun u => ?hme) ?_
                case hme => simp [execOp, mkVal, Instr.buildSlice, go_sem]
                intro gh hg2 hL2
                simp only [Act.put, mkVal, List.setIfInBounds_toArray, List.set_cons_succ, List.set_cons_zero]
                refine tLex_act 52 #[.pointer (some ⟨g, 0, none⟩), .slice (some ⟨gh, 0, none⟩) 1 1] (fun u => ?hef) rfl rfl _ rfl ?hcf ?_
                case hef => simp [execOp, go_sem, mkVal]
                case hcf =>
                  intro D u hu hI hdd
                  obtain ⟨d1, d2⟩ := hdd gh _ ⟨_, List.mem_cons_of_mem _ (List.mem_cons_of_mem _ (List.mem_cons_self ..)), rfl⟩ (mput_same _ _ _)
                  exact padI_two (n := 1) [m] hu hI d1 d2 rfl rfl (by rw [two_beAll]; rfl) (by simp [lsS, twoM, HL.out, HO.out]) (by have := HM3.out; simp; omega)
                rintro v rfl
                simp only [Act.put, List.setIfInBounds_toArray, List.set_cons_succ, List.set_cons_zero]
                intro w2 hs
                obtain ⟨v2, hp2, _, _, _, _⟩ := hs.know
                have HP2 := Lib.hid (show Padd w2 g g v2 (twoM q ++ l ++ o ++ twoM m) from hp2)
                have HK2 := Lib.hid hs.kept
                clear hp2 hs
                go_wp2_with fail
                refine (Done_yes _ _ _ _ _ HP2.out (by simp [twoM, HL.out, HO.out])).mono ?_
                rintro e w3 ⟨v3, rfl, hm3⟩
                have HM := Lib.hid hm3
                clear hm3
                go_wp2
                go_ret
                rw [HH.out]
                exact ⟨_, rfl, own_mono HM.out.1 (Nat.le_trans HK1.out.size HK2.out.size), (HK1.out.fresh HK2.out (fun i hi => Nat.le_trans HS.out (HP1.out.foot_ge i hi))).then HM.out.2⟩
      · exfalso
        have hcy := HC.out
        simp [carryM, h1, h2, h3] at hcy
end Go.Proofs.Ytddpdopccejmbaa
/- Package ether: contract of Put. -/
namespace Go.Proofs.Ytddpdopccejmbaa
open Go.RowKit Go.Sort
set_option linter.unusedVariables false

theorem head_len (f : Fr) (hl : f.l.length = 3) (ho : f.o.length = 3) : (headM f).length ≤ 10 := by
  unfold headM
  split
  · simp [twoM]
  · split
    · simp [twoM, hl]
    · simp [twoM, hl, ho]
set_option maxRecDepth 100000 in
set_option maxHeartbeats 4000000 in
theorem put_yes (f : Fr) (vt vb vr : Value) (w : World) (h : FrIn w f vt vb vr) :
    Calls Try.prog 11 #[frv f vt vb vr] w fun e w' => ∃ v, e = .returned (.tuple #[v, .int .i64 (putM f).2]) ∧ Made w w' v (putM f).1 := by
  have hF := FB.new w 28 f vt vb vr
  have hk := (Kept.refl Nil w).alloc (.cells (fcs f vt vb vr).toArray 28)
  have HF := Lib.hid hF
  have HK := Lib.hid hk
  have HI := Lib.hid (h.kept hk)
  have HSIX := Lib.hid h.ok.six
  have HHL := Lib.hid (head_len f h.ok.l h.ok.o)
  clear hF hk h
  go_enter Try.func11, Try.ntmps11
  go_upto_region 1 with (fail)
  refine wp_nameE (fun W => FB W w.heap.size 28 f vt vb vr ∧ Kept Nil w W ∧ FrIn W f vt vb vr) ⟨HF.out, HK.out, HI.out⟩ ?_
  clear HF HK HI
  rintro W ⟨hF, hk, hi⟩
  obtain ⟨At, nt, ct, rfl, htt⟩ := hi.t
  obtain ⟨Ab, nb, cb, rfl, hbb⟩ := hi.b
  obtain ⟨Ar, nr, cr, rfl, hrr⟩ := hi.r
  have c12 := hF.ct HSIX.out
  have HTL := Lib.hid htt.len
  have HBL := Lib.hid hbb.1
  have HRL := Lib.hid hrr.1
  have hbn : nb ≤ 1000000 := by rw [← hbb.1]; exact hi.bn
  have hrn : nr ≤ 1000000 := by rw [← hrr.1]; exact hi.rn
  have htn : nt ≤ 1000 := by rw [← htt.len]; exact hi.tn
  have HF := Lib.hid hF
  have HK := Lib.hid hk
  have HI := Lib.hid hi
  have HT := Lib.hid htt
  clear hF hk hi htt hbb hrr
  go_wp2_with fail
  refine (may_yes _ _ _ _ _ HT.out).mono ?_
  rintro e w1 ⟨rfl, hk⟩
  have HF1 := Lib.hid (HF.out.kept hk (fun hf => hf))
  have HI1 := Lib.hid (HI.out.kept hk)
  have HK1 := Lib.hid (HK.out.then hk)
  clear hk c12 HF HI HK HT
  obtain ⟨mt, hmt⟩ : ∃ mt, mayL f.t = mt := ⟨_, rfl⟩
  rw [hmt]
  have HMT := Lib.hid hmt
  clear hmt
  cases mt
  · go_wp2
    go_ret2
    have hp : putM f = ([], 1) := by unfold putM; rw [HMT.out, Bool.false_and, if_pos rfl]
    rw [hp]
    exact ⟨_, rfl, World.ownsRow_nil _ _ _ _, HK1.out⟩
  · go_wp2_with (refine wpList_ld rfl _ _ rfl _ 0 rfl _ HF1.out.all _ Try.underlying28 rfl (by rw [fcs_len HSIX.out]; exact infF) ?_)
    refine (mayCarry_yes f _ _ _ _ HI1.out HMT.out).mono ?_
    rintro e w2 ⟨rfl, hk⟩
    have HF2 := Lib.hid (HF1.out.kept hk (fun hf => hf))
    have HI2 := Lib.hid (HI1.out.kept hk)
    have HK2 := Lib.hid (HK1.out.then hk)
    clear hk HF1 HI1 HK1
    obtain ⟨mc, hmc⟩ : ∃ mc, carryM f = mc := ⟨_, rfl⟩
    rw [hmc]
    have HMC := Lib.hid hmc
    clear hmc
    cases mc
    · go_wp2
      go_ret2
      have hp : putM f = ([], 1) := by unfold putM; rw [HMC.out, Bool.and_false, if_pos rfl]
      rw [hp]
      exact ⟨_, rfl, World.ownsRow_nil _ _ _ _, HK2.out⟩
    · have hbt : bytesM f.t = bytTs f.t := Stk.bytes ((mayL_iff f.t).1 HMT.out)
      have HWM := Lib.hid (show withM f.d f.s f.t (headM f) = aheadM f by unfold withM aheadM; rw [hbt])
      have hput : putM f = if 65539 < (aheadM f).length + nb + nr then ([], 3) else (aheadM f ++ f.b ++ f.r, 0) := by
        unfold putM
        rw [HMT.out, HMC.out, HBL.out, HRL.out]
        rfl
      have hal : (aheadM f).length ≤ 5000 := by
        have := HTL.out
        have := HHL.out
        have := HSIX.out.d
        have := HSIX.out.s
        unfold aheadM
        rw [List.length_append, List.length_append, List.length_append, bytTs_len]
        omega
      have HPUT := Lib.hid hput
      have HAL := Lib.hid hal
      clear hbt hput hal
      have HT2 := Lib.hid (show Tags w2 At nt ct f.t by obtain ⟨A, n, c, e, ht⟩ := HI2.out.t; cases e; exact ht)
      have HS2 := Lib.hid (show w.heap.size ≤ w2.heap.size from HK2.out.size)
      go_wp2
      refine wp_region_acts Nil [7, 8] (fun i vl => (#[], 0)) (fun i => undef) (withI w.heap.size (headM f) (aheadM f)) (fun i v => if i = 7 then ∃ A c, v = .slice A (headM f).length c else ∃ A c, v = .slice A (aheadM f).length c) 9 (by kernel_rfl) (by kernel_rfl) (withI_keeps _ _ _) ⟨HS2.out, trivial⟩ ?_
      simp only [List.take_succ_cons, List.take_zero, List.drop_succ_cons, List.drop_zero]
      refine tLex_quiets 7 rfl (by kernel_rfl) ?_
      simp only [List.take_succ_cons, List.take_zero, List.drop_succ_cons, List.drop_zero]
      apply Exists.intro
      refine ⟨?hq, ?hv, ?ht⟩
      case hq =>
        intro V hV
        have e12 := fun d os => ((HF2.out.kept hV (fun hf => hf)).kept (kept_grown' V d os) (fun hf => hf)).ct HSIX.out
        go_big_quiet_step (fail)
        refine wpQuiet_ld rfl _ _ rfl w.heap.size 0 rfl (bys f.d) (fun w' hw => row_grown ((HF2.out.kept hV (fun hf => hf)).rd) hw) _ Try.underlying23 rfl (by rw [bys_len, HSIX.out.d]; exact infm) ?_
        simp only [Act.put, List.setIfInBounds_toArray, List.set_cons_succ, List.set_cons_zero]
        go_big_quiet_step (fail)
        refine wpQuiet_ld rfl _ _ rfl w.heap.size 6 rfl (bys f.s) (fun w' hw => row_grown ((HF2.out.kept hV (fun hf => hf)).rs HSIX.out) hw) _ Try.underlying23 rfl (by rw [bys_len, HSIX.out.s]; exact infm) ?_
        simp only [Act.put, List.setIfInBounds_toArray, List.set_cons_succ, List.set_cons_zero]
        go_big_quiet_step (fail)
        go_big_quiet_step (fail)
        refine wpQuiet_ld rfl _ _ rfl w.heap.size 0 rfl (fcs f (.slice At nt ct) (.slice Ab nb cb) (.slice Ar nr cr)) (fun w' hw => row_grown ((HF2.out.kept hV (fun hf => hf)).all) hw) _ Try.underlying28 rfl (by rw [fcs_len HSIX.out]; exact infF) ?_
        simp only [Act.put, List.setIfInBounds_toArray, List.set_cons_succ, List.set_cons_zero]
        exact wpQuiet_nil rfl
      case hv => exact ⟨trivial, trivial, trivial, trivial, trivial, trivial, trivial, trivial⟩
      case ht =>
        refine tLex_act 34 #[frv f (.slice At nt ct) (.slice Ab nb cb) (.slice Ar nr cr)] (fun u => ?he) rfl rfl (.slice none (headM f).length 0) ⟨_, _, rfl⟩ ?hc ?_
        case he => simp [execOp, go_sem]; rfl
        case hc =>
          intro D u hu hI hd
          refine (ahead_yes f _ _ _ u (HI2.out.kept hu) HMC.out).mono ?_
          rintro e w' ⟨v, rfl, hm⟩
          obtain ⟨A3, c3, hv3⟩ := own_form hm.1
          exact ⟨v, rfl, ⟨A3, c3, hv3⟩, hu.then hm.2, ⟨Nat.le_trans hI.1 hm.2.size, own_mono hm.1 hI.1⟩, hm.2.size, fun k _ hk => hm.2.block k hk (fun hf => hf)⟩
        rintro v ⟨A3, c3, rfl⟩
        simp only [Act.put, List.setIfInBounds_toArray, List.set_cons_succ, List.set_cons_zero]
        refine tLex_act 33 #[.agg (bys f.d).toArray, .agg (bys f.s).toArray, .slice At nt ct, .slice A3 (headM f).length c3] (fun u => ?he2) rfl rfl (.slice none (aheadM f).length 0) ⟨_, _, rfl⟩ ?hc2 ?_
        case he2 => simp [execOp, go_sem]
        case hc2 =>
          intro D u hu hI hd
          obtain ⟨hI1, hI2⟩ := hI
          have hI2' : u.ownsRow w.heap.size 5 1 (.slice A3 (headM f).length c3) (headM f).length (bys (headM f)) := hI2
          obtain ⟨A4, c4, e4, hy4, _⟩ := Byt.of_own hI2'
          cases e4
          refine (with_yes f.d f.s HSIX.out.d HSIX.out.s At nt ct f.t A3 _ c3 (headM f) u (HT2.out.kept hu (fun _ _ hf => hf)) hy4 htn (by have := HHL.out; omega)).mono ?_
          rintro e w' ⟨v, rfl, hm⟩
          rw [HWM.out] at hm
          obtain ⟨A5, c5, hv5⟩ := own_form hm.1
          exact ⟨v, rfl, ⟨A5, c5, hv5⟩, hu.then hm.2, ⟨Nat.le_trans hI1 hm.2.size, own_mono hm.1 hI1⟩, hm.2.size, fun k _ hk => hm.2.block k hk (fun hf => hf)⟩
        rintro v ⟨A5, c5, rfl⟩
        simp only [Act.put, List.setIfInBounds_toArray, List.set_cons_succ, List.set_cons_zero]
        intro w3 hs
        have hown : w3.ownsRow w.heap.size 5 1 (.slice A5 (aheadM f).length c5) (aheadM f).length (bys (aheadM f)) := hs.know.2
        obtain ⟨A6, c6, e6, hy6, _⟩ := Byt.of_own hown
        cases e6
        have HY := Lib.hid hy6
        have HF3 := Lib.hid (HF2.out.kept hs.kept (fun hf => hf))
        have HI3 := Lib.hid (HI2.out.kept hs.kept)
        have HK3 := Lib.hid (HK2.out.then hs.kept)
        have c21 := HF3.out.cb HSIX.out
        have c22 := HF3.out.cr HSIX.out
        clear hown hy6 hs HF2 HI2 HK2 HT2
        obtain ⟨q, hq⟩ : ∃ q, (aheadM f).length = q := ⟨_, rfl⟩
        rw [hq] at HY HAL ⊢
        have hq5 := HAL.out
        have HPUT2 := Lib.hid (by have := HPUT.out; rw [hq] at this; exact this)
        have HQ := Lib.hid hq
        clear hq HPUT
        have hw1 : IntKind.wrap .i64 ((q : Int) + (nb : Int)) = (q : Int) + (nb : Int) := by rw [IntKind.wrap_i64]; omega
        have hw2 : IntKind.wrap .i64 ((q : Int) + (nb : Int) + (nr : Int)) = (q : Int) + (nb : Int) + (nr : Int) := by rw [IntKind.wrap_i64]; omega
        by_cases hbig : 65539 < q + nb + nr
        · have hbig' : (65539 : Int) < (q : Int) + (nb : Int) + (nr : Int) := by omega
          have HP := Lib.hid (by have := HPUT2.out; rw [if_pos hbig] at this; exact this)
          clear hbig HPUT2
          go_wp2
          go_ret2
          rw [HP.out]
          exact ⟨_, rfl, World.ownsRow_nil _ _ _ _, HK3.out⟩
        · have hbig' : ¬ (65539 : Int) < (q : Int) + (nb : Int) + (nr : Int) := by omega
          have HP := Lib.hid (by have := HPUT2.out; rw [if_neg hbig] at this; exact this)
          clear hbig HPUT2
          have hB := Blo.new w3 26 #[.slice A5 q c5, .slice Ab nb cb, .slice Ar nr cr]
          have HB := Lib.hid hB
          have hka := (Kept.refl Nil w3).alloc (.cells #[.slice A5 q c5, .slice Ab nb cb, .slice Ar nr cr] 26)
          have HKA := Lib.hid hka
          have HTOT := Lib.hid (show [aheadM f, f.b, f.r].flatten.length ≤ 1099511627776 by simp [HQ.out, HBL.out, HRL.out]; omega)
          clear hB hka
          go_wp2_with fail
          refine (concat_b w3.heap.size 3 26 [.slice A5 q c5, .slice Ab nb cb, .slice Ar nr cr] [aheadM f, f.b, f.r] _ HB.out rfl rfl (by decide) ?_ HTOT.out).mono ?_
          · intro i h1 h2
            match i, h1 with
            | 0, _ => exact ⟨_, _, _, rfl, HY.out.kept HKA.out (fun _ _ hf => hf)⟩
            | 1, _ => obtain ⟨A, n, c, e, ht⟩ := HI3.out.b; cases e; exact ⟨_, _, _, rfl, ht.kept HKA.out (fun _ _ hf => hf)⟩
            | 2, _ => obtain ⟨A, n, c, e, ht⟩ := HI3.out.r; cases e; exact ⟨_, _, _, rfl, ht.kept HKA.out (fun _ _ hf => hf)⟩
          rintro e w4 ⟨v, rfl, hm⟩
          rw [show [aheadM f, f.b, f.r].flatten = aheadM f ++ f.b ++ f.r by simp] at hm
          have HM := Lib.hid hm
          clear hm
          go_wp2
          go_ret2
          rw [HP.out]
          exact ⟨_, rfl, own_mono HM.out.1 (Nat.le_trans HK3.out.size HKA.out.size), (HK3.out.then HKA.out).then HM.out.2⟩
end Go.Proofs.Ytddpdopccejmbaa
