/- Package ether: contract of ahead. -/
import Derived.Test.YthjfeanmgaidcaaMg36
import Derived.Test.YthjfeanmgaidcaaRegP
namespace Go.Proofs.Ythjfeanmgaidcaa
open Go.RowKit Go.Sort
set_option linter.unusedVariables false

theorem padI_src {B g : Nat} {v0 : Value} {ls : Nat → List UInt8} {D : Nat → Prop} {s : List Value} {w u : World} {A : Option Addr} {n c : Nat} (l : List UInt8) (hu : Kept (foot g v0) w u) (hI : padI B g w.heap.size v0 ls D s u) (hy : Byt w A n c l) (hA : ∀ i, Lies A n i → ¬ foot g v0 i)
    (hls : ls (s.length + 1) = ls s.length ++ l) (hbd : (ls s.length).length + n ≤ 1099511627776) :
    Calls Try.prog 24 #[.pointer (some ⟨g, 0, none⟩), .slice A n c] u fun e w' =>
      ∃ r, e = .returned r ∧ r = .pointer (some ⟨g, 0, none⟩) ∧ Kept (foot g v0) w w' ∧ padI B g w.heap.size v0 ls D (s ++ [r]) w' ∧ u.heap.size ≤ w'.heap.size ∧ ∀ k, D k → k < u.heap.size → w'.heap[k]? = u.heap[k]? := by
  obtain ⟨v, h1, h2, h3, h4, h5⟩ := hI
  have hs := (hy.kept hu hA).nums
  have hln := hy.1
  refine (PByte_yes B g v (ls s.length) _ _ _ (l.map UInt8.toNat) u h1 hs (by omega) ?_ (by simp; omega) (fun x hx => by obtain ⟨y, _, rfl⟩ := List.mem_map.1 hx; exact y.toNat_lt)).mono ?_
  · intro i hi hf
    exact hA i hi (foot_newer h3 i (hy.lt i hi) hf)
  · rintro e w' ⟨v', rfl, hp, hk, hnw⟩
    rw [beAll_bytes] at hp
    refine ⟨_, rfl, rfl, hu.trans hk (fun i hi hf => foot_newer h3 i hi hf), ⟨v', by rw [List.length_append, List.length_singleton, hls]; exact hp, fun k hk' => ⟨Nat.lt_of_lt_of_le (h2 k hk').1 hk.size, fun hf => ?_⟩, h3.trans hnw h4, Nat.le_trans h4 hk.size, h5⟩, hk.size, fun k hk' hlt => hk.block k hlt (h2 k hk').2⟩
    rcases hf with rfl | hf
    · exact (h2 k hk').2 (.inl rfl)
    · rcases hnw k hf with h | h
      · exact (h2 k hk').2 (.inr h)
      · have := (h2 k hk').1; omega
theorem two_beAll (x : Nat) : beAll 2 [x] = twoM x := beAll_two x
/-- What the pad holds, act by act. -/
def lsB (q : Nat) (l : List UInt8) (i : Nat) : List UInt8 := if i = 0 then [] else if i = 1 then twoM q else twoM q ++ l
def lsS (q : Nat) (l o : List UInt8) (m : Nat) (i : Nat) : List UInt8 := if i = 0 then [] else if i = 1 then twoM q else if i = 2 then twoM q ++ l else if i = 3 then twoM q ++ l ++ o else twoM q ++ l ++ o ++ twoM m
set_option maxRecDepth 100000 in
set_option maxHeartbeats 4000000 in
theorem ahead_yes (f : Fr) (vt vb vr : Value) (w : World) (h : FrIn w f vt vb vr) (hc : carryM f = true) :
    Calls Try.prog 49 #[frv f vt vb vr] w fun e w' => ∃ v, e = .returned v ∧ Made w w' v (headM f) := by
  have hF := FB.new w 57 f vt vb vr
  have hk := (Kept.refl Nil w).alloc (.cells (fcs f vt vb vr).toArray 57)
  have HF := Lib.hid hF
  have HK := Lib.hid hk
  have HI := Lib.hid (h.kept hk)
  have hok := h.ok
  have HC := Lib.hid hc
  clear hF hk h hc
  obtain ⟨d, s, t, k, y, l, o, b, r⟩ := f
  have HSIX := Lib.hid hok.six
  have HL := Lib.hid (show l.length = 3 from hok.l)
  have HO := Lib.hid (show o.length = 3 from hok.o)
  clear hok
  go_enter Try.func49, Try.ntmps49
  go_upto_region 1 with (fail)
  refine wp_nameE (fun W => FB W w.heap.size 57 ⟨d, s, t, k, y, l, o, b, r⟩ vt vb vr ∧ Kept Nil w W ∧ FrIn W ⟨d, s, t, k, y, l, o, b, r⟩ vt vb vr) ⟨HF.out, HK.out, HI.out⟩ ?_
  clear HF HK HI
  rintro W ⟨hF, hk, hi⟩
  have HF := Lib.hid hF
  have HK := Lib.hid hk
  have HI := Lib.hid hi
  clear hF hk hi
  go_wp2_with fail
  refine (Lay_yes _).mono ?_
  rintro e w1 ⟨rfl, hp, hk⟩
  have HP1 := Lib.hid hp
  have HF1 := Lib.hid (HF.out.kept hk (fun hf => hf))
  have HI1 := Lib.hid (HI.out.kept hk)
  have HK1 := Lib.hid (HK.out.then hk)
  have HG := Lib.hid (show w.heap.size < W.heap.size from HF.out.lt)
  have HS := Lib.hid (show w.heap.size ≤ W.heap.size from HK.out.size)
  clear hp hk HF HK HI
  generalize W.heap.size = g at *
  have c13 := HF1.out.ck HSIX.out
  have c14 := HF1.out.cy HSIX.out
  have c21 := HF1.out.cb HSIX.out
  simp only at c13 c14
  obtain ⟨Ab, nb, cb, rfl, hyb⟩ := HI1.out.b
  have HBL := Lib.hid (show b.length = nb from hyb.1)
  have hcc := hyb.2.2.1
  have hcn := hyb.2.1
  clear hyb
  have HGS := Lib.hid (show g < w1.heap.size from HP1.out.foot_lt g (.inl rfl))
  by_cases h1 : k = 1
  · subst h1
    have hcy := HC.out
    simp [carryM] at hcy
    obtain ⟨m, rfl⟩ : ∃ m : Nat, y = (m : Int) := ⟨y.toNat, by omega⟩
    have hm : m < 65536 := by omega
    have hw : IntKind.wrap .u16 (m : Int) = (m : Int) := by rw [IntKind.wrap_u16]; omega
    clear hcy
    go_wp2_with fail
    refine (PTwo_lit g g _ _ [m] w1 23 HP1.out (Nat.le_of_lt HGS.out) (by simp) (by simpa using hm)).mono ?_
    rintro e w2 ⟨v2, rfl, hp2, hk2, _⟩
    rw [two_beAll, List.nil_append] at hp2
    have HP2 := Lib.hid hp2
    have HK2 := Lib.hid hk2
    have HH := Lib.hid (show headM ⟨d, s, t, 1, (m : Int), l, o, b, r⟩ = twoM m from rfl)
    clear hp2 hk2
    go_wp2_with fail
    refine (Done_yes _ _ _ _ _ HP2.out (by simp [twoM])).mono ?_
    rintro e w3 ⟨v3, rfl, hm3⟩
    have HM := Lib.hid hm3
    clear hm3
    go_wp2
    go_ret
    rw [HH.out]
    exact ⟨_, rfl, own_mono HM.out.1 (Nat.le_trans HK1.out.size HK2.out.size), (HK1.out.fresh HK2.out (fun i hi => Nat.le_trans HS.out (HP1.out.foot_ge i hi))).then HM.out.2⟩
  · by_cases h2 : k = 2
    · subst h2
      have hcy := HC.out
      simp [carryM, HBL.out] at hcy
      have hnb : 3 + nb ≤ 1500 := by omega
      clear hcy
      have HNF := Lib.hid (show ¬ foot g (.slice none 0 0) w.heap.size from fun hf => absurd (HP1.out.foot_ge _ hf) (Nat.not_le.2 HG.out))
      have HBY := Lib.hid (byt_row (HF1.out.rl HSIX.out) (by show l.length ≤ _; rw [HL.out]; decide) 3 HL.out)
      have HBO := Lib.hid (byt_row (HF1.out.ro HSIX.out) (by show o.length ≤ _; rw [HO.out]; decide) 3 HO.out)
      obtain ⟨q, hq⟩ : ∃ q : Nat, 3 + nb = q := ⟨_, rfl⟩
      have hw : IntKind.wrap .i64 (3 + (nb : Int)) = (q : Int) := by rw [IntKind.wrap_i64]; omega
      have hw2 : IntKind.wrap .u16 (q : Int) = (q : Int) := by rw [IntKind.wrap_u16]; omega
      have HQ := Lib.hid (show q < 65536 by omega)
      have HH := Lib.hid (show headM ⟨d, s, t, 2, y, l, o, b, r⟩ = twoM q ++ l by show twoM (3 + b.length) ++ l = _; rw [HBL.out, hq])
      have HST := Lib.hid (padI_start (w := w1) (lsB q l) HP1.out rfl (Nat.le_of_lt HGS.out))
      have HKP := Lib.hid (padI_keeps g g w1.heap.size (.slice none 0 0) (lsB q l))
      clear c14 h1 hq hnb
      go_wp2
      refine wp_region_acts (foot g (.slice none 0 0)) [7, 10] (fun i vl => (vl.toArray, 23)) (fun i => if i = 3 then .int .i64 (nb : Int) else undef) (padI g g w1.heap.size (.slice none 0 0) (lsB q l)) (fun i v => v = .pointer (some ⟨g, 0, none⟩)) 11 (by kernel_rfl) (by kernel_rfl) HKP.out HST.out ?_
      simp only [List.take_succ_cons, List.take_zero, List.drop_succ_cons, List.drop_zero]
      refine tLex_quiets 6 rfl (by kernel_rfl) ?_
      simp only [List.take_succ_cons, List.take_zero, List.drop_succ_cons, List.drop_zero]
      apply Exists.intro
      refine ⟨?hq1, ?hv1, ?ht1⟩
      case hq1 =>
        intro V hV
        have hfv := HF1.out.kept hV HNF.out
        have e21 := fun d os => (hfv.kept (kept_grown' V d os) (fun hf => hf)).cb HSIX.out
        have e14 := fun d os => (hfv.kept (kept_grown' V d os) (fun hf => hf)).cy HSIX.out
        clear hfv
        clear hV
        repeat (go_big_quiet_step (fail))
        exact wpQuiet_nil rfl
      case hv1 => exact ⟨trivial, trivial, trivial, rfl, trivial, trivial, trivial⟩
      case ht1 =>
        refine tLex_make (#[.int .u16 (q : Int)], 23) rfl rfl rfl rfl (fun u => ?hma) ?_
        case hma => simp [execOp, mkVal, Instr.buildSlice, go_sem]
        intro gg hg hL
        simp only [Act.put, mkVal, List.setIfInBounds_toArray, List.set_cons_succ, List.set_cons_zero]
        refine tLex_act 26 #[.pointer (some ⟨g, 0, none⟩), .slice (some ⟨gg, 0, none⟩) 1 1] (fun u => ?heb) rfl rfl _ rfl ?hcb ?_
        case heb => simp [execOp, go_sem, mkVal]
        case hcb =>
          intro D u hu hI hdd
          obtain ⟨d1, d2⟩ := hdd gg _ ⟨_, List.mem_cons_of_mem _ (List.mem_cons_of_mem _ (List.mem_cons_self ..)), rfl⟩ (mput_same _ _ _)
          exact padI_two (n := 1) [q] hu hI d1 d2 rfl rfl (by rw [two_beAll]; rfl) (by simp [lsB]) (by have := HQ.out; simp; omega)
        rintro v rfl
        simp only [Act.put, List.setIfInBounds_toArray, List.set_cons_succ, List.set_cons_zero]
        refine tLex_quiets 2 rfl (by kernel_rfl) ?_
        simp only [List.take_succ_cons, List.take_zero, List.drop_succ_cons, List.drop_zero]
        apply Exists.intro
        refine ⟨?hq2, ?hv2, ?ht2⟩
        case hq2 =>
          intro V hV
          clear hV
          repeat (go_big_quiet_step (fail))
          exact wpQuiet_nil rfl
        case hv2 => exact ⟨trivial, trivial, trivial⟩
        case ht2 =>
          refine tLex_act 24 #[.pointer (some ⟨g, 0, none⟩), .slice (some ⟨w.heap.size, 15, none⟩) 3 3] (fun u => ?hec) rfl rfl _ rfl ?hcc ?_
          case hec => simp [execOp, go_sem]
          case hcc =>
            intro D u hu hI hdd
            exact padI_src l hu hI HBY.out (fun i hi => by obtain ⟨_, ad, e, rfl⟩ := hi; cases e; exact HNF.out) rfl (by simp [lsB, twoM])
          rintro v rfl
          simp only [Act.put, List.setIfInBounds_toArray, List.set_cons_succ, List.set_cons_zero]
          intro w2 hs
          obtain ⟨v2, hp2, _, _, _, _⟩ := hs.know
          have HP2 := Lib.hid (show Padd w2 g g v2 (twoM q ++ l) from hp2)
          have HK2 := Lib.hid hs.kept
          clear hp2 hs
          go_wp2_with fail
          refine (Done_yes _ _ _ _ _ HP2.out (by simp [twoM, HL.out])).mono ?_
          rintro e w3 ⟨v3, rfl, hm3⟩
          have HM := Lib.hid hm3
          clear hm3
          go_wp2
          go_ret
          rw [HH.out]
          exact ⟨_, rfl, own_mono HM.out.1 (Nat.le_trans HK1.out.size HK2.out.size), (HK1.out.fresh HK2.out (fun i hi => Nat.le_trans HS.out (HP1.out.foot_ge i hi))).then HM.out.2⟩
    · by_cases h3 : k = 3
      · subst h3
        have hcy := HC.out
        simp [carryM, HBL.out] at hcy
        obtain ⟨m, rfl⟩ : ∃ m : Nat, y = (m : Int) := ⟨y.toNat, by omega⟩
        have HM3 := Lib.hid (show m < 65536 by omega)
        have hwm : IntKind.wrap .u16 (m : Int) = (m : Int) := by rw [IntKind.wrap_u16]; omega
        have hnb : 8 + nb ≤ 1500 := by omega
        clear hcy
        have HNF := Lib.hid (show ¬ foot g (.slice none 0 0) w.heap.size from fun hf => absurd (HP1.out.foot_ge _ hf) (Nat.not_le.2 HG.out))
        have HBY := Lib.hid (byt_row (HF1.out.rl HSIX.out) (by show l.length ≤ _; rw [HL.out]; decide) 3 HL.out)
        have HBO := Lib.hid (byt_row (HF1.out.ro HSIX.out) (by show o.length ≤ _; rw [HO.out]; decide) 3 HO.out)
        obtain ⟨q, hq⟩ : ∃ q : Nat, 8 + nb = q := ⟨_, rfl⟩
        have hw : IntKind.wrap .i64 (8 + (nb : Int)) = (q : Int) := by rw [IntKind.wrap_i64]; omega
        have hw2 : IntKind.wrap .u16 (q : Int) = (q : Int) := by rw [IntKind.wrap_u16]; omega
        have HQ := Lib.hid (show q < 65536 by omega)
        have HH := Lib.hid (show headM ⟨d, s, t, 3, (m : Int), l, o, b, r⟩ = twoM q ++ l ++ o ++ twoM m by show twoM (8 + b.length) ++ l ++ o ++ twoM m = _; rw [HBL.out, hq])
        have HST := Lib.hid (padI_start (w := w1) (lsS q l o m) HP1.out rfl (Nat.le_of_lt HGS.out))
        have HKP := Lib.hid (padI_keeps g g w1.heap.size (.slice none 0 0) (lsS q l o m))
        clear h1 h2 hq hnb
        go_wp2
        refine wp_region_acts (foot g (.slice none 0 0)) [7, 10, 13, 18] (fun i vl => (vl.toArray, 23)) (fun i => if i = 3 then .int .i64 (nb : Int) else undef) (padI g g w1.heap.size (.slice none 0 0) (lsS q l o m)) (fun i v => v = .pointer (some ⟨g, 0, none⟩)) 19 (by kernel_rfl) (by kernel_rfl) HKP.out HST.out ?_
        simp only [List.take_succ_cons, List.take_zero, List.drop_succ_cons, List.drop_zero]
        refine tLex_quiets 6 rfl (by kernel_rfl) ?_
        simp only [List.take_succ_cons, List.take_zero, List.drop_succ_cons, List.drop_zero]
        apply Exists.intro
        refine ⟨?hq1, ?hv1, ?ht1⟩
        case hq1 =>
          intro V hV
          have hfv := HF1.out.kept hV HNF.out
          have e21 := fun d os => (hfv.kept (kept_grown' V d os) (fun hf => hf)).cb HSIX.out
          have e14 := fun d os => (hfv.kept (kept_grown' V d os) (fun hf => hf)).cy HSIX.out
          clear hfv
          clear hV
          repeat (go_big_quiet_step (fail))
          exact wpQuiet_nil rfl
        case hv1 => exact ⟨trivial, trivial, trivial, rfl, trivial, trivial, trivial⟩
        case ht1 =>
          refine tLex_make (#[.int .u16 (q : Int)], 23) rfl rfl rfl rfl (fun u => ?hma) ?_
          case hma => simp [execOp, mkVal, Instr.buildSlice, go_sem]
          intro gg hg hL
          simp only [Act.put, mkVal, List.setIfInBounds_toArray, List.set_cons_succ, List.set_cons_zero]
          refine tLex_act 26 #[.pointer (some ⟨g, 0, none⟩), .slice (some ⟨gg, 0, none⟩) 1 1] (fun u => ?heb) rfl rfl _ rfl ?hcb ?_
          case heb => simp [execOp, go_sem, mkVal]
          case hcb =>
            intro D u hu hI hdd
            obtain ⟨d1, d2⟩ := hdd gg _ ⟨_, List.mem_cons_of_mem _ (List.mem_cons_of_mem _ (List.mem_cons_self ..)), rfl⟩ (mput_same _ _ _)
            exact padI_two (n := 1) [q] hu hI d1 d2 rfl rfl (by rw [two_beAll]; rfl) (by simp [lsS]) (by have := HQ.out; simp; omega)
          rintro v rfl
          simp only [Act.put, List.setIfInBounds_toArray, List.set_cons_succ, List.set_cons_zero]
          refine tLex_quiets 2 rfl (by kernel_rfl) ?_
          simp only [List.take_succ_cons, List.take_zero, List.drop_succ_cons, List.drop_zero]
          apply Exists.intro
          refine ⟨?hq2, ?hv2, ?ht2⟩
          case hq2 =>
            intro V hV
            clear hV
            repeat (go_big_quiet_step (fail))
            exact wpQuiet_nil rfl
          case hv2 => exact ⟨trivial, trivial, trivial⟩
          case ht2 =>
            refine tLex_act 24 #[.pointer (some ⟨g, 0, none⟩), .slice (some ⟨w.heap.size, 15, none⟩) 3 3] (fun u => ?hec) rfl rfl _ rfl ?hcc ?_
            case hec => simp [execOp, go_sem]
            case hcc =>
              intro D u hu hI hdd
              exact padI_src l hu hI HBY.out (fun i hi => by obtain ⟨_, ad, e, rfl⟩ := hi; cases e; exact HNF.out) rfl (by simp [lsS, twoM])
            rintro v rfl
            simp only [Act.put, List.setIfInBounds_toArray, List.set_cons_succ, List.set_cons_zero]
            refine tLex_quiets 2 rfl (by kernel_rfl) ?_
            simp only [List.take_succ_cons, List.take_zero, List.drop_succ_cons, List.drop_zero]
            apply Exists.intro
            refine ⟨?hq3, ?hv3, ?ht3⟩
            case hq3 =>
              intro V hV
              clear hV
              repeat (go_big_quiet_step (fail))
              exact wpQuiet_nil rfl
            case hv3 => exact ⟨trivial, trivial, trivial⟩
            case ht3 =>
              refine tLex_act 24 #[.pointer (some ⟨g, 0, none⟩), .slice (some ⟨w.heap.size, 18, none⟩) 3 3] (fun u => ?hed) rfl rfl _ rfl ?hcd ?_
              case hed => simp [execOp, go_sem]
              case hcd =>
                intro D u hu hI hdd
                exact padI_src o hu hI HBO.out (fun i hi => by obtain ⟨_, ad, e, rfl⟩ := hi; cases e; exact HNF.out) rfl (by simp [lsS, twoM, HL.out])
              rintro v rfl
              simp only [Act.put, List.setIfInBounds_toArray, List.set_cons_succ, List.set_cons_zero]
              refine tLex_quiets 3 rfl (by kernel_rfl) ?_
              simp only [List.take_succ_cons, List.take_zero, List.drop_succ_cons, List.drop_zero]
              apply Exists.intro
              refine ⟨?hq4, ?hv4, ?ht4⟩
              case hq4 =>
                intro V hV
                have hfv := HF1.out.kept hV HNF.out
                have e14 := fun d os => (hfv.kept (kept_grown' V d os) (fun hf => hf)).cy HSIX.out
                clear hfv hV
                repeat (go_big_quiet_step (fail))
                exact wpQuiet_nil rfl
              case hv4 => exact ⟨trivial, trivial, trivial, trivial⟩
              case ht4 =>
                refine tLex_make (#[.int .u16 (m : Int)], 23) rfl rfl rfl rfl (fun u => ?hme) ?_
                case hme => simp [execOp, mkVal, Instr.buildSlice, go_sem]
                intro gh hg2 hL2
                simp only [Act.put, mkVal, List.setIfInBounds_toArray, List.set_cons_succ, List.set_cons_zero]
                refine tLex_act 26 #[.pointer (some ⟨g, 0, none⟩), .slice (some ⟨gh, 0, none⟩) 1 1] (fun u => ?hef) rfl rfl _ rfl ?hcf ?_
                case hef => simp [execOp, go_sem, mkVal]
                case hcf =>
                  intro D u hu hI hdd
                  obtain ⟨d1, d2⟩ := hdd gh _ ⟨_, List.mem_cons_of_mem _ (List.mem_cons_of_mem _ (List.mem_cons_self ..)), rfl⟩ (mput_same _ _ _)
                  exact padI_two (n := 1) [m] hu hI d1 d2 rfl rfl (by rw [two_beAll]; rfl) (by simp [lsS, twoM, HL.out, HO.out]) (by have := HM3.out; simp; omega)
                rintro v rfl
                simp only [Act.put, List.setIfInBounds_toArray, List.set_cons_succ, List.set_cons_zero]
                intro w2 hs
                obtain ⟨v2, hp2, _, _, _, _⟩ := hs.know
                have HP2 := Lib.hid (show Padd w2 g g v2 (twoM q ++ l ++ o ++ twoM m) from hp2)
                have HK2 := Lib.hid hs.kept
                clear hp2 hs
                go_wp2_with fail
                refine (Done_yes _ _ _ _ _ HP2.out (by simp [twoM, HL.out, HO.out])).mono ?_
                rintro e w3 ⟨v3, rfl, hm3⟩
                have HM := Lib.hid hm3
                clear hm3
                go_wp2
                go_ret
                rw [HH.out]
                exact ⟨_, rfl, own_mono HM.out.1 (Nat.le_trans HK1.out.size HK2.out.size), (HK1.out.fresh HK2.out (fun i hi => Nat.le_trans HS.out (HP1.out.foot_ge i hi))).then HM.out.2⟩
      · exfalso
        have hcy := HC.out
        simp [carryM, h1, h2, h3] at hcy
end Go.Proofs.Ythjfeanmgaidcaa
