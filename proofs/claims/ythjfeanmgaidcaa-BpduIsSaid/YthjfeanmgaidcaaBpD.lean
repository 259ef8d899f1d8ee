/- Package bpdu: what lays, Put. -/
import Derived.Test.YthjfeanmgaidcaaBpC
import Derived.Test.YthjfeanmgaidcaaRegP
import Derived.Test.YthjfeanmgaidcaaMg13
namespace Go.Proofs.Ythjfeanmgaidcaa
open Go.RowKit Go.Sort
set_option linter.unusedVariables false

set_option maxRecDepth 100000 in
theorem eight_yes (B g : Nat) (v : Value) (l : List UInt8) (n : Nat) (hn : n < 18446744073709551616) (w : World) (h : Padd w B g v l) (hB : B ≤ w.heap.size) (hbd : l.length ≤ 1000) :
    Calls Try.prog 66 #[.pointer (some ⟨g, 0, none⟩), .int .u64 (n : Int)] w fun e w' => ∃ v', e = .returned (.tuple #[]) ∧ Padd w' B g v' (l ++ beM 8 n) ∧ Kept (foot g v) w w' ∧ Newer w.heap.size v v' := by
  have hf := PFour_lit B g v l [n / 4294967296, n % 4294967296] w 22 h hB (by show _ + 2 * 4 ≤ _; omega) (by intro x hx; simp at hx; rcases hx with rfl | rfl <;> omega)
  have HF := Lib.hid hf
  clear hf
  go_enter Try.func66, Try.ntmps66
  go_wp2_with (fail)
  refine HF.out.mono ?_
  rintro e w1 ⟨v1, rfl, hp, hk, hnw⟩
  rw [← beM8] at hp
  have HP := Lib.hid (show Padd w1 B g v1 (l ++ beM 8 n) ∧ Kept (foot g v) w w1 ∧ Newer w.heap.size v v1 from ⟨hp, hk, hnw⟩)
  clear hp hk hnw
  go_wp2
  go_end0
  exact ⟨v1, rfl, HP.out⟩
/-- An act of a pad's, of whatever function. -/
theorem padI_of {B g : Nat} {v0 : Value} {ls : Nat → List UInt8} {D : Nat → Prop} {s : List Value} {w u : World} {f : FuncId} {args : Array Value} (l : List UInt8) (r : Value) (hu : Kept (foot g v0) w u) (hI : padI B g w.heap.size v0 ls D s u) (hls : ls (s.length + 1) = ls s.length ++ l)
    (hc : ∀ v, Padd u B g v (ls s.length) → B ≤ u.heap.size → Calls Try.prog f args u fun e w' => ∃ v', e = .returned r ∧ Padd w' B g v' (ls s.length ++ l) ∧ Kept (foot g v) u w' ∧ Newer u.heap.size v v') :
    Calls Try.prog f args u fun e w' => ∃ r', e = .returned r' ∧ r' = r ∧ Kept (foot g v0) w w' ∧ padI B g w.heap.size v0 ls D (s ++ [r']) w' ∧ u.heap.size ≤ w'.heap.size ∧ ∀ k, D k → k < u.heap.size → w'.heap[k]? = u.heap[k]? := by
  obtain ⟨v, h1, h2, h3, h4, h5⟩ := hI
  refine (hc v h1 (by omega)).mono ?_
  rintro e w' ⟨v', rfl, hp, hk, hnw⟩
  refine ⟨_, rfl, rfl, hu.trans hk (fun i hi hf => foot_newer h3 i hi hf), ⟨v', by rw [List.length_append, List.length_singleton, hls]; exact hp, fun k hk' => ⟨Nat.lt_of_lt_of_le (h2 k hk').1 hk.size, fun hf => ?_⟩, h3.trans hnw h4, Nat.le_trans h4 hk.size, h5⟩, hk.size, fun k hk' hlt => hk.block k hlt (h2 k hk').2⟩
  rcases hf with rfl | hf
  · exact (h2 k hk').2 (.inl rfl)
  · rcases hnw k hf with h | h
    · exact (h2 k hk').2 (.inr h)
    · have := (h2 k hk').1; omega
def lsA (l a b : List UInt8) (i : Nat) : List UInt8 := match i with
  | 0 => l
  | 1 => l ++ a
  | _ => l ++ a ++ b
def lsT (l a b c : List UInt8) (i : Nat) : List UInt8 := match i with
  | 0 => l
  | 1 => l ++ a
  | 2 => l ++ a ++ b
  | _ => l ++ a ++ b ++ c
theorem beAll1 (W x : Nat) : beAll W [x] = beM W x := by simp [beAll]
/-- What an act of these regions answers. -/
def pvE (g : Nat) (i : Nat) (v : Value) : Prop := v = match i with | 7 => .tuple #[] | _ => .pointer (some ⟨g, 0, none⟩)

set_option maxRecDepth 100000 in
set_option maxHeartbeats 4000000 in
theorem layf_yes (B g : Nat) (v : Value) (l : List UInt8) (m : Bp) (hm : m.ok) (w : World) (h : Padd w B g v l) (hB : B ≤ w.heap.size) (hbd : l.length ≤ 100) :
    Calls Try.prog 39 #[.pointer (some ⟨g, 0, none⟩), bpv m] w fun e w' => ∃ v', e = .returned (.pointer (some ⟨g, 0, none⟩)) ∧ Padd w' B g v' (l ++ fldB m) ∧ Kept (foot g v) w w' ∧ Newer w.heap.size v v' := by
  have hX := BPB.new w 52 m
  have hgs : ¬ foot g v w.heap.size := fun hf => absurd (h.foot_lt _ hf) (Nat.lt_irrefl _)
  have HOK := Lib.hid hm
  have HGS := Lib.hid hgs
  have HBD := Lib.hid hbd
  clear hm hgs hbd
  go_enter Try.func39, Try.ntmps39
  go_upto_region 1 with (fail)
  refine wp_nameE (fun W => BPB W w.heap.size 52 m ∧ Padd W B g v l ∧ Kept Nil w W ∧ W.heap.size = w.heap.size + 1) ⟨hX, h.kept ((Kept.refl Nil w).alloc _) (fun _ _ hf => hf), (Kept.refl Nil w).alloc _, by simp⟩ ?_
  clear hX h
  rintro W ⟨hX, hp, hk, hz⟩
  obtain ⟨gm, hgm⟩ : ∃ x, w.heap.size = x := ⟨_, rfl⟩
  rw [hgm] at hX HGS ⊢
  have HX := Lib.hid hX
  have HZ := Lib.hid (show B ≤ W.heap.size by omega)
  have HK := Lib.hid (show Kept (foot g v) w W from hk.mono (fun _ _ hf => hf.elim))
  have HKP := Lib.hid (padI_keeps B g W.heap.size v (lsA l (beM 1 m.fl) (beM 8 m.ro)))
  have HST := Lib.hid (padI_start (w := W) (lsA l (beM 1 m.fl) (beM 8 m.ro)) hp rfl HZ.out)
  have HWW := Lib.hid (show gm < W.heap.size by omega)
  clear hX hp hk hgm
  refine wp_region_acts (foot g v) [4, 7] (fun i vl => (vl.toArray, 5)) (fun i => undef) (padI B g W.heap.size v (lsA l (beM 1 m.fl) (beM 8 m.ro))) (pvE g) 8 (by kernel_rfl) (by kernel_rfl) HKP.out HST.out ?_
  simp only [List.take_succ_cons, List.take_zero, List.drop_succ_cons, List.drop_zero]
  refine tLex_quiets 3 rfl (by kernel_rfl) ?_
  simp only [List.take_succ_cons, List.take_zero, List.drop_succ_cons, List.drop_zero]
  apply Exists.intro
  refine ⟨?hq1, ?hv1, ?ht1⟩
  case hq1 =>
    intro V hV
    have e1 := fun d os => ((HX.out.kept hV HGS.out).kept (kept_grown' V d os) (fun hf => hf)).c1
    clear hV
    repeat (go_big_quiet_step (fail))
    exact wpQuiet_nil rfl
  case hv1 => exact ⟨trivial, trivial, trivial, trivial⟩
  case ht1 =>
    refine tLex_make (#[.int .u8 (m.fl : Int)], 5) rfl rfl rfl rfl (fun u => ?hm1) ?_
    case hm1 => simp [execOp, mkVal, Instr.buildSlice, go_sem]
    intro q1 hg1 hL1
    simp only [Act.put, mkVal, List.setIfInBounds_toArray, List.set_cons_succ, List.set_cons_zero]
    refine tLex_act 24 #[.pointer (some ⟨g, 0, none⟩), .slice (some ⟨q1, 0, none⟩) 1 1] (fun u => ?he2) rfl rfl _ rfl ?hc2 ?_
    case he2 => simp [execOp, go_sem, mkVal]
    case hc2 =>
      intro D u hu hI hdd
      obtain ⟨d1, d2⟩ := hdd _ _ ⟨_, List.mem_cons_of_mem _ (List.mem_cons_of_mem _ (List.mem_cons_self ..)), rfl⟩ (mput_same _ _ _)
      exact padI_byte (n := 1) [m.fl] hu hI d1 d2 rfl rfl (by show _ = l ++ _; rw [beAll1]; rfl) (by have := HBD.out; simp [lsA]; omega) (by have := HOK.out.fl; simp; omega)
    rintro r2 hr2
    have hr2 : r2 = .pointer (some ⟨g, 0, none⟩) := hr2
    subst hr2
    simp only [Act.put, List.setIfInBounds_toArray, List.set_cons_succ, List.set_cons_zero]
    refine tLex_quiets 2 rfl (by kernel_rfl) ?_
    simp only [List.take_succ_cons, List.take_zero, List.drop_succ_cons, List.drop_zero]
    apply Exists.intro
    refine ⟨?hq2, ?hv2, ?ht2⟩
    case hq2 =>
      intro V hV
      have e2 := fun d os => ((HX.out.kept hV HGS.out).kept (kept_grown' V d os) (fun hf => hf)).c2
      clear hV
      repeat (go_big_quiet_step (fail))
      exact wpQuiet_nil rfl
    case hv2 => exact ⟨trivial, trivial, trivial⟩
    case ht2 =>
      refine tLex_act 66 #[.pointer (some ⟨g, 0, none⟩), .int .u64 (m.ro : Int)] (fun u => ?he3) rfl rfl _ rfl ?hc3 ?_
      case he3 => simp [execOp, go_sem, mkVal]
      case hc3 =>
        intro D u hu hI hdd
        exact padI_of (beM 8 m.ro) (.tuple #[]) hu hI rfl (fun v2 hp2 hB2 => eight_yes B g v2 _ m.ro HOK.out.ro u hp2 hB2 (by have := HBD.out; simp [lsA, beM_len]; omega))
      rintro r3 hr3
      have hr3 : r3 = .tuple #[] := hr3
      subst hr3
      simp only [Act.put, List.setIfInBounds_toArray, List.set_cons_succ, List.set_cons_zero]
      intro W2 hs
      obtain ⟨v2, hp2, _, hn2, _, _⟩ := hs.know
      have hX2 := HX.out.kept hs.kept HGS.out
      have HK2 := Lib.hid (HK.out.same hs.kept)
      have hsz2 : W.heap.size ≤ W2.heap.size := hs.kept.size
      have HGS2 := Lib.hid (show ¬ foot g v2 gm from fun hf => HGS.out (foot_newer hn2 gm HWW.out hf))
      have HN2 := Lib.hid (show Newer w.heap.size v v2 from fun i hi => by rcases hn2 i hi with h | h; exact .inl h; exact .inr (by omega))
      have HL2 := Lib.hid (show (l ++ beM 1 m.fl ++ beM 8 m.ro).length ≤ 200 by have := HBD.out; simp [beM_len]; omega)
      have hp2' : Padd W2 B g v2 (l ++ beM 1 m.fl ++ beM 8 m.ro) := hp2
      obtain ⟨l2, hl2⟩ : ∃ x, l ++ beM 1 m.fl ++ beM 8 m.ro = x := ⟨_, rfl⟩
      rw [hl2] at hp2' HL2
      have HL := Lib.hid hl2
      have HZ2 := Lib.hid (show B ≤ W2.heap.size by have := HZ.out; omega)
      have HG2 := Lib.hid (show w.heap.size ≤ W2.heap.size by omega)
      have HWW2 := Lib.hid (show gm < W2.heap.size by have := HWW.out; omega)
      have HX2 := Lib.hid hX2
      clear hs hp2 hn2 hX2 hsz2 hl2 HX HK HKP HST HZ HWW HGS hz
      have HKP := Lib.hid (padI_keeps B g W2.heap.size v2 (lsA l2 (beM 4 m.co) (beM 8 m.br)))
      have HST := Lib.hid (padI_start (w := W2) (lsA l2 (beM 4 m.co) (beM 8 m.br)) hp2' rfl HZ2.out)
      clear hp2'
      try simp only [List.setIfInBounds_toArray, List.set_cons_succ, List.set_cons_zero]
      go_upto_region 2 with (fail)
      refine wp_region_acts (foot g v2) [4, 7] (fun i vl => (vl.toArray, 22)) (fun i => undef) (padI B g W2.heap.size v2 (lsA l2 (beM 4 m.co) (beM 8 m.br))) (pvE g) 8 (by kernel_rfl) (by kernel_rfl) HKP.out HST.out ?_
      simp only [List.take_succ_cons, List.take_zero, List.drop_succ_cons, List.drop_zero]
      refine tLex_quiets 3 rfl (by kernel_rfl) ?_
      simp only [List.take_succ_cons, List.take_zero, List.drop_succ_cons, List.drop_zero]
      apply Exists.intro
      refine ⟨?hq3, ?hv3, ?ht3⟩
      case hq3 =>
        intro V hV
        have e4 := fun d os => ((HX2.out.kept hV HGS2.out).kept (kept_grown' V d os) (fun hf => hf)).c4
        clear hV
        repeat (go_big_quiet_step (fail))
        exact wpQuiet_nil rfl
      case hv3 => exact ⟨trivial, trivial, trivial, trivial⟩
      case ht3 =>
        refine tLex_make (#[.int .u32 (m.co : Int)], 22) rfl rfl rfl rfl (fun u => ?hm5) ?_
        case hm5 => simp [execOp, mkVal, Instr.buildSlice, go_sem]
        intro q5 hg5 hL5
        simp only [Act.put, mkVal, List.setIfInBounds_toArray, List.set_cons_succ, List.set_cons_zero]
        refine tLex_act 25 #[.pointer (some ⟨g, 0, none⟩), .slice (some ⟨q5, 0, none⟩) 1 1] (fun u => ?he6) rfl rfl _ rfl ?hc6 ?_
        case he6 => simp [execOp, go_sem, mkVal]
        case hc6 =>
          intro D u hu hI hdd
          obtain ⟨d1, d2⟩ := hdd _ _ ⟨_, List.mem_cons_of_mem _ (List.mem_cons_of_mem _ (List.mem_cons_self ..)), rfl⟩ (mput_same _ _ _)
          exact padI_four (n := 1) [m.co] hu hI d1 d2 rfl rfl (by show _ = l2 ++ _; rw [beAll1]; rfl) (by have := HL2.out; simp [lsA]; omega) (by have := HOK.out.co; simp; omega)
        rintro r6 hr6
        have hr6 : r6 = .pointer (some ⟨g, 0, none⟩) := hr6
        subst hr6
        simp only [Act.put, List.setIfInBounds_toArray, List.set_cons_succ, List.set_cons_zero]
        refine tLex_quiets 2 rfl (by kernel_rfl) ?_
        simp only [List.take_succ_cons, List.take_zero, List.drop_succ_cons, List.drop_zero]
        apply Exists.intro
        refine ⟨?hq4, ?hv4, ?ht4⟩
        case hq4 =>
          intro V hV
          have e3 := fun d os => ((HX2.out.kept hV HGS2.out).kept (kept_grown' V d os) (fun hf => hf)).c3
          clear hV
          repeat (go_big_quiet_step (fail))
          exact wpQuiet_nil rfl
        case hv4 => exact ⟨trivial, trivial, trivial⟩
        case ht4 =>
          refine tLex_act 66 #[.pointer (some ⟨g, 0, none⟩), .int .u64 (m.br : Int)] (fun u => ?he7) rfl rfl _ rfl ?hc7 ?_
          case he7 => simp [execOp, go_sem, mkVal]
          case hc7 =>
            intro D u hu hI hdd
            exact padI_of (beM 8 m.br) (.tuple #[]) hu hI rfl (fun v2 hp2 hB2 => eight_yes B g v2 _ m.br HOK.out.br u hp2 hB2 (by have := HL2.out; simp [lsA, beM_len]; omega))
          rintro r7 hr7
          have hr7 : r7 = .tuple #[] := hr7
          subst hr7
          simp only [Act.put, List.setIfInBounds_toArray, List.set_cons_succ, List.set_cons_zero]
          intro W3 hs
          obtain ⟨v3, hp3, _, hn3, _, _⟩ := hs.know
          have hX3 := HX2.out.kept hs.kept HGS2.out
          have HK3 := Lib.hid (show Kept (foot g v) w W3 from HK2.out.trans hs.kept (fun i hi hf => foot_newer HN2.out i hi hf))
          have hsz3 : W2.heap.size ≤ W3.heap.size := hs.kept.size
          have HN3 := Lib.hid (show Newer w.heap.size v v3 from HN2.out.trans hn3 HG2.out)
          have HL3 := Lib.hid (show (l2 ++ beM 4 m.co ++ beM 8 m.br).length ≤ 300 by have := HL2.out; simp [beM_len]; omega)
          have hp3' : Padd W3 B g v3 (l2 ++ beM 4 m.co ++ beM 8 m.br) := hp3
          have HFL := Lib.hid (show l ++ fldB m = (l2 ++ beM 4 m.co ++ beM 8 m.br) ++ beAll 2 [m.po, m.ag, m.ma, m.he, m.de] by rw [← HL.out]; simp [fldB, beAll])
          obtain ⟨l3, hl3⟩ : ∃ x, l2 ++ beM 4 m.co ++ beM 8 m.br = x := ⟨_, rfl⟩
          rw [hl3] at hp3' HL3 HFL
          have HZ3 := Lib.hid (show B ≤ W3.heap.size by have := HZ2.out; omega)
          have HG3 := Lib.hid (show w.heap.size ≤ W3.heap.size by have := HG2.out; omega)
          have c5 := hX3.c5
          have c6 := hX3.c6
          have c7 := hX3.c7
          have c8 := hX3.c8
          have c9 := hX3.c9
          have HP3 := Lib.hid hp3'
          clear hs hp3 hn3 hX3 hsz3 hl3 HX2 HK2 HKP HST HZ2 HWW2 HGS2 HN2 HG2 hp3' HL
          have htwo := fun t => PTwo_lit B g v3 l3 [m.po, m.ag, m.ma, m.he, m.de] W3 t HP3.out HZ3.out (by have := HL3.out; show _ + 5 * 2 ≤ _; omega) (by intro x hx; have := HOK.out.po; have := HOK.out.ag; have := HOK.out.ma; have := HOK.out.he; have := HOK.out.de; simp at hx; rcases hx with rfl | rfl | rfl | rfl | rfl <;> omega)
          have HTW := Lib.hid htwo
          clear htwo
          try simp only [List.setIfInBounds_toArray, List.set_cons_succ, List.set_cons_zero]
          go_wp2_with (fail)
          refine (HTW.out _).mono ?_
          rintro e W4 ⟨v4, rfl, hp4, hk4, hn4⟩
          have HR := Lib.hid (show Padd W4 B g v4 (l ++ fldB m) ∧ Kept (foot g v) w W4 ∧ Newer w.heap.size v v4 from ⟨by rw [HFL.out]; exact hp4, HK3.out.trans hk4 (fun i hi hf => foot_newer HN3.out i hi hf), HN3.out.trans hn4 HG3.out⟩)
          clear hp4 hk4 hn4 HTW HP3 HK3 HN3
          go_wp2
          go_ret
          exact ⟨v4, rfl, HR.out⟩
end Go.Proofs.Ythjfeanmgaidcaa
