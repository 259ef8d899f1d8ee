/- Package dhcp: contract of Bytes. -/
import Derived.Test.YthjfeanmgaidcaaMg12
import Derived.Test.YthjfeanmgaidcaaMg9
import Derived.Test.YthjfeanmgaidcaaMg13
namespace Go.Proofs.Ythjfeanmgaidcaa
open Go.RowKit Go.Sort
set_option linter.unusedVariables false

/-- What the pad holds, act by act. -/
def ls2 (h : Dh) : List UInt8 := [] ++ beAll 1 [h.op.toNat, 1, 6, h.hp.toNat]
def ls3 (h : Dh) : List UInt8 := ls2 h ++ beAll 4 [h.xi]
def ls4 (h : Dh) : List UInt8 := ls3 h ++ beAll 2 [h.se, h.fl]
def ls5 (h : Dh) : List UInt8 := ls4 h ++ beAll 4 [h.ci, h.yo, h.ne, h.re]
def ls6 (h : Dh) : List UInt8 := ls5 h ++ h.st
def ls7 (h : Dh) : List UInt8 := ls6 h ++ h.pd
def ls8 (h : Dh) : List UInt8 := ls7 h ++ h.sv
def ls9 (h : Dh) : List UInt8 := ls8 h ++ h.fi
def ls10 (h : Dh) : List UInt8 := ls9 h ++ beAll 4 [1669485411]
def lsD (h : Dh) (i : Nat) : List UInt8 := match i with
  | 0 => [] | 1 => [] | 2 => ls2 h | 3 => ls3 h | 4 => ls4 h | 5 => ls5 h | 6 => ls6 h | 7 => ls7 h | 8 => ls8 h | 9 => ls9 h | _ => ls10 h
theorem ls_bounds (h : Dh) (hs : h.six) : (ls2 h).length = 4 ∧ (ls3 h).length = 8 ∧ (ls4 h).length = 12 ∧ (ls5 h).length = 28 ∧ (ls6 h).length = 34 ∧ (ls7 h).length = 44 ∧ (ls8 h).length = 108 ∧ (ls9 h).length = 236 ∧ (ls10 h).length = 240 := by
  have e2 : (ls2 h).length = 4 := by simp [ls2, beAll_len]
  have e3 : (ls3 h).length = 8 := by simp only [ls3, List.length_append, e2, beAll_len]; rfl
  have e4 : (ls4 h).length = 12 := by simp only [ls4, List.length_append, e3, beAll_len]; rfl
  have e5 : (ls5 h).length = 28 := by simp only [ls5, List.length_append, e4, beAll_len]; rfl
  have e6 : (ls6 h).length = 34 := by simp only [ls6, List.length_append, e5, hs.st]
  have e7 : (ls7 h).length = 44 := by simp only [ls7, List.length_append, e6, hs.pd]
  have e8 : (ls8 h).length = 108 := by simp only [ls8, List.length_append, e7, hs.sv]
  have e9 : (ls9 h).length = 236 := by simp only [ls9, List.length_append, e8, hs.fi]
  exact ⟨e2, e3, e4, e5, e6, e7, e8, e9, by simp only [ls10, List.length_append, e9, beAll_len]; rfl⟩
theorem lsD_len (h : Dh) (hs : h.six) (i : Nat) : (lsD h i).length ≤ 240 := by
  have := ls_bounds h hs
  unfold lsD
  split <;> (try simp) <;> omega
theorem ls10_is (h : Dh) : ls10 h = headB h ++ mrk := by
  have e1 : beAll 1 [h.op.toNat, 1, 6, h.hp.toNat] = [h.op, 1, 6, h.hp] := beAll_bytes [h.op, 1, 6, h.hp]
  have e2 : ∀ a b : Nat, beAll 2 [a, b] = beM 2 a ++ beM 2 b := fun a b => by simp [beAll]
  have e3 : ∀ a : Nat, beAll 4 [a] = beM 4 a := fun a => by simp [beAll]
  have e4 : ∀ a b c d : Nat, beAll 4 [a, b, c, d] = beM 4 a ++ (beM 4 b ++ (beM 4 c ++ beM 4 d)) := fun a b c d => by simp [beAll]
  have e5 : beM 4 1669485411 = mrk := by decide
  simp only [ls10, ls9, ls8, ls7, ls6, ls5, ls4, ls3, ls2, headB, e1, e2, e3, e4, e5, List.append_assoc, List.nil_append]
theorem infMc (l : List UInt8) (h : l.length = 6) : (Try.prog.info? 26).map (·.size) = some (bys l).length := by rw [bys_len, h]; exact infA6
theorem optB_app (a b : List Opn) : optB (a ++ b) = optB a ++ optB b := by simp [optB]
theorem optB_take (os : List Opn) (k : Nat) (h : k < os.length) : optB (os.take (k + 1)) = optB (os.take k) ++ oneB os[k] := by
  rw [List.take_succ_eq_append_getElem h, optB_app]
  congr 1
  simp [optB]
theorem optB_le (os : List Opn) (k : Nat) : (optB (os.take k)).length ≤ (optB os).length := by
  conv => rhs; rw [← List.take_append_drop k os]
  rw [optB_app, List.length_append]
  omega
/-- What the pad holds while an option is laid. -/
def lsO (L : List UInt8) (c : UInt8) (vl : List UInt8) (m : Nat) (i : Nat) : List UInt8 := match i with
  | 0 => L
  | 1 => L ++ beAll 1 [c.toNat, m]
  | _ => L ++ beAll 1 [c.toNat, m] ++ vl
theorem lsO_len (L : List UInt8) (c : UInt8) (vl : List UInt8) (m i : Nat) (h : vl.length = m) : (lsO L c vl m i).length ≤ L.length + 2 + m := by
  unfold lsO
  split <;> (try simp only [List.length_append, beAll_len, List.length_cons, List.length_nil]) <;> omega
theorem lsO_full (H M : List UInt8) (c : UInt8) (vl : List UInt8) (m : Nat) (h : vl.length = m) : ∀ O : List UInt8, H ++ (M ++ (O ++ oneB (c, vl))) = lsO (H ++ (M ++ O)) c vl m 2 := by
  intro O
  subst h
  have e : beAll 1 [c.toNat, vl.length] = [c, UInt8.ofNat vl.length] := by simp [beAll, beM, List.range_succ]
  simp [lsO, oneB, e]
def lsE (L bh : List UInt8) (i : Nat) : List UInt8 := match i with
  | 0 => L
  | 1 => L ++ beAll 1 [255]
  | _ => L ++ beAll 1 [255] ++ bh
theorem lsE_full (h : Dh) : formB h = lsE (headB h ++ (mrk ++ optB h.os)) h.bh 2 := by
  have e : beAll 1 [255] = [255] := by decide
  simp [lsE, formB, e]
/-- Bytes that were there ahead of the region. -/
theorem padI_src {B g : Nat} {v0 : Value} {ls : Nat → List UInt8} {D : Nat → Prop} {s : List Value} {w u : World} {A : Option Addr} {n c : Nat} (l : List UInt8) (hu : Kept (foot g v0) w u) (hI : padI B g w.heap.size v0 ls D s u) (hy : Byt w A n c l) (hf : ∀ i, Lies A n i → ¬ foot g v0 i)
    (hls : ls (s.length + 1) = ls s.length ++ l) (hbd : (ls s.length).length + n ≤ 1099511627776) :
    Calls Try.prog 24 #[.pointer (some ⟨g, 0, none⟩), .slice A n c] u fun e w' =>
      ∃ r, e = .returned r ∧ r = .pointer (some ⟨g, 0, none⟩) ∧ Kept (foot g v0) w w' ∧ padI B g w.heap.size v0 ls D (s ++ [r]) w' ∧ u.heap.size ≤ w'.heap.size ∧ ∀ k, D k → k < u.heap.size → w'.heap[k]? = u.heap[k]? := by
  obtain ⟨v, h1, h2, h3, h4, h5⟩ := hI
  have hs := (hy.kept hu hf).nums
  refine (PByte_yes B g v (ls s.length) _ _ _ (l.map UInt8.toNat) u h1 hs (by omega) ?_ (by simpa using hbd) (fun x hx => by obtain ⟨y, _, rfl⟩ := List.mem_map.1 hx; exact y.toNat_lt)).mono ?_
  · intro i hi hf'
    have hlt := hy.lt i hi
    exact hf i hi (foot_newer h3 i hlt hf')
  · rintro e w' ⟨v', rfl, hp, hk, hnw⟩
    rw [beAll_bytes] at hp
    refine ⟨_, rfl, rfl, hu.trans hk (fun i hi hf => foot_newer h3 i hi hf), ⟨v', by rw [List.length_append, List.length_singleton, hls]; exact hp, fun k hk' => ⟨Nat.lt_of_lt_of_le (h2 k hk').1 hk.size, fun hf => ?_⟩, h3.trans hnw h4, Nat.le_trans h4 hk.size, h5⟩, hk.size, fun k hk' hlt => hk.block k hlt (h2 k hk').2⟩
    rcases hf with rfl | hf
    · exact (h2 k hk').2 (.inl rfl)
    · rcases hnw k hf with h | h
      · exact (h2 k hk').2 (.inr h)
      · have := (h2 k hk').1; omega
/-- What Bytes answers. -/
def BytR (w : World) (e : Ending) (w' : World) (r : List UInt8 × Int) : Prop := ∃ v, e = .returned (.tuple #[v, .int .i64 r.2]) ∧ Made w w' v r.1
set_option maxRecDepth 100000 in
set_option maxHeartbeats 16000000 in
theorem dbytes_yes (D : Nat → Prop) (h : Dh) (vo vb : Value) (w : World) (hI : DhIn D w h vo vb) (hbd : 241 + (optB h.os).length + h.bh.length ≤ 1099511627776) : Calls Try.prog 7 #[dhv h vo vb] w fun e w' => BytR w e w' (bytesD h) := by
  have hP := DB.new w 33 h vo vb
  have hk := (Kept.refl Nil w).alloc (.cells (dcs h vo vb).toArray 33)
  go_enter Try.func7, Try.ntmps7
  go_upto_region 1 with (fail)
  refine wp_nameE (fun W => DB W w.heap.size 33 h vo vb ∧ Kept Nil w W) ⟨hP, hk⟩ ?_
  clear hP hk
  rintro w1 ⟨hP, hk⟩
  have HOK := Lib.hid hI.ok
  have HI := Lib.hid (hI.nil hk)
  have HK := Lib.hid hk
  have HP := Lib.hid hP
  have HBD := Lib.hid hbd
  obtain ⟨gb, hgb⟩ : ∃ g, w.heap.size = g := ⟨_, rfl⟩
  rw [hgb] at HP ⊢
  clear hP hk hI hbd hgb
  go_wp2_with (first | (refine wpList_ld rfl _ _ rfl gb 0 rfl (dcs h vo vb) HP.out.all _ Try.underlying33 rfl (infDh h HOK.out.s6 vo vb) ?_) | fail)
  refine (may_yes D h vo vb _ HI.out).mono ?_
  rintro e w3 ⟨rfl, hk1⟩
  have HP3 := Lib.hid (HP.out.kept hk1 (fun hf => hf))
  have HI3 := Lib.hid (HI.out.nil hk1)
  have HK3 := Lib.hid (HK.out.then hk1)
  clear hk1 HP HK HI
  cases hm : mayD h
  · have HM := Lib.hid (show bytesD h = ([], 1) by unfold bytesD; rw [hm]; rfl)
    clear hm
    go_wp2
    go_ret2
    refine ⟨_, by rw [HM.out]; rfl, ?_, HK3.out⟩
    rw [HM.out]
    exact World.ownsRow_nil _ _ _ _
  · have HM := Lib.hid (show bytesD h = (formB h, 0) by unfold bytesD; rw [hm]; rfl)
    have HMD := Lib.hid hm
    clear hm
    have HKP := Lib.hid (padJ_keeps w3.heap.size (lsD h))
    have HST := Lib.hid (padJ_nil w3 (lsD h))
    have HLE := Lib.hid (lsD_len h HOK.out.s6)
    obtain ⟨d0, d1, d2, d3, d4, d5, hd⟩ := six_of h.st HOK.out.st
    have hrf := HP3.out.rst
    rw [hd] at hrf
    have HRF := Lib.hid hrf
    have HD := Lib.hid hd
    have HPD := Lib.hid (byt_row (HP3.out.rpd HOK.out.s6) (by rw [HOK.out.pd]; decide) 10 HOK.out.pd)
    have HSV := Lib.hid (byt_row (HP3.out.rsv HOK.out.s6) (by rw [HOK.out.sv]; decide) 64 HOK.out.sv)
    have HFI := Lib.hid (byt_row (HP3.out.rfi HOK.out.s6) (by rw [HOK.out.fi]; decide) 128 HOK.out.fi)
    clear hrf hd
    go_upto_region 3 with (fail)
    refine wp_region_acts Nil [0, 6, 10, 16, 26, 30, 33, 36, 39, 41] (fun i vl => if i = 5 then (vl.toArray, 5) else if i = 15 then (vl.toArray, 23) else if i = 29 then (#[.int .u8 (d0.toNat : Int), .int .u8 (d1.toNat : Int), .int .u8 (d2.toNat : Int), .int .u8 (d3.toNat : Int), .int .u8 (d4.toNat : Int), .int .u8 (d5.toNat : Int)], 26) else (vl.toArray, 22)) (fun i => undef) (padJ w3.heap.size (lsD h)) padP 43 (by kernel_rfl) (by kernel_rfl) HKP.out HST.out ?_
    simp only [List.take_succ_cons, List.take_zero, List.drop_succ_cons, List.drop_zero]
    refine tLex_act 23 #[] (fun u => ?hea) rfl rfl _ (padP_0 _) ?hca ?_
    case hea => simp [execOp, go_sem]
    case hca =>
      intro D u hu hI hdd
      exact padJ_lay hu hI rfl _
    rintro r0 ⟨g0, rfl⟩
    simp only [Act.put, List.setIfInBounds_toArray, List.set_cons_succ, List.set_cons_zero]
    refine tLex_quiets 4 rfl (by kernel_rfl) ?_
    simp only [List.take_succ_cons, List.take_zero, List.drop_succ_cons, List.drop_zero]
    apply Exists.intro
    refine ⟨?hq1, ?hv1, ?ht1⟩
    case hq1 =>
      intro V hV
      have e0 := fun d os => ((HP3.out.kept hV (fun hf => hf)).kept (kept_grown' V d os) (fun hf => hf)).c0
      have e1 := fun d os => ((HP3.out.kept hV (fun hf => hf)).kept (kept_grown' V d os) (fun hf => hf)).c1
      clear hV
      repeat (go_big_quiet_step (fail))
      exact wpQuiet_nil rfl
    case hv1 => exact ⟨trivial, trivial, trivial, trivial, trivial⟩
    case ht1 =>
      refine tLex_make (#[.int .u8 (h.op.toNat : Int), .int .u8 1, .int .u8 6, .int .u8 (h.hp.toNat : Int)], 5) rfl rfl rfl rfl (fun u => ?hm1) ?_
      case hm1 => simp [execOp, mkVal, Instr.buildSlice, go_sem]
      intro q1 hg1 hL1
      simp only [Act.put, mkVal, List.setIfInBounds_toArray, List.set_cons_succ, List.set_cons_zero]
      refine tLex_act 24 #[.pointer (some ⟨g0, 0, none⟩), .slice (some ⟨q1, 0, none⟩) 4 4] (fun u => ?he1) rfl rfl _ (padP_0 _) ?hc1 ?_
      case he1 => simp [execOp, go_sem, mkVal]
      case hc1 =>
        intro D u hu hI hdd
        obtain ⟨d1, d2⟩ := hdd _ _ ⟨_, List.mem_cons_of_mem _ (List.mem_cons_of_mem _ (List.mem_cons_self ..)), rfl⟩ (mput_same _ _ _)
        exact padJ_byte (n := 4) [h.op.toNat, 1, 6, h.hp.toNat] hu hI (by simp) d1 d2 rfl rfl rfl (by have := HLE.out 1; show (lsD h 1).length + _ ≤ _; simp; omega) (by have := h.op.toNat_lt; have := h.hp.toNat_lt; simp; omega) _
      rintro r1 ⟨g1, rfl⟩
      simp only [Act.put, List.setIfInBounds_toArray, List.set_cons_succ, List.set_cons_zero]
      refine tLex_quiets 2 rfl (by kernel_rfl) ?_
      simp only [List.take_succ_cons, List.take_zero, List.drop_succ_cons, List.drop_zero]
      apply Exists.intro
      refine ⟨?hq2, ?hv2, ?ht2⟩
      case hq2 =>
        intro V hV
        have e2 := fun d os => ((HP3.out.kept hV (fun hf => hf)).kept (kept_grown' V d os) (fun hf => hf)).c2
        clear hV
        repeat (go_big_quiet_step (fail))
        exact wpQuiet_nil rfl
      case hv2 => exact ⟨trivial, trivial, trivial⟩
      case ht2 =>
        refine tLex_make (#[.int .u32 (h.xi : Int)], 22) rfl rfl rfl rfl (fun u => ?hm2) ?_
        case hm2 => simp [execOp, mkVal, Instr.buildSlice, go_sem]
        intro q2 hg2 hL2
        simp only [Act.put, mkVal, List.setIfInBounds_toArray, List.set_cons_succ, List.set_cons_zero]
        refine tLex_act 25 #[.pointer (some ⟨g1, 0, none⟩), .slice (some ⟨q2, 0, none⟩) 1 1] (fun u => ?he2) rfl rfl _ (padP_0 _) ?hc2 ?_
        case he2 => simp [execOp, go_sem, mkVal]
        case hc2 =>
          intro D u hu hI hdd
          obtain ⟨d1, d2⟩ := hdd _ _ ⟨_, List.mem_cons_of_mem _ (List.mem_cons_of_mem _ (List.mem_cons_self ..)), rfl⟩ (mput_same _ _ _)
          exact padJ_four (n := 1) [h.xi] hu hI (by simp) d1 d2 rfl rfl rfl (by have := HLE.out 2; show (lsD h 2).length + _ ≤ _; simp; omega) (by have := HOK.out.xi; simp; omega) _
        rintro r2 ⟨g2, rfl⟩
        simp only [Act.put, List.setIfInBounds_toArray, List.set_cons_succ, List.set_cons_zero]
        refine tLex_quiets 4 rfl (by kernel_rfl) ?_
        simp only [List.take_succ_cons, List.take_zero, List.drop_succ_cons, List.drop_zero]
        apply Exists.intro
        refine ⟨?hq3, ?hv3, ?ht3⟩
        case hq3 =>
          intro V hV
          have e3 := fun d os => ((HP3.out.kept hV (fun hf => hf)).kept (kept_grown' V d os) (fun hf => hf)).c3
          have e4 := fun d os => ((HP3.out.kept hV (fun hf => hf)).kept (kept_grown' V d os) (fun hf => hf)).c4
          clear hV
          repeat (go_big_quiet_step (fail))
          exact wpQuiet_nil rfl
        case hv3 => exact ⟨trivial, trivial, trivial, trivial, trivial⟩
        case ht3 =>
          refine tLex_make (#[.int .u16 (h.se : Int), .int .u16 (h.fl : Int)], 23) rfl rfl rfl rfl (fun u => ?hm3) ?_
          case hm3 => simp [execOp, mkVal, Instr.buildSlice, go_sem]
          intro q3 hg3 hL3
          simp only [Act.put, mkVal, List.setIfInBounds_toArray, List.set_cons_succ, List.set_cons_zero]
          refine tLex_act 26 #[.pointer (some ⟨g2, 0, none⟩), .slice (some ⟨q3, 0, none⟩) 2 2] (fun u => ?he3) rfl rfl _ (padP_0 _) ?hc3 ?_
          case he3 => simp [execOp, go_sem, mkVal]
          case hc3 =>
            intro D u hu hI hdd
            obtain ⟨d1, d2⟩ := hdd _ _ ⟨_, List.mem_cons_of_mem _ (List.mem_cons_of_mem _ (List.mem_cons_self ..)), rfl⟩ (mput_same _ _ _)
            exact padJ_two (n := 2) [h.se, h.fl] hu hI (by simp) d1 d2 rfl rfl rfl (by have := HLE.out 3; show (lsD h 3).length + _ ≤ _; simp; omega) (by have := HOK.out.se; have := HOK.out.fl; simp; omega) _
          rintro r3 ⟨g3, rfl⟩
          simp only [Act.put, List.setIfInBounds_toArray, List.set_cons_succ, List.set_cons_zero]
          refine tLex_quiets 8 rfl (by kernel_rfl) ?_
          simp only [List.take_succ_cons, List.take_zero, List.drop_succ_cons, List.drop_zero]
          apply Exists.intro
          refine ⟨?hq4, ?hv4, ?ht4⟩
          case hq4 =>
            intro V hV
            have e5 := fun d os => ((HP3.out.kept hV (fun hf => hf)).kept (kept_grown' V d os) (fun hf => hf)).c5
            have e6 := fun d os => ((HP3.out.kept hV (fun hf => hf)).kept (kept_grown' V d os) (fun hf => hf)).c6
            have e7 := fun d os => ((HP3.out.kept hV (fun hf => hf)).kept (kept_grown' V d os) (fun hf => hf)).c7
            have e8 := fun d os => ((HP3.out.kept hV (fun hf => hf)).kept (kept_grown' V d os) (fun hf => hf)).c8
            clear hV
            repeat (go_big_quiet_step (fail))
            exact wpQuiet_nil rfl
          case hv4 => exact ⟨trivial, trivial, trivial, trivial, trivial, trivial, trivial, trivial, trivial⟩
          case ht4 =>
            refine tLex_make (#[.int .u32 (h.ci : Int), .int .u32 (h.yo : Int), .int .u32 (h.ne : Int), .int .u32 (h.re : Int)], 22) rfl rfl rfl rfl (fun u => ?hm4) ?_
            case hm4 => simp [execOp, mkVal, Instr.buildSlice, go_sem]
            intro q4 hg4 hL4
            simp only [Act.put, mkVal, List.setIfInBounds_toArray, List.set_cons_succ, List.set_cons_zero]
            refine tLex_act 25 #[.pointer (some ⟨g3, 0, none⟩), .slice (some ⟨q4, 0, none⟩) 4 4] (fun u => ?he4) rfl rfl _ (padP_0 _) ?hc4 ?_
            case he4 => simp [execOp, go_sem, mkVal]
            case hc4 =>
              intro D u hu hI hdd
              obtain ⟨d1, d2⟩ := hdd _ _ ⟨_, List.mem_cons_of_mem _ (List.mem_cons_of_mem _ (List.mem_cons_self ..)), rfl⟩ (mput_same _ _ _)
              exact padJ_four (n := 4) [h.ci, h.yo, h.ne, h.re] hu hI (by simp) d1 d2 rfl rfl rfl (by have := HLE.out 4; show (lsD h 4).length + _ ≤ _; simp; omega) (by have := HOK.out.ci; have := HOK.out.yo; have := HOK.out.ne; have := HOK.out.re; simp; omega) _
            rintro r4 ⟨g4, rfl⟩
            simp only [Act.put, List.setIfInBounds_toArray, List.set_cons_succ, List.set_cons_zero]
            refine tLex_quiets 2 rfl (by kernel_rfl) ?_
            simp only [List.take_succ_cons, List.take_zero, List.drop_succ_cons, List.drop_zero]
            apply Exists.intro
            refine ⟨?hq5, ?hv5, ?ht5⟩
            case hq5 =>
              intro V hV
              go_big_quiet_step (fail)
              refine wpQuiet_ld rfl _ _ rfl gb 9 rfl [.int .u8 (d0.toNat : Int), .int .u8 (d1.toNat : Int), .int .u8 (d2.toNat : Int), .int .u8 (d3.toNat : Int), .int .u8 (d4.toNat : Int), .int .u8 (d5.toNat : Int)] (fun w' hw => row_grown (Row.kept HRF.out hV (fun hf => hf)) hw) _ Try.underlying26 rfl infA6 ?_
              simp only [Act.put, List.setIfInBounds_toArray, List.set_cons_succ, List.set_cons_zero]
              exact wpQuiet_nil rfl
            case hv5 => exact ⟨trivial, trivial, trivial⟩
            case ht5 =>
              refine tLex_make (#[.int .u8 (d0.toNat : Int), .int .u8 (d1.toNat : Int), .int .u8 (d2.toNat : Int), .int .u8 (d3.toNat : Int), .int .u8 (d4.toNat : Int), .int .u8 (d5.toNat : Int)], 26) rfl rfl rfl rfl (fun u => ?hm5) ?_
              case hm5 => simp [execOp, mkVal, Instr.buildSlice, go_sem]
              intro q5 hg5 hL5
              simp only [Act.put, mkVal, List.setIfInBounds_toArray, List.set_cons_succ, List.set_cons_zero]
              refine tLex_act 27 #[.pointer (some ⟨g4, 0, none⟩), .slice (some ⟨q5, 0, none⟩) 1 1] (fun u => ?he5) rfl rfl _ (padP_0 _) ?hc5 ?_
              case he5 => simp [execOp, go_sem, mkVal]
              case hc5 =>
                intro D u hu hI hdd
                obtain ⟨d1, d2⟩ := hdd _ _ ⟨_, List.mem_cons_of_mem _ (List.mem_cons_of_mem _ (List.mem_cons_self ..)), rfl⟩ (mput_same _ _ _)
                exact padJ_mac h.st HOK.out.st hu hI (by simp) d1 d2 (by rw [HD.out]; rfl) rfl (by have := HLE.out 5; show (lsD h 5).length + _ ≤ _; omega) _
              rintro r5 ⟨g5, rfl⟩
              simp only [Act.put, List.setIfInBounds_toArray, List.set_cons_succ, List.set_cons_zero]
              refine tLex_quiets 2 rfl (by kernel_rfl) ?_
              simp only [List.take_succ_cons, List.take_zero, List.drop_succ_cons, List.drop_zero]
              apply Exists.intro
              refine ⟨?hq6, ?hv6, ?ht6⟩
              case hq6 =>
                intro V hV
                clear hV
                repeat (go_big_quiet_step (fail))
                exact wpQuiet_nil rfl
              case hv6 => exact ⟨trivial, trivial, trivial⟩
              case ht6 =>
                refine tLex_act 24 #[.pointer (some ⟨g5, 0, none⟩), .slice (some ⟨gb, 15, none⟩) 10 10] (fun u => ?he6) rfl rfl _ (padP_0 _) ?hc6 ?_
                case he6 => simp [execOp, go_sem, mkVal]
                case hc6 =>
                  intro D u hu hI hdd
                  exact padJ_src h.pd hu hI (by simp) HPD.out rfl (by have := HLE.out 6; show (lsD h 6).length + 10 ≤ _; omega) _
                rintro r6 ⟨g6, rfl⟩
                simp only [Act.put, List.setIfInBounds_toArray, List.set_cons_succ, List.set_cons_zero]
                refine tLex_quiets 2 rfl (by kernel_rfl) ?_
                simp only [List.take_succ_cons, List.take_zero, List.drop_succ_cons, List.drop_zero]
                apply Exists.intro
                refine ⟨?hq7, ?hv7, ?ht7⟩
                case hq7 =>
                  intro V hV
                  clear hV
                  repeat (go_big_quiet_step (fail))
                  exact wpQuiet_nil rfl
                case hv7 => exact ⟨trivial, trivial, trivial⟩
                case ht7 =>
                  refine tLex_act 24 #[.pointer (some ⟨g6, 0, none⟩), .slice (some ⟨gb, 25, none⟩) 64 64] (fun u => ?he7) rfl rfl _ (padP_0 _) ?hc7 ?_
                  case he7 => simp [execOp, go_sem, mkVal]
                  case hc7 =>
                    intro D u hu hI hdd
                    exact padJ_src h.sv hu hI (by simp) HSV.out rfl (by have := HLE.out 7; show (lsD h 7).length + 64 ≤ _; omega) _
                  rintro r7 ⟨g7, rfl⟩
                  simp only [Act.put, List.setIfInBounds_toArray, List.set_cons_succ, List.set_cons_zero]
                  refine tLex_quiets 2 rfl (by kernel_rfl) ?_
                  simp only [List.take_succ_cons, List.take_zero, List.drop_succ_cons, List.drop_zero]
                  apply Exists.intro
                  refine ⟨?hq8, ?hv8, ?ht8⟩
                  case hq8 =>
                    intro V hV
                    clear hV
                    repeat (go_big_quiet_step (fail))
                    exact wpQuiet_nil rfl
                  case hv8 => exact ⟨trivial, trivial, trivial⟩
                  case ht8 =>
                    refine tLex_act 24 #[.pointer (some ⟨g7, 0, none⟩), .slice (some ⟨gb, 89, none⟩) 128 128] (fun u => ?he8) rfl rfl _ (padP_0 _) ?hc8 ?_
                    case he8 => simp [execOp, go_sem, mkVal]
                    case hc8 =>
                      intro D u hu hI hdd
                      exact padJ_src h.fi hu hI (by simp) HFI.out rfl (by have := HLE.out 8; show (lsD h 8).length + 128 ≤ _; omega) _
                    rintro r8 ⟨g8, rfl⟩
                    simp only [Act.put, List.setIfInBounds_toArray, List.set_cons_succ, List.set_cons_zero]
                    refine tLex_make (#[.int .u32 1669485411], 22) rfl rfl rfl rfl (fun u => ?hm9) ?_
                    case hm9 => simp [execOp, mkVal, Instr.buildSlice, go_sem]
                    intro q9 hg9 hL9
                    simp only [Act.put, mkVal, List.setIfInBounds_toArray, List.set_cons_succ, List.set_cons_zero]
                    refine tLex_act 25 #[.pointer (some ⟨g8, 0, none⟩), .slice (some ⟨q9, 0, none⟩) 1 1] (fun u => ?he9) rfl rfl _ (padP_0 _) ?hc9 ?_
                    case he9 => simp [execOp, go_sem, mkVal]
                    case hc9 =>
                      intro D u hu hI hdd
                      obtain ⟨d1, d2⟩ := hdd _ _ ⟨_, List.mem_cons_of_mem _ (List.mem_cons_of_mem _ (List.mem_cons_self ..)), rfl⟩ (mput_same _ _ _)
                      exact padJ_four (n := 1) [1669485411] hu hI (by simp) d1 d2 rfl rfl rfl (by have := HLE.out 9; show (lsD h 9).length + _ ≤ _; simp; omega) (by simp) _
                    rintro r9 ⟨g9, rfl⟩
                    simp only [Act.put, List.setIfInBounds_toArray, List.set_cons_succ, List.set_cons_zero]
                    refine tLex_quiets 1 rfl (by kernel_rfl) ?_
                    simp only [List.take_succ_cons, List.take_zero, List.drop_succ_cons, List.drop_zero]
                    apply Exists.intro
                    refine ⟨?hq9, ?hv9, ?ht9⟩
                    case hq9 =>
                      intro V hV
                      clear hV
                      repeat (go_big_quiet_step (fail))
                      exact wpQuiet_nil rfl
                    case hv9 => exact ⟨trivial, trivial⟩
                    case ht9 =>
                      intro w4 hs
                      obtain ⟨_, _, h3⟩ := hs.know
                      rcases h3 with h3 | ⟨g, v7, hall, hpd, _⟩
                      · cases h3
                      · have hg7 := hall (.pointer (some ⟨g9, 0, none⟩)) (by simp)
                        injection hg7 with hg7
                        injection hg7 with hg7
                        injection hg7 with hg7 _ _
                        subst hg7
                        have HPD4 := Lib.hid (show Padd w4 w3.heap.size g9 v7 (headB h ++ mrk) from by rw [← ls10_is]; exact hpd)
                        have HK4 := Lib.hid (show Kept Nil w3 w4 from hs.kept)
                        clear hall hpd hs HKP HST HLE HRF HD HPD HSV HFI
                        have HP4 := Lib.hid (HP3.out.kept HK4.out (fun hf => hf))
                        have HI4 := Lib.hid (HI3.out.nil HK4.out)
                        have hco := HP4.out.co HOK.out.s6
                        have HMO := Lib.hid (((mayD_is h).1 HMD.out).2)
                        obtain ⟨A, n, c, rfl, hO⟩ := HI3.out.o
                        have HO := Lib.hid hO
                        have hnc := hO.lt.1
                        have hcc := hO.lt.2
                        have HL := Lib.hid hO.len
                        clear hO HMD
                        go_wp2
                        go_loopw [55] (fun i wr => ∃ (k : Nat) (v : Value), k ≤ n ∧ i = .int .i64 (k : Int) ∧ Padd wr w3.heap.size g9 v (headB h ++ (mrk ++ optB (h.os.take k))) ∧ Kept Nil w3 wr) (fun i _ => n - (intOf i).toNat)
                        case atStart => exact ⟨0, v7, Nat.zero_le _, rfl, by simpa [optB] using HPD4.out, HK4.out⟩
                        case round =>
                          clear HPD4 hco
                          obtain ⟨k, v, hk, rfl, hp, hkp⟩ := hrel
                          have HPR := Lib.hid hp
                          have HKR := Lib.hid hkp
                          by_cases hlt : k < n
                          · have hkl : k < h.os.length := by rw [HL.out]; exact hlt
                            obtain ⟨b, o, A', m, c', rfl, hrow, hby, hlv⟩ := (HO.out.bounded.kept hkp (fun _ _ hf => hf)).at hkl
                            have q0 := hrow 0 _ rfl
                            have q1 := hrow 1 _ rfl
                            rw [Nat.add_zero] at q0
                            have hoo := HMO.out _ (List.getElem_mem hkl)
                            have hot := optB_take h.os k hkl
                            have hle := optB_le h.os (k + 1)
                            have hm : h.os[k].2.length = m := hby.1
                            rw [okO_is, Bool.and_eq_true, decide_eq_true_eq, hm] at hoo
                            have hm255 : m ≤ 255 := hoo.2
                            have hm256 : (m : Int) % 256 = (m : Int) := by omega
                            have HOT := Lib.hid hot
                            have HLE := Lib.hid hle
                            have HBY := Lib.hid hby
                            have HM1 := Lib.hid hm
                            generalize h.os[k] = op at *
                            obtain ⟨oc, ov⟩ := op
                            simp only at q0
                            clear hp hkp hrow hby hoo hot hle hm
                            go_upto_region 7 with (fail)
                            refine wp_nameE (fun W => Blo W wr.heap.size 47 #[.int .u8 (oc.toNat : Int), .slice A' m c'] ∧ Kept Nil wr W) ⟨Blo.new wr _ _, (Kept.refl Nil wr).alloc _⟩ ?_
                            rintro wa ⟨hba, hka⟩
                            have HBA := Lib.hid hba
                            have HPA := Lib.hid (HPR.out.kept hka (fun _ _ hf => hf))
                            have HYA := Lib.hid (HBY.out.kept hka (fun _ _ hf => hf))
                            have HKA := Lib.hid (HKR.out.then hka)
                            have HWA := Lib.hid (show w3.heap.size ≤ wa.heap.size from (HKR.out.then hka).size)
                            have HLT := Lib.hid (show ∀ i, foot g9 v i → i < wr.heap.size from HPR.out.foot_lt)
                            have HLV := Lib.hid (show ∀ i, Lies A' m i → ¬ foot g9 v i from fun i hi hf => by
                              have h1 := HPR.out.foot_ge i hf
                              have h2 := (hlv i hi).2
                              omega)
                            have HBL := Lib.hid (show (headB h ++ (mrk ++ optB (h.os.take k))).length + (2 + m) ≤ 1099511627776 by
                              have h1 := HLE.out
                              rw [HOT.out] at h1
                              have h2 := HBD.out
                              have h3 := HM1.out
                              have h4 := headB_len HOK.out.s6
                              simp only [List.length_append, oneB, List.length_cons] at h1 h3 ⊢
                              rw [h4]
                              show 236 + (4 + _) + _ ≤ _
                              omega)
                            obtain ⟨ga, hga⟩ : ∃ g, wr.heap.size = g := ⟨_, rfl⟩
                            rw [hga] at HBA HLT ⊢
                            clear hba hka hga HPR HBY HKR q0 q1 hlv
                            obtain ⟨L, hL⟩ : ∃ L, headB h ++ (mrk ++ optB (h.os.take k)) = L := ⟨_, rfl⟩
                            have HLL := Lib.hid hL
                            rw [hL] at HPA HBL
                            clear hL
                            have HLS := Lib.hid (show ∀ s, s < 3 → (lsO L oc ov m s).length ≤ L.length + 2 + m from fun s hs => lsO_len L oc ov m s HM1.out)
                            have HKP := Lib.hid (padI_keeps w3.heap.size g9 wa.heap.size v (lsO L oc ov m))
                            have HST := Lib.hid (padI_start (w := wa) (lsO L oc ov m) HPA.out rfl HWA.out)
                            refine wp_region_acts (foot g9 v) [8, 11] (fun i vl => (vl.toArray, 5)) (fun i => .int .i64 (m : Int)) (padI w3.heap.size g9 wa.heap.size v (lsO L oc ov m)) (fun i v => v = .pointer (some ⟨g9, 0, none⟩)) 12 (by kernel_rfl) (by kernel_rfl) HKP.out HST.out ?_
                            simp only [List.take_succ_cons, List.take_zero, List.drop_succ_cons, List.drop_zero]
                            refine tLex_quiets 7 rfl (by kernel_rfl) ?_
                            simp only [List.take_succ_cons, List.take_zero, List.drop_succ_cons, List.drop_zero]
                            apply Exists.intro
                            refine ⟨?hqa, ?hva, ?hta⟩
                            case hqa =>
                              intro V hV
                              have hbv := HBA.out.kept hV (fun hf => absurd (HLT.out _ hf) (Nat.lt_irrefl _))
                              have c0 := hbv.gcell 0
                              have c1 := hbv.gcell 1
                              simp at c0 c1
                              clear hV hbv
                              repeat (go_big_quiet_step (fail))
                              exact wpQuiet_nil rfl
                            case hva => exact ⟨trivial, trivial, trivial, trivial, trivial, rfl, trivial, trivial⟩
                            case hta =>
                              refine tLex_make (#[.int .u8 (oc.toNat : Int), .int .u8 (m : Int)], 5) rfl rfl rfl rfl (fun u => ?hma) ?_
                              case hma => simp [execOp, mkVal, Instr.buildSlice, go_sem]
                              intro qa hga hLa
                              simp only [Act.put, mkVal, List.setIfInBounds_toArray, List.set_cons_succ, List.set_cons_zero]
                              refine tLex_act 24 #[.pointer (some ⟨g9, 0, none⟩), .slice (some ⟨qa, 0, none⟩) 2 2] (fun u => ?hea1) rfl rfl _ rfl ?hca1 ?_
                              case hea1 => simp [execOp, go_sem, mkVal]
                              case hca1 =>
                                intro D u hu hI hdd
                                obtain ⟨d1, d2⟩ := hdd _ _ ⟨_, List.mem_cons_of_mem _ (List.mem_cons_of_mem _ (List.mem_cons_self ..)), rfl⟩ (mput_same _ _ _)
                                exact padI_byte (n := 2) [oc.toNat, m] hu hI d1 d2 rfl rfl rfl (by have := HBL.out; show L.length + _ ≤ _; simp; omega) (by intro x hx; have := oc.toNat_lt; simp at hx; omega)
                              rintro r1 rfl
                              simp only [Act.put, List.setIfInBounds_toArray, List.set_cons_succ, List.set_cons_zero]
                              refine tLex_quiets 2 rfl (by kernel_rfl) ?_
                              simp only [List.take_succ_cons, List.take_zero, List.drop_succ_cons, List.drop_zero]
                              apply Exists.intro
                              refine ⟨?hqb, ?hvb, ?htb⟩
                              case hqb =>
                                intro V hV
                                have hbv := HBA.out.kept hV (fun hf => absurd (HLT.out _ hf) (Nat.lt_irrefl _))
                                have c1 := hbv.gcell 1
                                simp at c1
                                clear hV hbv
                                repeat (go_big_quiet_step (fail))
                                exact wpQuiet_nil rfl
                              case hvb => exact ⟨trivial, trivial, trivial⟩
                              case htb =>
                                refine tLex_act 24 #[.pointer (some ⟨g9, 0, none⟩), .slice A' m c'] (fun u => ?heb1) rfl rfl _ rfl ?hcb1 ?_
                                case heb1 => simp [execOp, go_sem, mkVal]
                                case hcb1 =>
                                  intro D u hu hI hdd
                                  exact padI_src ov hu hI HYA.out HLV.out rfl (by have := HBL.out; show (lsO L oc ov m 1).length + m ≤ _; rw [show (lsO L oc ov m 1).length = L.length + 2 from by simp [lsO, beAll_len]]; omega)
                                rintro r2 rfl
                                intro w5 hs
                                obtain ⟨v', hp', _, hn', _, _⟩ := hs.know
                                have HP5 := Lib.hid (show Padd w5 w3.heap.size g9 v' (headB h ++ (mrk ++ optB (h.os.take (k + 1)))) from by
                                  rw [HOT.out]
                                  have e : headB h ++ (mrk ++ (optB (List.take k h.os) ++ oneB (oc, ov))) = lsO L oc ov m 2 := by
                                    rw [← HLL.out]
                                    exact lsO_full _ _ _ _ _ HM1.out _
                                  rw [e]
                                  exact hp')
                                have HK5 := Lib.hid (HKA.out.fresh hs.kept (fun i hi => HPA.out.foot_ge i hi))
                                clear hp' hn' hs HPA HYA HKA HBA HKP HST
                                go_wp2
                                go_roundw
                                case rel => exact ⟨k + 1, v', by omega, by go_num, HP5.out, HK5.out⟩
                                case measure => simp [intOf]; omega
                          · obtain rfl : k = n := by omega
                            have ek : h.os.take k = h.os := List.take_of_length_le (by rw [HL.out]; exact Nat.le_refl _)
                            rw [ek] at HPR
                            obtain ⟨L, hL⟩ : ∃ L, headB h ++ (mrk ++ optB h.os) = L := ⟨_, rfl⟩
                            have HLL := Lib.hid hL
                            rw [hL] at HPR
                            have HLN := Lib.hid (show L.length + 1 + h.bh.length ≤ 1099511627776 by
                              have h1 := HBD.out
                              have h2 := headB_len HOK.out.s6
                              rw [← hL, List.length_append, List.length_append, h2]
                              show 236 + (4 + _) + 1 + _ ≤ _
                              omega)
                            obtain ⟨Ab, nb, cb, rfl, hbh, hlb⟩ := HI3.out.b
                            have HYB := Lib.hid (hbh.kept hkp (fun _ _ hf => hf))
                            have HLB := Lib.hid (show ∀ i, Lies Ab nb i → ¬ foot g9 v i from fun i hi hf => by
                              have h1 := HPR.out.foot_ge i hf
                              have h2 := hbh.lt i hi
                              omega)
                            have HPM := Lib.hid (HP3.out.kept hkp (fun hf => hf))
                            have HGB := Lib.hid (show gb < w3.heap.size from HP3.out.lt)
                            have HBL := Lib.hid hbh.1
                            have HWR := Lib.hid (show w3.heap.size ≤ wr.heap.size from hkp.size)
                            clear hbh hlb hL hp hkp ek
                            go_upto_region 9 with (fail)
                            have HKP := Lib.hid (padI_keeps w3.heap.size g9 wr.heap.size v (lsE L h.bh))
                            have HST := Lib.hid (padI_start (w := wr) (lsE L h.bh) HPR.out rfl HWR.out)
                            refine wp_region_acts (foot g9 v) [2, 5] (fun i vl => (vl.toArray, 5)) (fun i => undef) (padI w3.heap.size g9 wr.heap.size v (lsE L h.bh)) (fun i v => v = .pointer (some ⟨g9, 0, none⟩)) 6 (by kernel_rfl) (by kernel_rfl) HKP.out HST.out ?_
                            simp only [List.take_succ_cons, List.take_zero, List.drop_succ_cons, List.drop_zero]
                            refine tLex_quiets 1 rfl (by kernel_rfl) ?_
                            simp only [List.take_succ_cons, List.take_zero, List.drop_succ_cons, List.drop_zero]
                            apply Exists.intro
                            refine ⟨?hqa, ?hva, ?hta⟩
                            case hqa =>
                              intro V hV
                              clear hV
                              repeat (go_big_quiet_step (fail))
                              exact wpQuiet_nil rfl
                            case hva => exact ⟨trivial, trivial⟩
                            case hta =>
                              refine tLex_make (#[.int .u8 255], 5) rfl rfl rfl rfl (fun u => ?hma) ?_
                              case hma => simp [execOp, mkVal, Instr.buildSlice, go_sem]
                              intro qa hga hLa
                              simp only [Act.put, mkVal, List.setIfInBounds_toArray, List.set_cons_succ, List.set_cons_zero]
                              refine tLex_act 24 #[.pointer (some ⟨g9, 0, none⟩), .slice (some ⟨qa, 0, none⟩) 1 1] (fun u => ?hea1) rfl rfl _ rfl ?hca1 ?_
                              case hea1 => simp [execOp, go_sem, mkVal]
                              case hca1 =>
                                intro D u hu hI hdd
                                obtain ⟨d1, d2⟩ := hdd _ _ ⟨_, List.mem_cons_of_mem _ (List.mem_cons_of_mem _ (List.mem_cons_self ..)), rfl⟩ (mput_same _ _ _)
                                exact padI_byte (n := 1) [255] hu hI d1 d2 rfl rfl rfl (by have := HLN.out; show L.length + _ ≤ _; simp; omega) (by intro x hx; simp at hx; omega)
                              rintro r1 rfl
                              simp only [Act.put, List.setIfInBounds_toArray, List.set_cons_succ, List.set_cons_zero]
                              refine tLex_quiets 2 rfl (by kernel_rfl) ?_
                              simp only [List.take_succ_cons, List.take_zero, List.drop_succ_cons, List.drop_zero]
                              apply Exists.intro
                              refine ⟨?hqb, ?hvb, ?htb⟩
                              case hqb =>
                                intro V hV
                                have e9 := fun d os => ((HPM.out.kept hV (fun hf => by have h1 := HPR.out.foot_ge _ hf; have := HGB.out; omega)).kept (kept_grown' V d os) (fun hf => hf)).cb HOK.out.s6
                                clear hV
                                repeat (go_big_quiet_step (fail))
                                exact wpQuiet_nil rfl
                              case hvb => exact ⟨trivial, trivial, trivial⟩
                              case htb =>
                                refine tLex_act 24 #[.pointer (some ⟨g9, 0, none⟩), .slice Ab nb cb] (fun u => ?heb1) rfl rfl _ rfl ?hcb1 ?_
                                case heb1 => simp [execOp, go_sem, mkVal]
                                case hcb1 =>
                                  intro D u hu hI hdd
                                  exact padI_src h.bh hu hI HYB.out HLB.out rfl (by have := HLN.out; have := HBL.out; show (L ++ beAll 1 [255]).length + nb ≤ _; rw [List.length_append, beAll_len]; simp only [List.length_cons, List.length_nil]; omega)
                                rintro r2 rfl
                                simp only [Act.put, List.setIfInBounds_toArray, List.set_cons_succ, List.set_cons_zero]
                                intro w5 hs
                                obtain ⟨v', hp', _, _, _, _⟩ := hs.know
                                have HP5 := Lib.hid (show Padd w5 w3.heap.size g9 v' (formB h) from by
                                  have e : formB h = lsE L h.bh 2 := by
                                    rw [← HLL.out]
                                    exact lsE_full h
                                  rw [e]
                                  exact hp')
                                have HK5 := Lib.hid (show Kept Nil w w5 from (HK3.out.then (HKR.out)).fresh hs.kept (fun i hi => Nat.le_trans HK3.out.size (HPR.out.foot_ge i hi)))
                                have HSZ := Lib.hid (show (formB h).length ≤ 140737488355328 by
                                  have e : formB h = lsE L h.bh 2 := by
                                    rw [← HLL.out]
                                    exact lsE_full h
                                  rw [e]
                                  have := HLN.out
                                  show ((L ++ beAll 1 [255]) ++ h.bh).length ≤ _
                                  rw [List.length_append, List.length_append, beAll_len]
                                  simp only [List.length_cons, List.length_nil]
                                  omega)
                                clear hp' hs HKP HST
                                go_wp2_with (fail)
                                refine (Done_yes _ _ _ _ _ HP5.out HSZ.out).mono ?_
                                rintro e w6 ⟨v6, rfl, hm6⟩
                                have HM6 := Lib.hid hm6
                                clear hm6
                                go_wp2
                                go_ret2
                                rw [HM.out]
                                exact ⟨_, rfl, own_mono HM6.out.1 HK5.out.size, HK5.out.then HM6.out.2⟩
end Go.Proofs.Ythjfeanmgaidcaa
