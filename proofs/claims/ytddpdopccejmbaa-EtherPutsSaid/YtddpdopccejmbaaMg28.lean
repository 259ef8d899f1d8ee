/- Texts that belong together, one behind the other: EthJ, Upto. Conditions: those of each. -/
import Derived.Test.YtddpdopccejmbaaMg19
import Derived.Test.YtddpdopccejmbaaMg16
import Derived.Test.YtddpdopccejmbaaMg12
/- Package ether: contract of Proto. -/
namespace Go.Proofs.Ytddpdopccejmbaa
open Go.RowKit Go.Sort
set_option linter.unusedVariables false

set_option maxRecDepth 100000 in
set_option maxHeartbeats 4000000 in
theorem proto_yes (f : Fr) (vt vb vr : Value) (w : World) (h : FrIn w f vt vb vr) :
    Calls Try.prog 13 #[frv f vt vb vr] w fun e w' => ∃ v, e = .returned (.tuple #[.int .i64 (protoM f).1, v, .bool (protoM f).2.2]) ∧ Made w w' v (protoM f).2.1 := by
  have hF := FB.new w 28 f vt vb vr
  have hk := (Kept.refl Nil w).alloc (.cells (fcs f vt vb vr).toArray 28)
  have HF := Lib.hid hF
  have HK := Lib.hid hk
  have HI := Lib.hid (h.kept hk)
  have HSIX := Lib.hid h.ok.six
  clear hF hk h
  obtain ⟨d, s, t, k, y, l, o, b, r⟩ := f
  have HO := Lib.hid (show o.length = 3 from HSIX.out.o)
  go_enter Try.func13, Try.ntmps13
  go_upto_region 1 with (fail)
  refine wp_nameE (fun W => FB W w.heap.size 28 ⟨d, s, t, k, y, l, o, b, r⟩ vt vb vr ∧ Kept Nil w W ∧ FrIn W ⟨d, s, t, k, y, l, o, b, r⟩ vt vb vr) ⟨HF.out, HK.out, HI.out⟩ ?_
  clear HF HK HI
  rintro W ⟨hF, hk, hi⟩
  obtain ⟨Ab, nb, cb, rfl, hbb⟩ := hi.b
  have c13 := hF.ck HSIX.out
  simp only at c13
  have hbn : nb ≤ 1000000 := by rw [← hbb.1]; exact hi.bn
  have HF := Lib.hid hF
  have HK := Lib.hid hk
  have HB := Lib.hid (show Byt W Ab nb cb b from hbb)
  clear hF hk hi hbb
  have body : ∀ (W1 : World) (HK1 : Hid (Kept Nil w W1)) (HF1 : Hid (FB W1 w.heap.size 28 ⟨d, s, t, k, y, l, o, b, r⟩ vt (.slice Ab nb cb) vr)) (HB1 : Hid (Byt W1 Ab nb cb b)), True := fun _ _ _ _ => trivial
  clear body
  by_cases h1 : k = 1
  · subst h1
    go_wp2
    refine wp_region_acts Nil [4] (fun i vl => (#[], 0)) (fun i => undef) (withI w.heap.size b []) (fun i v => ∃ A c, v = .slice A nb c) 8 (by kernel_rfl) (by kernel_rfl) (withI_keeps _ _ _) ⟨HK.out.size, trivial⟩ ?_
    simp only [List.take_succ_cons, List.take_zero, List.drop_succ_cons, List.drop_zero]
    refine tLex_quiets 4 rfl (by kernel_rfl) ?_
    simp only [List.take_succ_cons, List.take_zero, List.drop_succ_cons, List.drop_zero]
    apply Exists.intro
    refine ⟨?hq, ?hv, ?ht⟩
    case hq =>
      intro V hV
      have hfv := HF.out.kept hV (fun hf => hf)
      have e14 := fun d os => (hfv.kept (kept_grown' V d os) (fun hf => hf)).cy HSIX.out
      have e21 := fun d os => (hfv.kept (kept_grown' V d os) (fun hf => hf)).cb HSIX.out
      clear hV hfv
      repeat (go_big_quiet_step (fail))
      exact wpQuiet_nil rfl
    case hv => exact ⟨trivial, trivial, trivial, trivial, trivial⟩
    case ht =>
      refine tLex_act 39 #[.slice Ab nb cb] (fun u => ?he) rfl rfl (.slice none nb 0) ⟨_, _, rfl⟩ ?hc ?_
      case he => simp [execOp, go_sem]
      case hc =>
        intro D u hu hI hd
        refine (sclone Ab nb cb b u (HB.out.kept hu (fun _ _ hf => hf)) (by omega)).mono ?_
        rintro e w' ⟨v, rfl, hm⟩
        obtain ⟨A3, c3, hv3⟩ := own_form hm.1
        exact ⟨v, rfl, ⟨A3, c3, by rw [hv3, HB.out.1]⟩, hu.then hm.2, ⟨Nat.le_trans hI.1 hm.2.size, own_mono hm.1 hI.1⟩, hm.2.size, fun k _ hk => hm.2.block k hk (fun hf => hf)⟩
      rintro v ⟨A3, c3, rfl⟩
      simp only [Act.put, List.setIfInBounds_toArray, List.set_cons_succ, List.set_cons_zero]
      refine tLex_quiets 3 rfl (by kernel_rfl) ?_
      simp only [List.take_succ_cons, List.take_zero, List.drop_succ_cons, List.drop_zero]
      apply Exists.intro
      refine ⟨?hq2, ?hv2, ?ht2⟩
      case hq2 =>
        intro V hV
        clear hV
        repeat (go_big_quiet_step (fail))
        exact wpQuiet_nil rfl
      case hv2 => exact ⟨trivial, trivial, trivial, trivial⟩
      case ht2 =>
        intro w3 hs
        have HO3 := Lib.hid (show w3.ownsRow w.heap.size 5 1 (.slice A3 nb c3) b.length (bys b) from hs.know.2)
        have HK3 := Lib.hid (HK.out.then hs.kept)
        clear hs
        go_wp2
        go_ret3
        have hp : protoM ⟨d, s, t, 1, y, l, o, b, r⟩ = (y, b, true) := by simp [protoM]
        rw [hp]
        exact ⟨_, rfl, HO3.out, HK3.out⟩
  · by_cases h3 : k = 3
    · subst h3
      go_wp2_with (refine wpList_ld rfl _ _ rfl _ 18 rfl _ (HF.out.ro HSIX.out) _ Try.underlying25 rfl (by rw [bys_len, HO.out]; exact inf3) ?_)
      refine (isZero_yes o HO.out _).mono ?_
      rintro e w1 ⟨rfl, hk1⟩
      have HF1 := Lib.hid (HF.out.kept hk1 (fun hf => hf))
      have HK1 := Lib.hid (HK.out.then hk1)
      have HB1 := Lib.hid (HB.out.kept hk1 (fun _ _ hf => hf))
      clear hk1 c13 HF HK HB
      by_cases ho : o = z3
      · rw [decide_eq_true ho]
        have HOO := Lib.hid ho
        clear ho
        go_wp2
        refine wp_region_acts Nil [4] (fun i vl => (#[], 0)) (fun i => undef) (withI w.heap.size b []) (fun i v => ∃ A c, v = .slice A nb c) 8 (by kernel_rfl) (by kernel_rfl) (withI_keeps _ _ _) ⟨HK1.out.size, trivial⟩ ?_
        simp only [List.take_succ_cons, List.take_zero, List.drop_succ_cons, List.drop_zero]
        refine tLex_quiets 4 rfl (by kernel_rfl) ?_
        simp only [List.take_succ_cons, List.take_zero, List.drop_succ_cons, List.drop_zero]
        apply Exists.intro
        refine ⟨?hq, ?hv, ?ht⟩
        case hq =>
          intro V hV
          have hfv := HF1.out.kept hV (fun hf => hf)
          have e14 := fun d os => (hfv.kept (kept_grown' V d os) (fun hf => hf)).cy HSIX.out
          have e21 := fun d os => (hfv.kept (kept_grown' V d os) (fun hf => hf)).cb HSIX.out
          clear hV hfv
          repeat (go_big_quiet_step (fail))
          exact wpQuiet_nil rfl
        case hv => exact ⟨trivial, trivial, trivial, trivial, trivial⟩
        case ht =>
          refine tLex_act 39 #[.slice Ab nb cb] (fun u => ?he) rfl rfl (.slice none nb 0) ⟨_, _, rfl⟩ ?hc ?_
          case he => simp [execOp, go_sem]
          case hc =>
            intro D u hu hI hd
            refine (sclone Ab nb cb b u (HB1.out.kept hu (fun _ _ hf => hf)) (by omega)).mono ?_
            rintro e w' ⟨v, rfl, hm⟩
            obtain ⟨A3, c3, hv3⟩ := own_form hm.1
            exact ⟨v, rfl, ⟨A3, c3, by rw [hv3, HB1.out.1]⟩, hu.then hm.2, ⟨Nat.le_trans hI.1 hm.2.size, own_mono hm.1 hI.1⟩, hm.2.size, fun k _ hk => hm.2.block k hk (fun hf => hf)⟩
          rintro v ⟨A3, c3, rfl⟩
          simp only [Act.put, List.setIfInBounds_toArray, List.set_cons_succ, List.set_cons_zero]
          refine tLex_quiets 3 rfl (by kernel_rfl) ?_
          simp only [List.take_succ_cons, List.take_zero, List.drop_succ_cons, List.drop_zero]
          apply Exists.intro
          refine ⟨?hq2, ?hv2, ?ht2⟩
          case hq2 =>
            intro V hV
            clear hV
            repeat (go_big_quiet_step (fail))
            exact wpQuiet_nil rfl
          case hv2 => exact ⟨trivial, trivial, trivial, trivial⟩
          case ht2 =>
            intro w3 hs
            have HO3 := Lib.hid (show w3.ownsRow w.heap.size 5 1 (.slice A3 nb c3) b.length (bys b) from hs.know.2)
            have HK3 := Lib.hid (HK1.out.then hs.kept)
            clear hs
            go_wp2
            go_ret3
            have hp : protoM ⟨d, s, t, 3, y, l, o, b, r⟩ = (y, b, true) := by simp [protoM, HOO.out]
            rw [hp]
            exact ⟨_, rfl, HO3.out, HK3.out⟩
      · rw [decide_eq_false ho]
        have HOO := Lib.hid ho
        clear ho
        go_wp2
        go_ret3
        have hp : protoM ⟨d, s, t, 3, y, l, o, b, r⟩ = (0, [], false) := by simp [protoM, HOO.out]
        rw [hp]
        exact ⟨_, rfl, World.ownsRow_nil _ _ _ _, HK1.out⟩
    · have H1 := Lib.hid h1
      have H3 := Lib.hid h3
      go_wp2
      go_ret3
      have hp : protoM ⟨d, s, t, k, y, l, o, b, r⟩ = (0, [], false) := by simp [protoM, H1.out, H3.out]
      rw [hp]
      exact ⟨_, rfl, World.ownsRow_nil _ _ _ _, HK.out⟩
end Go.Proofs.Ytddpdopccejmbaa
/- Bytes copied one by one into zeros; a byte of a slice. Nothing of the program is named here. -/
namespace Go.Proofs.Ytddpdopccejmbaa
open Go.RowKit Go.Sort
set_option linter.unusedVariables false

/-- The first q of l, zeros behind. -/
def upto (N q : Nat) (l : List UInt8) : List UInt8 := l.take q ++ List.replicate (N - q) 0
theorem upto_len (N q : Nat) (l : List UInt8) (h : q ≤ l.length) (hq : q ≤ N) : (upto N q l).length = N := by unfold upto; rw [List.length_append, List.length_take, List.length_replicate]; omega
theorem upto_set (N q : Nat) (l : List UInt8) (h : q < l.length) (hq : q < N) : (upto N q l).set q l[q] = upto N (q + 1) l := by
  unfold upto
  have h1 : (l.take q).length = q := by rw [List.length_take]; omega
  rw [List.set_append_right _ _ (by omega), h1, Nat.sub_self, show N - q = (N - (q + 1)) + 1 by omega, List.replicate_succ, List.set_cons_zero, List.take_succ_eq_append_getElem h, List.append_assoc]
  rfl
theorem upto_all (N : Nat) (l : List UInt8) : upto N N l = l.take N := by unfold upto; rw [Nat.sub_self, List.replicate_zero, List.append_nil]
theorem upto_zero (N : Nat) (l : List UInt8) : upto N 0 l = List.replicate N 0 := rfl
theorem byt_ge {w : World} {b o n c : Nat} {l : List UInt8} (h : Byt w (some ⟨b, o, none⟩) n c l) (i : Nat) (u : UInt8) (hu : l[i]? = some u) : w.cell? ⟨b, o + i, none⟩ = some (.int .u8 (u.toNat : Int)) := by
  obtain ⟨hi, rfl⟩ := List.getElem?_eq_some_iff.1 hu
  obtain ⟨b', o', e, hc⟩ := h.at hi
  cases e
  exact hc
theorem set_split {α : Type} (cs : List α) (i : Nat) (v : α) (h : i < cs.length) : cs.take i ++ [v] ++ cs.drop (i + [v].length) = cs.set i v := by
  rw [List.set_eq_take_append_cons_drop, if_pos h]
  simp
theorem bys_put (l : List UInt8) (i : Nat) (b : UInt8) : (bys l).set i (.int .u8 (b.toNat : Int)) = bys (l.set i b) := by simp [bys, List.map_set]
end Go.Proofs.Ytddpdopccejmbaa
