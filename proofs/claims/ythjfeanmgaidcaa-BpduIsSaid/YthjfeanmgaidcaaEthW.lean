/- Package ether: contract of With. -/
import Derived.Test.YthjfeanmgaidcaaEthG
import Derived.Test.YthjfeanmgaidcaaMg21
import Derived.Test.YthjfeanmgaidcaaMg22
namespace Go.Proofs.Ythjfeanmgaidcaa
open Go.RowKit Go.Sort
set_option linter.unusedVariables false

/-- What With's calls have made. -/
def withI (n0 : Nat) (l1 l2 : List UInt8) (D : Nat → Prop) (s : List Value) (u : World) : Prop := n0 ≤ u.heap.size ∧ match s with
  | [] => True
  | [v] => u.ownsRow n0 5 1 v l1.length (bys l1)
  | _ :: v :: _ => u.ownsRow n0 5 1 v l2.length (bys l2)
theorem withI_keeps (n0 : Nat) (l1 l2 : List UInt8) : Keeps (withI n0 l1 l2) where
  quiet := fun D s u u' ⟨h1, h2⟩ hk => ⟨Nat.le_trans h1 hk.size, by
    match s, h2 with
    | [], _ => trivial
    | [v], h2 => exact own_kept h2 hk (fun _ _ hf => hf)
    | _ :: v :: _, h2 => exact own_kept h2 hk (fun _ _ hf => hf)⟩
  make := fun D s u o ⟨h1, h2⟩ => ⟨by simp; omega, by
    match s, h2 with
    | [], _ => trivial
    | [v], h2 => exact own_kept h2 ((Kept.refl Nil u).alloc o) (fun _ _ hf => hf)
    | _ :: v :: _, h2 => exact own_kept h2 ((Kept.refl Nil u).alloc o) (fun _ _ hf => hf)⟩
theorem bytesM_le (l : List Tg) : (bytesM l).length ≤ l.length * 4 := by
  unfold bytesM
  split
  · rw [bytTs_len]; exact Nat.le_refl _
  · simp
def withM (d s : List UInt8) (t : List Tg) (b : List UInt8) : List UInt8 := d ++ s ++ bytesM t ++ b
set_option maxRecDepth 100000 in
set_option maxHeartbeats 4000000 in
theorem with_yes (d s : List UInt8) (hd : d.length = 6) (hs : s.length = 6) (A : Option Addr) (n c : Nat) (t : List Tg) (A' : Option Addr) (n' c' : Nat) (b : List UInt8) (w : World) (ht : Tags w A n c t) (hb : Byt w A' n' c' b) (hn : n ≤ 1000) (hbl : n' ≤ 1000000000) :
    Calls Try.prog 48 #[.agg (bys d).toArray, .agg (bys s).toArray, .slice A n c, .slice A' n' c'] w fun e w' => ∃ v, e = .returned v ∧ Made w w' v (withM d s t b) := by
  have hk0 : Kept Nil w ((w.alloc (.cells (bys d).toArray 26)).alloc (.cells (bys s).toArray 26)) := ((Kept.refl Nil w).alloc _).alloc _
  have hbd : Byt ((w.alloc (.cells (bys d).toArray 26)).alloc (.cells (bys s).toArray 26)) (some ⟨w.heap.size, 0, none⟩) 6 6 d := by
    have := (Byt.lit w d 26 (by omega)).kept ((Kept.refl Nil _).alloc (.cells (bys s).toArray 26)) (fun _ _ hf => hf)
    rwa [hd] at this
  have hbs : Byt ((w.alloc (.cells (bys d).toArray 26)).alloc (.cells (bys s).toArray 26)) (some ⟨w.heap.size + 1, 0, none⟩) 6 6 s := by
    have := Byt.lit (w.alloc (.cells (bys d).toArray 26)) s 26 (by omega)
    rw [hs, World.size_alloc] at this
    exact this
  have htl := ht.len
  have hbln := hb.1
  have hlen1 := bytesM_le t
  have HT := Lib.hid (ht.kept hk0 (fun _ _ hf => hf))
  have HBB := Lib.hid (hb.kept hk0 (fun _ _ hf => hf))
  have HBD := Lib.hid hbd
  have HBS := Lib.hid hbs
  have HK0 := Lib.hid hk0
  have HTOT := Lib.hid (show [d, s, bytesM t, b].flatten.length ≤ 1099511627776 by simp; omega)
  have HFL := Lib.hid (show [d, s, bytesM t, b].flatten = withM d s t b by simp [withM])
  have HSZ0 := Lib.hid (show w.heap.size ≤ ((w.alloc (.cells (bys d).toArray 26)).alloc (.cells (bys s).toArray 26)).heap.size by simp; omega)
  clear ht hb hk0 hbd hbs htl hbln hlen1
  go_enter Try.func48, Try.ntmps48
  go_wp2
  refine wp_region_acts Nil [3, 6] (fun i vl => (vl.toArray, 31)) (fun i => undef) (withI w.heap.size (bytesM t) (withM d s t b)) (fun i v => ∃ A n c, v = .slice A n c) 7 (by kernel_rfl) (by kernel_rfl) (withI_keeps _ _ _) ⟨HSZ0.out, trivial⟩ ?_
  simp only [List.take_succ_cons, List.take_zero, List.drop_succ_cons, List.drop_zero]
  refine tLex_quiets 3 rfl (by kernel_rfl) ?_
  simp only [List.take_succ_cons, List.take_zero, List.drop_succ_cons, List.drop_zero]
  apply Exists.intro
  refine ⟨?hq, ?hv, ?ht⟩
  case hq =>
    intro V hV
    clear hV
    repeat (go_big_quiet_step (fail))
    exact wpQuiet_nil rfl
  case hv => exact ⟨trivial, trivial, trivial, trivial⟩
  case ht =>
    refine tLex_act 74 #[.slice A n c] (fun u => ?he) rfl rfl (.slice none 0 0) ⟨_, _, _, rfl⟩ ?hc ?_
    case he => simp [execOp, go_sem]
    case hc =>
      intro D u hu hI hd
      refine (bytes_yes A n c t u (HT.out.kept hu (fun _ _ hf => hf)) (by omega)).mono ?_
      rintro e w' ⟨v, rfl, hm⟩
      obtain ⟨A3, c3, hv3⟩ := own_form hm.1
      exact ⟨v, rfl, ⟨A3, _, c3, hv3⟩, hu.then hm.2, ⟨Nat.le_trans hI.1 hm.2.size, own_mono hm.1 hI.1⟩, hm.2.size, fun k _ hk => hm.2.block k hk (fun hf => hf)⟩
    rintro v ⟨A3, n3, c3, rfl⟩
    simp only [Act.put, List.setIfInBounds_toArray, List.set_cons_succ, List.set_cons_zero]
    refine tLex_quiets 1 rfl (by kernel_rfl) ?_
    simp only [List.take_succ_cons, List.take_zero, List.drop_succ_cons, List.drop_zero]
    apply Exists.intro
    refine ⟨?hq1, ?hv1, ?ht1⟩
    case hq1 =>
      intro V hV
      clear hV
      repeat (go_big_quiet_step (fail))
      exact wpQuiet_nil rfl
    case hv1 => exact ⟨trivial, trivial⟩
    case ht1 =>
      refine tLex_make (#[.slice (some ⟨w.heap.size, 0, none⟩) 6 6, .slice (some ⟨w.heap.size + 1, 0, none⟩) 6 6, .slice A3 n3 c3, .slice A' n' c'], 31) rfl rfl rfl rfl (fun u => ?hm) ?_
      case hm => simp [execOp, mkVal, Instr.buildSlice, go_sem]
      intro g hg hL
      simp only [Act.put, mkVal, List.setIfInBounds_toArray, List.set_cons_succ, List.set_cons_zero]
      refine tLex_act 50 #[.slice (some ⟨g, 0, none⟩) 4 4] (fun u => ?he2) rfl rfl (.slice none 0 0) ⟨_, _, _, rfl⟩ ?hc2 ?_
      case he2 => simp [execOp, go_sem, mkVal]
      case hc2 =>
        intro D u hu hI hdd
        obtain ⟨d1, d2⟩ := hdd g _ ⟨_, List.mem_cons_of_mem _ (List.mem_cons_self ..), rfl⟩ (mput_same _ _ _)
        obtain ⟨hI1, hI2⟩ := hI
        have hI2' : u.ownsRow w.heap.size 5 1 (.slice A3 n3 c3) (bytesM t).length (bys (bytesM t)) := hI2
        obtain ⟨A4, c4, e4, hy4, _⟩ := Byt.of_own hI2'
        cases e4
        refine (concat_b g 4 31 [.slice (some ⟨w.heap.size, 0, none⟩) 6 6, .slice (some ⟨w.heap.size + 1, 0, none⟩) 6 6, .slice A3 (bytesM t).length c3, .slice A' n' c'] [d, s, bytesM t, b] u d2 rfl rfl (by decide) ?_ HTOT.out).mono ?_
        · intro i h1 h2
          match i, h1 with
          | 0, _ => exact ⟨_, _, _, rfl, HBD.out.kept hu (fun _ _ hf => hf)⟩
          | 1, _ => exact ⟨_, _, _, rfl, HBS.out.kept hu (fun _ _ hf => hf)⟩
          | 2, _ => exact ⟨_, _, _, rfl, hy4⟩
          | 3, _ => exact ⟨_, _, _, rfl, HBB.out.kept hu (fun _ _ hf => hf)⟩
        · rintro e w' ⟨v, rfl, hm⟩
          rw [HFL.out] at hm
          obtain ⟨A5, c5, hv5⟩ := own_form hm.1
          exact ⟨v, rfl, ⟨A5, _, c5, hv5⟩, hu.then hm.2, ⟨Nat.le_trans hI1 hm.2.size, own_mono hm.1 hI1⟩, hm.2.size, fun k _ hk => hm.2.block k hk (fun hf => hf)⟩
      rintro v ⟨A5, n5, c5, rfl⟩
      simp only [Act.put, List.setIfInBounds_toArray, List.set_cons_succ, List.set_cons_zero]
      intro w3 hs
      have HO := Lib.hid hs.know.2
      have HK := Lib.hid (HK0.out.then hs.kept)
      clear hs
      go_wp2
      go_ret
      exact ⟨_, rfl, HO.out, HK.out⟩
end Go.Proofs.Ythjfeanmgaidcaa
