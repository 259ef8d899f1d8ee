/- Contracts of the library's functions that the program calls: slices.Clone and bytes.Clone of bytes, bytes.Equal. -/
import Derived.Test.YtbkjobmjapbmpaaProg
import Derived.WalkSpells
import Derived.WalkLawsBesides
import Derived.Deep.QuietTactic
import Derived.BigQuiet
import Derived.Lib.Hide
import Derived.Outline
import Derived.Test.YtbkjobmjapbmpaaMem2
import Derived.Stop.BytesEq
namespace Go.Proofs.Ytbkjobmjapbmpaa
open Go.RowKit
set_option linter.unusedVariables false

theorem inf5 : Try.prog.info? 5 = some ((Try.prog.info? 5).getD default) ∧ ((Try.prog.info? 5).getD default).size = 1 := ⟨by kernel_rfl, by kernel_rfl⟩
theorem Try.infb : (Try.prog.info? 5).map (fun i => (i.zero, i.size, i.bytes)) = some (some (.int .u8 0), 1, 1) := by kernel_rfl

theorem siz5 (w : World) : (sizeOf 5).run Try.prog w = .ok 1 w := by kernel_rfl
/-- Addresses of stations are compared byte by byte. -/
theorem eq_mac (l m : List UInt8) (hl : l.length = 6) (hm : m.length = 6) (w : World) : (Op.equalIn 10000 28 (.agg (bys l).toArray) (.agg (bys m).toArray)).run Try.prog w = .ok (l == m) w :=
  run_equalIn_bytes w 9998 28 5 6 Try.underlying28 Try.underlying5 siz5 l m hl hm
theorem eq_arr6 (l m : List UInt8) (hl : l.length = 6) (hm : m.length = 6) (w : World) : (Op.equalIn 10000 27 (.agg (bys l).toArray) (.agg (bys m).toArray)).run Try.prog w = .ok (l == m) w :=
  run_equalIn_bytes w 9998 27 5 6 Try.underlying27 Try.underlying5 siz5 l m hl hm
theorem infA6 : (Try.prog.info? 28).map (·.size) = some 6 := by kernel_rfl
theorem infB6 : (Try.prog.info? 27).map (·.size) = some 6 := by kernel_rfl
/-- Bytes in new memory. -/
def Made (w w' : World) (v : Value) (l : List UInt8) : Prop := w'.ownsRow w.heap.size 5 1 v l.length (bys l) ∧ Kept Nil w w'

theorem sclone (A : Option Addr) (n c : Nat) (l : List UInt8) (w : World) (h : Byt w A n c l) (hn : n ≤ 140737488355328) :
    Calls Try.prog 81 #[.slice A n c] w fun e w' => ∃ v, e = .returned v ∧ Made w w' v l := by
  have hq := fun w => Lib.run_eql_slice_nil (P := Try.prog) w 31 5 A n c 0 0 Try.underlying31
  cases A with
  | none =>
    have hl : l = [] := by
      rcases Nat.eq_zero_or_pos n with h0 | h0
      · exact List.eq_nil_of_length_eq_zero (by rw [h.1, h0])
      · obtain ⟨b, o, e, _⟩ := h.2.2.2 h0; cases e
    subst hl
    go_enter Try.func81, Try.ntmps81
    go_wp2
    go_ret
    exact ⟨_, rfl, World.ownsRow_nil _ _ _ _, Kept.refl _ _⟩
  | some ad =>
    obtain ⟨i0, hi, hz0, hz1, hz2⟩ := info_parts Try.infb
    have hnews := (h.kept ((Kept.refl Nil w).alloc (.cells #[] 5)) (fun _ _ hf => hf)).news
    have hown : (w.alloc (.cells #[] 5)).ownsRow w.heap.size 5 1 (.slice (some ⟨w.heap.size, 0, none⟩) 0 0) 0 [] := World.ownsRow_made w #[] 0 (Nat.le_refl _) (by decide) (by simp)
    have hl : (bys l).length = n * 1 := by rw [bys_len, h.1, Nat.mul_one]
    have Hl := Lib.hid h.1
    have HL := Lib.hid hl
    have HN := Lib.hid hnews
    clear h hl hnews
    go_enter Try.func81, Try.ntmps81
    go_wp2_with (at_builtin; refine wpList_append_own _ rfl _ _ 31 rfl w.heap.size 5 i0 (.int .u8 0) 1 1 Try.underlying31 hi hz0 hz1 hz2 rfl (by decide) _ _ _ rfl hown ad n c (bys l) rfl HL.out HN.out (bys_one l) (by unfold maxLen; omega) (by omega) (by simp) ?_; intro v' w1 hown' (hgrow : World.grownBy _ w1 (some w.heap.size)) _)
    go_ret
    refine ⟨_, rfl, ?_, ((Kept.refl Nil w).alloc _).grown hgrow (fun k hk hk' => ?_)⟩
    · simp only [Nat.zero_add, List.nil_append] at hown'
      rw [Hl.out]
      exact hown'
    · cases hk
      exact absurd hk' (Nat.lt_irrefl _)
theorem bclone (A : Option Addr) (n c : Nat) (l : List UInt8) (w : World) (h : Byt w A n c l) (hn : n ≤ 140737488355328) :
    Calls Try.prog 32 #[.slice A n c] w fun e w' => ∃ v, e = .returned v ∧ Made w w' v l := by
  have hq := fun w => Lib.run_eql_slice_nil (P := Try.prog) w 31 5 A n c 0 0 Try.underlying31
  cases A with
  | none =>
    have hl : l = [] := by
      rcases Nat.eq_zero_or_pos n with h0 | h0
      · exact List.eq_nil_of_length_eq_zero (by rw [h.1, h0])
      · obtain ⟨b, o, e, _⟩ := h.2.2.2 h0; cases e
    subst hl
    go_enter Try.func32, Try.ntmps32
    go_wp2
    go_ret
    exact ⟨_, rfl, World.ownsRow_nil _ _ _ _, Kept.refl _ _⟩
  | some ad =>
    obtain ⟨i0, hi, hz0, hz1, hz2⟩ := info_parts Try.infb
    have hnews := (h.kept ((Kept.refl Nil w).alloc (.cells #[] 5)) (fun _ _ hf => hf)).news
    have hown : (w.alloc (.cells #[] 5)).ownsRow w.heap.size 5 1 (.slice (some ⟨w.heap.size, 0, none⟩) 0 0) 0 [] := World.ownsRow_made w #[] 0 (Nat.le_refl _) (by decide) (by simp)
    have hl : (bys l).length = n * 1 := by rw [bys_len, h.1, Nat.mul_one]
    have Hl := Lib.hid h.1
    have HL := Lib.hid hl
    have HN := Lib.hid hnews
    clear h hl hnews
    go_enter Try.func32, Try.ntmps32
    go_wp2_with (at_builtin; refine wpList_append_own _ rfl _ _ 31 rfl w.heap.size 5 i0 (.int .u8 0) 1 1 Try.underlying31 hi hz0 hz1 hz2 rfl (by decide) _ _ _ rfl hown ad n c (bys l) rfl HL.out HN.out (bys_one l) (by unfold maxLen; omega) (by omega) (by simp) ?_; intro v' w1 hown' (hgrow : World.grownBy _ w1 (some w.heap.size)) _)
    go_ret
    refine ⟨_, rfl, ?_, ((Kept.refl Nil w).alloc _).grown hgrow (fun k hk hk' => ?_)⟩
    · simp only [Nat.zero_add, List.nil_append] at hown'
      rw [Hl.out]
      exact hown'
    · cases hk
      exact absurd hk' (Nat.lt_irrefl _)

theorem equal (A A' : Option Addr) (n c n' c' : Nat) (l l' : List UInt8) (w : World) (h : Byt w A n c l) (h' : Byt w A' n' c' l') :
    Calls Try.prog 34 #[.slice A n c, .slice A' n' c'] w fun e w' => e = .returned (.bool (l == l')) ∧ w = w' := by
  have t1 := h.text (P := Try.prog) Try.underlying31 Try.underlying5 Try.underlying9
  have t2 := h'.text (P := Try.prog) Try.underlying31 Try.underlying5 Try.underlying9
  clear h h'
  go_enter Try.func34, Try.ntmps34
  go_wp2
  go_ret
  exact ⟨rfl, rfl⟩
theorem byt_lit (w : World) (l : List UInt8) (t : TypeId) (cs : Array Value) (hcs : cs = (bys l).toArray) (n : Nat) (hn : l.length = n) (b : Nat) (hb : b = w.heap.size) (h : l.length ≤ 9223372036854775807) : Byt (w.alloc (.cells cs t)) (some ⟨b, 0, Option.none⟩) n n l := by
  subst hcs hn hb
  exact Byt.lit w l t h
theorem byt_own {w w' : World} {v : Value} {l : List UInt8} (h : Made w w' v l) : ∃ A c, v = .slice A l.length c ∧ Byt w' A l.length c l ∧ ∀ i, Lies A l.length i → w.heap.size ≤ i := Byt.of_own h.1
end Go.Proofs.Ytbkjobmjapbmpaa
