/- Texts that belong together, one behind the other: Lib, CutA. Conditions: those of each. -/
import Derived.Test.YthjfeanmgaidcaaProg
import Derived.WalkSpells
import Derived.WalkLawsBesides
import Derived.Deep.QuietTactic
import Derived.BigQuiet
import Derived.Lib.Hide
import Derived.Outline
import Derived.Test.YthjfeanmgaidcaaMg2
import Derived.Stop.BytesEq
import Derived.Test.YthjfeanmgaidcaaMg0
/- Contracts of the library's functions that the program calls: slices.Clone and bytes.Clone of bytes, bytes.Equal. -/
namespace Go.Proofs.Ythjfeanmgaidcaa
open Go.RowKit
set_option linter.unusedVariables false

theorem inf5 : Try.prog.info? 5 = some ((Try.prog.info? 5).getD default) ∧ ((Try.prog.info? 5).getD default).size = 1 := ⟨by kernel_rfl, by kernel_rfl⟩
theorem Try.infb : (Try.prog.info? 5).map (fun i => (i.zero, i.size, i.bytes)) = some (some (.int .u8 0), 1, 1) := by kernel_rfl

theorem siz5 (w : World) : (sizeOf 5).run Try.prog w = .ok 1 w := by kernel_rfl
/-- Addresses of stations are compared byte by byte. -/
theorem eq_mac (l m : List UInt8) (hl : l.length = 6) (hm : m.length = 6) (w : World) : (Op.equalIn 10000 26 (.agg (bys l).toArray) (.agg (bys m).toArray)).run Try.prog w = .ok (l == m) w :=
  run_equalIn_bytes w 9998 26 5 6 Try.underlying26 Try.underlying5 siz5 l m hl hm
theorem eq_arr6 (l m : List UInt8) (hl : l.length = 6) (hm : m.length = 6) (w : World) : (Op.equalIn 10000 25 (.agg (bys l).toArray) (.agg (bys m).toArray)).run Try.prog w = .ok (l == m) w :=
  run_equalIn_bytes w 9998 25 5 6 Try.underlying25 Try.underlying5 siz5 l m hl hm
theorem infA6 : (Try.prog.info? 26).map (·.size) = some 6 := by kernel_rfl
theorem infB6 : (Try.prog.info? 25).map (·.size) = some 6 := by kernel_rfl
/-- Bytes in new memory. -/
def Made (w w' : World) (v : Value) (l : List UInt8) : Prop := w'.ownsRow w.heap.size 5 1 v l.length (bys l) ∧ Kept Nil w w'

theorem sclone (A : Option Addr) (n c : Nat) (l : List UInt8) (w : World) (h : Byt w A n c l) (hn : n ≤ 140737488355328) :
    Calls Try.prog 58 #[.slice A n c] w fun e w' => ∃ v, e = .returned v ∧ Made w w' v l := by
  have hq := fun w => Lib.run_eql_slice_nil (P := Try.prog) w 31 5 A n c 0 0 Try.underlying31
  cases A with
  | none =>
    have hl : l = [] := by
      rcases Nat.eq_zero_or_pos n with h0 | h0
      · exact List.eq_nil_of_length_eq_zero (by rw [h.1, h0])
      · obtain ⟨b, o, e, _⟩ := h.2.2.2 h0; cases e
    subst hl
    go_enter Try.func58, Try.ntmps58
    go_wp2
    go_ret
    exact ⟨_, rfl, World.ownsRow_nil _ _ _ _, Kept.refl _ _⟩
  | some ad =>
    obtain ⟨i0, hi, hz0, hz1, hz2⟩ := info_parts Try.infb
    have hnews := (h.kept ((Kept.refl Nil w).alloc (.cells #[] 5)) (fun _ _ hf => hf)).news
    have hown : (w.alloc (.cells #[] 5)).ownsRow w.heap.size 5 1 (.slice (some ⟨w.heap.size, 0, none⟩) 0 0) 0 [] := World.ownsRow_made w #[] 0 (Nat.le_refl _) (by decide) (by simp)
    have hl : (bys l).length = n * 1 := by rw [bys_len, h.1, Nat.mul_one]
    have Hl := Lib.hid h.1
    have HL := Lib.hid hl
    have HN := Lib.hid hnews
    clear h hl hnews
    go_enter Try.func58, Try.ntmps58
    go_wp2_with (at_builtin; refine wpList_append_own _ rfl _ _ 31 rfl w.heap.size 5 i0 (.int .u8 0) 1 1 Try.underlying31 hi hz0 hz1 hz2 rfl (by decide) _ _ _ rfl hown ad n c (bys l) rfl HL.out HN.out (bys_one l) (by unfold maxLen; omega) (by omega) (by simp) ?_; intro v' w1 hown' (hgrow : World.grownBy _ w1 (some w.heap.size)) _)
    go_ret
    refine ⟨_, rfl, ?_, ((Kept.refl Nil w).alloc _).grown hgrow (fun k hk hk' => ?_)⟩
    · simp only [Nat.zero_add, List.nil_append] at hown'
      rw [Hl.out]
      exact hown'
    · cases hk
      exact absurd hk' (Nat.lt_irrefl _)
theorem bclone (A : Option Addr) (n c : Nat) (l : List UInt8) (w : World) (h : Byt w A n c l) (hn : n ≤ 140737488355328) :
    Calls Try.prog 11 #[.slice A n c] w fun e w' => ∃ v, e = .returned v ∧ Made w w' v l := by
  have hq := fun w => Lib.run_eql_slice_nil (P := Try.prog) w 31 5 A n c 0 0 Try.underlying31
  cases A with
  | none =>
    have hl : l = [] := by
      rcases Nat.eq_zero_or_pos n with h0 | h0
      · exact List.eq_nil_of_length_eq_zero (by rw [h.1, h0])
      · obtain ⟨b, o, e, _⟩ := h.2.2.2 h0; cases e
    subst hl
    go_enter Try.func11, Try.ntmps11
    go_wp2
    go_ret
    exact ⟨_, rfl, World.ownsRow_nil _ _ _ _, Kept.refl _ _⟩
  | some ad =>
    obtain ⟨i0, hi, hz0, hz1, hz2⟩ := info_parts Try.infb
    have hnews := (h.kept ((Kept.refl Nil w).alloc (.cells #[] 5)) (fun _ _ hf => hf)).news
    have hown : (w.alloc (.cells #[] 5)).ownsRow w.heap.size 5 1 (.slice (some ⟨w.heap.size, 0, none⟩) 0 0) 0 [] := World.ownsRow_made w #[] 0 (Nat.le_refl _) (by decide) (by simp)
    have hl : (bys l).length = n * 1 := by rw [bys_len, h.1, Nat.mul_one]
    have Hl := Lib.hid h.1
    have HL := Lib.hid hl
    have HN := Lib.hid hnews
    clear h hl hnews
    go_enter Try.func11, Try.ntmps11
    go_wp2_with (at_builtin; refine wpList_append_own _ rfl _ _ 31 rfl w.heap.size 5 i0 (.int .u8 0) 1 1 Try.underlying31 hi hz0 hz1 hz2 rfl (by decide) _ _ _ rfl hown ad n c (bys l) rfl HL.out HN.out (bys_one l) (by unfold maxLen; omega) (by omega) (by simp) ?_; intro v' w1 hown' (hgrow : World.grownBy _ w1 (some w.heap.size)) _)
    go_ret
    refine ⟨_, rfl, ?_, ((Kept.refl Nil w).alloc _).grown hgrow (fun k hk hk' => ?_)⟩
    · simp only [Nat.zero_add, List.nil_append] at hown'
      rw [Hl.out]
      exact hown'
    · cases hk
      exact absurd hk' (Nat.lt_irrefl _)

theorem equal (A A' : Option Addr) (n c n' c' : Nat) (l l' : List UInt8) (w : World) (h : Byt w A n c l) (h' : Byt w A' n' c' l') :
    Calls Try.prog 34 #[.slice A n c, .slice A' n' c'] w fun e w' => e = .returned (.bool (l == l')) ∧ w = w' := by
  have t1 := h.text (P := Try.prog) Try.underlying31 Try.underlying5 Try.underlying9
  have t2 := h'.text (P := Try.prog) Try.underlying31 Try.underlying5 Try.underlying9
  clear h h'
  go_enter Try.func34, Try.ntmps34
  go_wp2
  go_ret
  exact ⟨rfl, rfl⟩
theorem byt_lit (w : World) (l : List UInt8) (t : TypeId) (cs : Array Value) (hcs : cs = (bys l).toArray) (n : Nat) (hn : l.length = n) (b : Nat) (hb : b = w.heap.size) (h : l.length ≤ 9223372036854775807) : Byt (w.alloc (.cells cs t)) (some ⟨b, 0, Option.none⟩) n n l := by
  subst hcs hn hb
  exact Byt.lit w l t h
theorem byt_own {w w' : World} {v : Value} {l : List UInt8} (h : Made w w' v l) : ∃ A c, v = .slice A l.length c ∧ Byt w' A l.length c l ∧ ∀ i, Lies A l.length i → w.heap.size ≤ i := Byt.of_own h.1
end Go.Proofs.Ythjfeanmgaidcaa
/- Contracts of package cut's cutter: what each call answers, and what becomes of the cutter's block. -/
namespace Go.Proofs.Ythjfeanmgaidcaa
open Go.RowKit
set_option linter.unusedVariables false

/-- A cutter as plain data: its bytes, how many were taken, its error. -/
structure Cst where
  l : List UInt8
  k : Nat
  er : Int

def failM (s : Cst) (e : Int) : Cst := if s.er = 0 then { s with er := e } else s
def leftM (s : Cst) : Int := if s.er = 0 then (s.l.length : Int) - s.k else 0
def takeM (s : Cst) (n : Int) : List UInt8 × Cst :=
  if s.er ≠ 0 then ([], s) else if n < 0 then ([], { s with er := 1 }) else if (s.l.length : Int) - s.k < n then ([], { s with er := 4 })
  else ((s.l.take (s.k + n.toNat)).drop s.k, { s with k := s.k + n.toNat })

structure Cutr (w : World) (g : Nat) (A : Option Addr) (n c : Nat) (s : Cst) : Prop where
  blo : Blo w g 112 #[.bool true, .slice A n c, .int .i64 (s.k : Int), .int .i64 s.er]
  byt : Byt w A n c s.l
  le : s.k ≤ n
  apart : ∀ i, Lies A n i → i ≠ g

section
variable {w w' : World} {g n c : Nat} {A : Option Addr} {s : Cst}
theorem Cutr.c0 (h : Cutr w g A n c s) : w.cell? ⟨g, 0, none⟩ = some (.bool true) := h.blo.cell 0
theorem Cutr.c1 (h : Cutr w g A n c s) : w.cell? ⟨g, 1, none⟩ = some (.slice A n c) := h.blo.cell 1
theorem Cutr.c2 (h : Cutr w g A n c s) : w.cell? ⟨g, 2, none⟩ = some (.int .i64 (s.k : Int)) := h.blo.cell 2
theorem Cutr.c3 (h : Cutr w g A n c s) : w.cell? ⟨g, 3, none⟩ = some (.int .i64 s.er) := h.blo.cell 3
theorem Cutr.len (h : Cutr w g A n c s) : s.l.length = n := h.byt.1
theorem Cutr.kept {F : Nat → Prop} (h : Cutr w g A n c s) (k : Kept F w w') (hg : ¬ F g) (hA : ∀ i, Lies A n i → ¬ F i) : Cutr w' g A n c s :=
  ⟨h.blo.kept k hg, h.byt.kept k hA, h.le, h.apart⟩
theorem Cutr.drewN (h : Cutr w g A n c s) (q : Nat) : Cutr (w.drewN q) g A n c s := ⟨h.blo, h.byt, h.le, h.apart⟩
theorem Cutr.setErr (h : Cutr w g A n c s) (e : Int) : Cutr (w.setCell ⟨g, 3, none⟩ (.int .i64 e)) g A n c { s with er := e } :=
  ⟨by have := h.blo.set 3 (.int .i64 e); simpa using this, h.byt.kept (Kept.one w g _ _ _) h.apart, h.le, h.apart⟩
theorem Cutr.setAt (h : Cutr w g A n c s) (k : Nat) (hk : k ≤ n) (x : Int) (hx : x = (k : Int)) : Cutr (w.setCell ⟨g, 2, none⟩ (.int .i64 x)) g A n c { s with k := k } := by
  subst hx
  exact ⟨by have := h.blo.set 2 (.int .i64 (k : Int)); simpa using this, h.byt.kept (Kept.one w g _ _ _) h.apart, hk, h.apart⟩
theorem Cutr.heap (h : Cutr w g A n c s) (e : w'.heap = w.heap) : Cutr w' g A n c s := ⟨h.blo.heap e, h.byt.heap e, h.le, h.apart⟩
end

theorem none_yes (g : Nat) (w : World) (h : w.cell? ⟨g, 0, none⟩ = some (.bool true)) :
    Calls Try.prog 64 #[.pointer (some ⟨g, 0, none⟩)] w fun e w' => e = .returned (.bool false) ∧ w = w' := by
  go_enter Try.func64, Try.ntmps64
  go_wp2
  go_ret
  exact ⟨rfl, rfl⟩

theorem err_yes (g : Nat) (er : Int) (w : World) (h : w.cell? ⟨g, 0, none⟩ = some (.bool true)) (h3 : w.cell? ⟨g, 3, none⟩ = some (.int .i64 er)) :
    Calls Try.prog 33 #[.pointer (some ⟨g, 0, none⟩)] w fun e w' => e = .returned (.int .i64 er) ∧ w = w' := by
  go_enter Try.func33, Try.ntmps33
  go_wp2_with (go_at_call 64; refine (none_yes g _ h).mono ?_; rintro e w' ⟨rfl, rfl⟩)
  go_ret
  exact ⟨rfl, rfl⟩

theorem at_yes (g k : Nat) (w : World) (h : w.cell? ⟨g, 0, none⟩ = some (.bool true)) (h2 : w.cell? ⟨g, 2, none⟩ = some (.int .i64 (k : Int))) :
    Calls Try.prog 85 #[.pointer (some ⟨g, 0, none⟩)] w fun e w' => e = .returned (.int .i64 (k : Int)) ∧ w = w' := by
  go_enter Try.func85, Try.ntmps85
  go_wp2_with (go_at_call 64; refine (none_yes g _ h).mono ?_; rintro e w' ⟨rfl, rfl⟩)
  go_ret
  exact ⟨rfl, rfl⟩

theorem left_yes (g : Nat) (A : Option Addr) (n c : Nat) (s : Cst) (w : World) (h : Cutr w g A n c s) :
    Calls Try.prog 63 #[.pointer (some ⟨g, 0, none⟩)] w fun e w' => e = .returned (.int .i64 (leftM s)) ∧ ∃ q, w' = w.drewN q := by
  have h0 := h.c0
  have h1 := h.c1
  have h2 := h.c2
  have h3 := h.c3
  have hle := h.le
  have hn : n ≤ 9223372036854775807 := Nat.le_trans h.byt.2.1 h.byt.2.2.1
  by_cases he : s.er = 0
  · have hl : leftM s = (n : Int) - s.k := by unfold leftM; rw [if_pos he, h.len]
    rw [hl]
    clear hl h
    have hb : (s.er != 0) = false := by simp [he]
    have Hn := Lib.hid he
    clear he
    go_enter Try.func63, Try.ntmps63
    go_wp2_with (go_at_call 33; refine (err_yes g _ _ h0 h3).mono ?_; rintro e w' ⟨rfl, rfl⟩)
    go_quiet (fail)
    go_wp2
    go_ret
    exact ⟨rfl, _, rfl⟩
  · have hl : leftM s = 0 := by unfold leftM; rw [if_neg he]
    rw [hl]
    clear hl h
    have hb : (s.er != 0) = true := by simp [he]
    go_enter Try.func63, Try.ntmps63
    go_wp2_with (go_at_call 33; refine (err_yes g _ _ h0 h3).mono ?_; rintro e w' ⟨rfl, rfl⟩)
    go_ret
    exact ⟨rfl, 0, rfl⟩

theorem fail_yes (g : Nat) (A : Option Addr) (n c : Nat) (s : Cst) (x : Int) (w : World) (h : Cutr w g A n c s) :
    Calls Try.prog 45 #[.pointer (some ⟨g, 0, none⟩), .int .i64 x] w fun e w' => e = .returned (.tuple #[]) ∧ Cutr w' g A n c (failM s x) ∧ Kept (One g) w w' := by
  have h0 := h.c0
  have h3 := h.c3
  have hf := h.blo.frozen 3
  by_cases he : s.er = 0
  · have hr : Cutr (w.setCell ⟨g, 3, none⟩ (.int .i64 x)) g A n c (failM s x) := by unfold failM; rw [if_pos he]; exact h.setErr x
    have Hr := Lib.hid hr
    clear hr h
    have hb : (s.er == 0) = true := by simp [he]
    have Hn := Lib.hid he
    clear he
    go_enter Try.func45, Try.ntmps45
    go_wp2_with (go_at_call 33; refine (err_yes g _ _ h0 h3).mono ?_; rintro e w' ⟨rfl, rfl⟩)
    go_end0
    exact ⟨rfl, Hr.out, Kept.one _ _ _ _ _⟩
  · have hr : Cutr w g A n c (failM s x) := by unfold failM; rw [if_neg he]; exact h
    have Hr := Lib.hid hr
    clear hr h
    have hb : (s.er == 0) = false := by simp [he]
    go_enter Try.func45, Try.ntmps45
    go_wp2_with (go_at_call 33; refine (err_yes g _ _ h0 h3).mono ?_; rintro e w' ⟨rfl, rfl⟩)
    go_end0
    exact ⟨rfl, Hr.out, Kept.refl _ _⟩
end Go.Proofs.Ythjfeanmgaidcaa
