/- Contracts of package cut's cutter: what each call answers, and what becomes of the cutter's block. -/
import Derived.Test.YtbkjobmjapbmpaaProg
import Derived.Test.YtbkjobmjapbmpaaMem
import Derived.WalkSpells
import Derived.WalkLawsBesides
import Derived.Deep.QuietTactic
import Derived.BigQuiet
import Derived.Lib.Hide
import Derived.Outline
namespace Go.Proofs.Ytbkjobmjapbmpaa
open Go.RowKit
set_option linter.unusedVariables false

/-- A cutter as plain data: its bytes, how many were taken, its error. -/
structure Cst where
  l : List UInt8
  k : Nat
  er : Int

def failM (s : Cst) (e : Int) : Cst := if s.er = 0 then { s with er := e } else s
def leftM (s : Cst) : Int := if s.er = 0 then (s.l.length : Int) - s.k else 0
def takeM (s : Cst) (n : Int) : List UInt8 × Cst :=
  if s.er ≠ 0 then ([], s) else if n < 0 then ([], { s with er := 1 }) else if (s.l.length : Int) - s.k < n then ([], { s with er := 4 })
  else ((s.l.take (s.k + n.toNat)).drop s.k, { s with k := s.k + n.toNat })

structure Cutr (w : World) (g : Nat) (A : Option Addr) (n c : Nat) (s : Cst) : Prop where
  blo : Blo w g 146 #[.bool true, .slice A n c, .int .i64 (s.k : Int), .int .i64 s.er]
  byt : Byt w A n c s.l
  le : s.k ≤ n
  apart : ∀ i, Lies A n i → i ≠ g

section
variable {w w' : World} {g n c : Nat} {A : Option Addr} {s : Cst}
theorem Cutr.c0 (h : Cutr w g A n c s) : w.cell? ⟨g, 0, none⟩ = some (.bool true) := h.blo.cell 0
theorem Cutr.c1 (h : Cutr w g A n c s) : w.cell? ⟨g, 1, none⟩ = some (.slice A n c) := h.blo.cell 1
theorem Cutr.c2 (h : Cutr w g A n c s) : w.cell? ⟨g, 2, none⟩ = some (.int .i64 (s.k : Int)) := h.blo.cell 2
theorem Cutr.c3 (h : Cutr w g A n c s) : w.cell? ⟨g, 3, none⟩ = some (.int .i64 s.er) := h.blo.cell 3
theorem Cutr.len (h : Cutr w g A n c s) : s.l.length = n := h.byt.1
theorem Cutr.kept {F : Nat → Prop} (h : Cutr w g A n c s) (k : Kept F w w') (hg : ¬ F g) (hA : ∀ i, Lies A n i → ¬ F i) : Cutr w' g A n c s :=
  ⟨h.blo.kept k hg, h.byt.kept k hA, h.le, h.apart⟩
theorem Cutr.drewN (h : Cutr w g A n c s) (q : Nat) : Cutr (w.drewN q) g A n c s := ⟨h.blo, h.byt, h.le, h.apart⟩
theorem Cutr.setErr (h : Cutr w g A n c s) (e : Int) : Cutr (w.setCell ⟨g, 3, none⟩ (.int .i64 e)) g A n c { s with er := e } :=
  ⟨by have := h.blo.set 3 (.int .i64 e); simpa using this, h.byt.kept (Kept.one w g _ _ _) h.apart, h.le, h.apart⟩
theorem Cutr.setAt (h : Cutr w g A n c s) (k : Nat) (hk : k ≤ n) (x : Int) (hx : x = (k : Int)) : Cutr (w.setCell ⟨g, 2, none⟩ (.int .i64 x)) g A n c { s with k := k } := by
  subst hx
  exact ⟨by have := h.blo.set 2 (.int .i64 (k : Int)); simpa using this, h.byt.kept (Kept.one w g _ _ _) h.apart, hk, h.apart⟩
theorem Cutr.heap (h : Cutr w g A n c s) (e : w'.heap = w.heap) : Cutr w' g A n c s := ⟨h.blo.heap e, h.byt.heap e, h.le, h.apart⟩
end

theorem none_yes (g : Nat) (w : World) (h : w.cell? ⟨g, 0, none⟩ = some (.bool true)) :
    Calls Try.prog 89 #[.pointer (some ⟨g, 0, none⟩)] w fun e w' => e = .returned (.bool false) ∧ w = w' := by
  go_enter Try.func89, Try.ntmps89
  go_wp2
  go_ret
  exact ⟨rfl, rfl⟩

theorem err_yes (g : Nat) (er : Int) (w : World) (h : w.cell? ⟨g, 0, none⟩ = some (.bool true)) (h3 : w.cell? ⟨g, 3, none⟩ = some (.int .i64 er)) :
    Calls Try.prog 59 #[.pointer (some ⟨g, 0, none⟩)] w fun e w' => e = .returned (.int .i64 er) ∧ w = w' := by
  go_enter Try.func59, Try.ntmps59
  go_wp2_with (go_at_call 89; refine (none_yes g _ h).mono ?_; rintro e w' ⟨rfl, rfl⟩)
  go_ret
  exact ⟨rfl, rfl⟩

theorem at_yes (g k : Nat) (w : World) (h : w.cell? ⟨g, 0, none⟩ = some (.bool true)) (h2 : w.cell? ⟨g, 2, none⟩ = some (.int .i64 (k : Int))) :
    Calls Try.prog 111 #[.pointer (some ⟨g, 0, none⟩)] w fun e w' => e = .returned (.int .i64 (k : Int)) ∧ w = w' := by
  go_enter Try.func111, Try.ntmps111
  go_wp2_with (go_at_call 89; refine (none_yes g _ h).mono ?_; rintro e w' ⟨rfl, rfl⟩)
  go_ret
  exact ⟨rfl, rfl⟩

theorem left_yes (g : Nat) (A : Option Addr) (n c : Nat) (s : Cst) (w : World) (h : Cutr w g A n c s) :
    Calls Try.prog 104 #[.pointer (some ⟨g, 0, none⟩)] w fun e w' => e = .returned (.int .i64 (leftM s)) ∧ ∃ q, w' = w.drewN q := by
  have h0 := h.c0
  have h1 := h.c1
  have h2 := h.c2
  have h3 := h.c3
  have hle := h.le
  have hn : n ≤ 9223372036854775807 := Nat.le_trans h.byt.2.1 h.byt.2.2.1
  by_cases he : s.er = 0
  · have hl : leftM s = (n : Int) - s.k := by unfold leftM; rw [if_pos he, h.len]
    rw [hl]
    clear hl h
    have hb : (s.er != 0) = false := by simp [he]
    have Hn := Lib.hid he
    clear he
    go_enter Try.func104, Try.ntmps104
    go_wp2_with (go_at_call 59; refine (err_yes g _ _ h0 h3).mono ?_; rintro e w' ⟨rfl, rfl⟩)
    go_quiet (fail)
    go_wp2
    go_ret
    exact ⟨rfl, _, rfl⟩
  · have hl : leftM s = 0 := by unfold leftM; rw [if_neg he]
    rw [hl]
    clear hl h
    have hb : (s.er != 0) = true := by simp [he]
    go_enter Try.func104, Try.ntmps104
    go_wp2_with (go_at_call 59; refine (err_yes g _ _ h0 h3).mono ?_; rintro e w' ⟨rfl, rfl⟩)
    go_ret
    exact ⟨rfl, 0, rfl⟩

theorem fail_yes (g : Nat) (A : Option Addr) (n c : Nat) (s : Cst) (x : Int) (w : World) (h : Cutr w g A n c s) :
    Calls Try.prog 58 #[.pointer (some ⟨g, 0, none⟩), .int .i64 x] w fun e w' => e = .returned (.tuple #[]) ∧ Cutr w' g A n c (failM s x) ∧ Kept (One g) w w' := by
  have h0 := h.c0
  have h3 := h.c3
  have hf := h.blo.frozen 3
  by_cases he : s.er = 0
  · have hr : Cutr (w.setCell ⟨g, 3, none⟩ (.int .i64 x)) g A n c (failM s x) := by unfold failM; rw [if_pos he]; exact h.setErr x
    have Hr := Lib.hid hr
    clear hr h
    have hb : (s.er == 0) = true := by simp [he]
    have Hn := Lib.hid he
    clear he
    go_enter Try.func58, Try.ntmps58
    go_wp2_with (go_at_call 59; refine (err_yes g _ _ h0 h3).mono ?_; rintro e w' ⟨rfl, rfl⟩)
    go_end0
    exact ⟨rfl, Hr.out, Kept.one _ _ _ _ _⟩
  · have hr : Cutr w g A n c (failM s x) := by unfold failM; rw [if_neg he]; exact h
    have Hr := Lib.hid hr
    clear hr h
    have hb : (s.er == 0) = false := by simp [he]
    go_enter Try.func58, Try.ntmps58
    go_wp2_with (go_at_call 59; refine (err_yes g _ _ h0 h3).mono ?_; rintro e w' ⟨rfl, rfl⟩)
    go_end0
    exact ⟨rfl, Hr.out, Kept.refl _ _⟩
end Go.Proofs.Ytbkjobmjapbmpaa
