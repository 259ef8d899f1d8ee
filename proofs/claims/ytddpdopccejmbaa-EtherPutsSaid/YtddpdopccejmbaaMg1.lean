/- Texts that belong together, one behind the other: CutA, Mem2. Conditions: those of each. -/
import Derived.Test.YtddpdopccejmbaaProg
import Derived.Test.YtddpdopccejmbaaMg0
import Derived.WalkSpells
import Derived.WalkLawsBesides
import Derived.Deep.QuietTactic
import Derived.BigQuiet
import Derived.Lib.Hide
import Derived.Outline
import Derived.Maps.AppendAt
import Derived.RegionTactic
/- Contracts of package cut's cutter: what each call answers, and what becomes of the cutter's block. -/
namespace Go.Proofs.Ytddpdopccejmbaa
open Go.RowKit
set_option linter.unusedVariables false

/-- A cutter as plain data: its bytes, how many were taken, its error. -/
structure Cst where
  l : List UInt8
  k : Nat
  er : Int

def failM (s : Cst) (e : Int) : Cst := if s.er = 0 then { s with er := e } else s
def leftM (s : Cst) : Int := if s.er = 0 then (s.l.length : Int) - s.k else 0
def takeM (s : Cst) (n : Int) : List UInt8 × Cst :=
  if s.er ≠ 0 then ([], s) else if n < 0 then ([], { s with er := 1 }) else if (s.l.length : Int) - s.k < n then ([], { s with er := 4 })
  else ((s.l.take (s.k + n.toNat)).drop s.k, { s with k := s.k + n.toNat })

structure Cutr (w : World) (g : Nat) (A : Option Addr) (n c : Nat) (s : Cst) : Prop where
  blo : Blo w g 103 #[.bool true, .slice A n c, .int .i64 (s.k : Int), .int .i64 s.er]
  byt : Byt w A n c s.l
  le : s.k ≤ n
  apart : ∀ i, Lies A n i → i ≠ g

section
variable {w w' : World} {g n c : Nat} {A : Option Addr} {s : Cst}
theorem Cutr.c0 (h : Cutr w g A n c s) : w.cell? ⟨g, 0, none⟩ = some (.bool true) := h.blo.cell 0
theorem Cutr.c1 (h : Cutr w g A n c s) : w.cell? ⟨g, 1, none⟩ = some (.slice A n c) := h.blo.cell 1
theorem Cutr.c2 (h : Cutr w g A n c s) : w.cell? ⟨g, 2, none⟩ = some (.int .i64 (s.k : Int)) := h.blo.cell 2
theorem Cutr.c3 (h : Cutr w g A n c s) : w.cell? ⟨g, 3, none⟩ = some (.int .i64 s.er) := h.blo.cell 3
theorem Cutr.len (h : Cutr w g A n c s) : s.l.length = n := h.byt.1
theorem Cutr.kept {F : Nat → Prop} (h : Cutr w g A n c s) (k : Kept F w w') (hg : ¬ F g) (hA : ∀ i, Lies A n i → ¬ F i) : Cutr w' g A n c s :=
  ⟨h.blo.kept k hg, h.byt.kept k hA, h.le, h.apart⟩
theorem Cutr.drewN (h : Cutr w g A n c s) (q : Nat) : Cutr (w.drewN q) g A n c s := ⟨h.blo, h.byt, h.le, h.apart⟩
theorem Cutr.setErr (h : Cutr w g A n c s) (e : Int) : Cutr (w.setCell ⟨g, 3, none⟩ (.int .i64 e)) g A n c { s with er := e } :=
  ⟨by have := h.blo.set 3 (.int .i64 e); simpa using this, h.byt.kept (Kept.one w g _ _ _) h.apart, h.le, h.apart⟩
theorem Cutr.setAt (h : Cutr w g A n c s) (k : Nat) (hk : k ≤ n) (x : Int) (hx : x = (k : Int)) : Cutr (w.setCell ⟨g, 2, none⟩ (.int .i64 x)) g A n c { s with k := k } := by
  subst hx
  exact ⟨by have := h.blo.set 2 (.int .i64 (k : Int)); simpa using this, h.byt.kept (Kept.one w g _ _ _) h.apart, hk, h.apart⟩
theorem Cutr.heap (h : Cutr w g A n c s) (e : w'.heap = w.heap) : Cutr w' g A n c s := ⟨h.blo.heap e, h.byt.heap e, h.le, h.apart⟩
end

theorem none_yes (g : Nat) (w : World) (h : w.cell? ⟨g, 0, none⟩ = some (.bool true)) :
    Calls Try.prog 68 #[.pointer (some ⟨g, 0, none⟩)] w fun e w' => e = .returned (.bool false) ∧ w = w' := by
  go_enter Try.func68, Try.ntmps68
  go_wp2
  go_ret
  exact ⟨rfl, rfl⟩

theorem err_yes (g : Nat) (er : Int) (w : World) (h : w.cell? ⟨g, 0, none⟩ = some (.bool true)) (h3 : w.cell? ⟨g, 3, none⟩ = some (.int .i64 er)) :
    Calls Try.prog 47 #[.pointer (some ⟨g, 0, none⟩)] w fun e w' => e = .returned (.int .i64 er) ∧ w = w' := by
  go_enter Try.func47, Try.ntmps47
  go_wp2_with (go_at_call 68; refine (none_yes g _ h).mono ?_; rintro e w' ⟨rfl, rfl⟩)
  go_ret
  exact ⟨rfl, rfl⟩

theorem at_yes (g k : Nat) (w : World) (h : w.cell? ⟨g, 0, none⟩ = some (.bool true)) (h2 : w.cell? ⟨g, 2, none⟩ = some (.int .i64 (k : Int))) :
    Calls Try.prog 83 #[.pointer (some ⟨g, 0, none⟩)] w fun e w' => e = .returned (.int .i64 (k : Int)) ∧ w = w' := by
  go_enter Try.func83, Try.ntmps83
  go_wp2_with (go_at_call 68; refine (none_yes g _ h).mono ?_; rintro e w' ⟨rfl, rfl⟩)
  go_ret
  exact ⟨rfl, rfl⟩

theorem left_yes (g : Nat) (A : Option Addr) (n c : Nat) (s : Cst) (w : World) (h : Cutr w g A n c s) :
    Calls Try.prog 80 #[.pointer (some ⟨g, 0, none⟩)] w fun e w' => e = .returned (.int .i64 (leftM s)) ∧ ∃ q, w' = w.drewN q := by
  have h0 := h.c0
  have h1 := h.c1
  have h2 := h.c2
  have h3 := h.c3
  have hle := h.le
  have hn : n ≤ 9223372036854775807 := Nat.le_trans h.byt.2.1 h.byt.2.2.1
  by_cases he : s.er = 0
  · have hl : leftM s = (n : Int) - s.k := by unfold leftM; rw [if_pos he, h.len]
    rw [hl]
    clear hl h
    have hb : (s.er != 0) = false := by simp [he]
    have Hn := Lib.hid he
    clear he
    go_enter Try.func80, Try.ntmps80
    go_wp2_with (go_at_call 47; refine (err_yes g _ _ h0 h3).mono ?_; rintro e w' ⟨rfl, rfl⟩)
    go_quiet (fail)
    go_wp2
    go_ret
    exact ⟨rfl, _, rfl⟩
  · have hl : leftM s = 0 := by unfold leftM; rw [if_neg he]
    rw [hl]
    clear hl h
    have hb : (s.er != 0) = true := by simp [he]
    go_enter Try.func80, Try.ntmps80
    go_wp2_with (go_at_call 47; refine (err_yes g _ _ h0 h3).mono ?_; rintro e w' ⟨rfl, rfl⟩)
    go_ret
    exact ⟨rfl, 0, rfl⟩

theorem fail_yes (g : Nat) (A : Option Addr) (n c : Nat) (s : Cst) (x : Int) (w : World) (h : Cutr w g A n c s) :
    Calls Try.prog 79 #[.pointer (some ⟨g, 0, none⟩), .int .i64 x] w fun e w' => e = .returned (.tuple #[]) ∧ Cutr w' g A n c (failM s x) ∧ Kept (One g) w w' := by
  have h0 := h.c0
  have h3 := h.c3
  have hf := h.blo.frozen 3
  by_cases he : s.er = 0
  · have hr : Cutr (w.setCell ⟨g, 3, none⟩ (.int .i64 x)) g A n c (failM s x) := by unfold failM; rw [if_pos he]; exact h.setErr x
    have Hr := Lib.hid hr
    clear hr h
    have hb : (s.er == 0) = true := by simp [he]
    have Hn := Lib.hid he
    clear he
    go_enter Try.func79, Try.ntmps79
    go_wp2_with (go_at_call 47; refine (err_yes g _ _ h0 h3).mono ?_; rintro e w' ⟨rfl, rfl⟩)
    go_end0
    exact ⟨rfl, Hr.out, Kept.one _ _ _ _ _⟩
  · have hr : Cutr w g A n c (failM s x) := by unfold failM; rw [if_neg he]; exact h
    have Hr := Lib.hid hr
    clear hr h
    have hb : (s.er == 0) = false := by simp [he]
    go_enter Try.func79, Try.ntmps79
    go_wp2_with (go_at_call 47; refine (err_yes g _ _ h0 h3).mono ?_; rintro e w' ⟨rfl, rfl⟩)
    go_end0
    exact ⟨rfl, Hr.out, Kept.refl _ _⟩
end Go.Proofs.Ytddpdopccejmbaa
/- More plain words for memory: appends inside regions, slices of numbers. Nothing of the program is named here. -/
namespace Go.Proofs.Ytddpdopccejmbaa
open Go.RowKit
set_option linter.unusedVariables false

/-- An append onto a row of the call's own, inside a region that draws its order. -/
theorem step_own {P : Program} {ops : Array Oper} {o : Oper} {a : Act} {w : World} {K : Act → World → Prop} {Q : Exit → Act → World → Prop} {E : Prop} (hgd : o.guard = none) (s x : Operand) (t : TypeId)
    (ho : o.op = .call { callee := .builtin .append, args := #[s, x], argTypes := #[t, t] })
    (base : Nat) (e : TypeId) (i : TypeInfo) (z : Value) (size bytes : Nat) (ht : P.underlying t = some (.slice e)) (hi : P.info? e = some i) (hz : i.zero = some z)
    (hsize : i.size = size) (hby : i.bytes = bytes) (hzs : z.cells.size = size) (hsz : 0 < size)
    (v : Value) (n : Nat) (xs : List Value) (hs : a.eval s = v) (hown : w.ownsRow base e size v n xs)
    (ad : Addr) (m c : Nat) (news : List Value) (hx : a.eval x = .slice (some ad) m c) (hl : news.length = m * size) (hnews : ∀ j u, news[j]? = some u → w.cell? (ad.add j) = some u) (h1 : ∀ u ∈ news, u.oneCell' = true)
    (h63 : n + m ≤ maxLen) (hbytes : (n + m) * bytes ≤ 140737488355328) (hbase : base ≤ w.heap.size)
    (h : ∀ v' w', w'.ownsRow base e size v' (n + m) (xs ++ news) → w.grownBy w' v.ownBlock → (v'.ownBlock = v.ownBlock ∨ v'.ownBlock = some w.heap.size) → K (a.put o.dst v') w') :
    if Region.wanted o (yielded ops a.tmps) = true then Oper.wp P o a w K Q else E := by
  have hw : Region.wanted o (yielded ops a.tmps) = true := by simp [Region.wanted, hgd]
  rw [if_pos hw]
  obtain ⟨v', w', hr, h2, h3, _, h5⟩ := run_append_own_at (P := P) w base t o.type e i z size bytes ht hi hz hsize hby hzs hsz v n xs hown ad m c news hl hnews h1 h63 hbytes hbase
  unfold Oper.wp execOp
  simp only [ho, resolve, invoke, builtin, Sem.run_bind, Sem.run_pure, Result.andThen_ok, List.map_toArray, List.map_cons, List.map_nil, hs, hx, hr]
  exact h v' w' h2 h3 h5

theorem own_form {w : World} {B e size n : Nat} {v : Value} {xs : List Value} (h : w.ownsRow B e size v n xs) : ∃ A c, v = .slice A n c := by
  rcases h.2 with ⟨rfl, rfl⟩ | ⟨g, cap, cur, rfl, _⟩
  · exact ⟨none, 0, rfl⟩
  · exact ⟨_, cap, rfl⟩
/-- A slice of numbers of one kind reads as xs. -/
def Nums (k : IntKind) (w : World) (A : Option Addr) (n c : Nat) (xs : List Nat) : Prop :=
  xs.length = n ∧ n ≤ c ∧ c ≤ 9223372036854775807 ∧ (0 < n → ∃ b o, A = some ⟨b, o, none⟩ ∧ ∀ i (h : i < xs.length), w.cell? ⟨b, o + i, none⟩ = some (.int k (xs[i] : Int)))
theorem Byt.nums {w : World} {A : Option Addr} {n c : Nat} {l : List UInt8} (h : Byt w A n c l) : Nums .u8 w A n c (l.map UInt8.toNat) := by
  refine ⟨by simpa using h.1, h.2.1, h.2.2.1, fun hn => ?_⟩
  obtain ⟨b, o, e, hc⟩ := h.2.2.2 hn
  exact ⟨b, o, e, fun i hi => by simp at hi; simpa using hc i hi⟩
theorem Nums.kept {k : IntKind} {w w' : World} {A : Option Addr} {n c : Nat} {xs : List Nat} {F : Nat → Prop} (h : Nums k w A n c xs) (q : Kept F w w') (hF : ∀ i, Lies A n i → ¬ F i) : Nums k w' A n c xs := by
  refine ⟨h.1, h.2.1, h.2.2.1, fun hn => ?_⟩
  obtain ⟨b, o, rfl, hc⟩ := h.2.2.2 hn
  exact ⟨b, o, rfl, fun i hi => q.cell (hc i hi) (hF b ⟨hn, _, rfl, rfl⟩)⟩
theorem Nums.at {k : IntKind} {w : World} {A : Option Addr} {n c : Nat} {xs : List Nat} (h : Nums k w A n c xs) {i : Nat} (hi : i < xs.length) : ∃ b o, A = some ⟨b, o, none⟩ ∧ w.cell? ⟨b, o + i, none⟩ = some (.int k (xs[i] : Int)) := by
  obtain ⟨b, o, e, hc⟩ := h.2.2.2 (by have := h.1; omega)
  exact ⟨b, o, e, hc i hi⟩
theorem Nums.lt {k : IntKind} {w : World} {A : Option Addr} {n c : Nat} {xs : List Nat} (h : Nums k w A n c xs) : ∀ i, Lies A n i → i < w.heap.size := by
  rintro i ⟨hn, ad, rfl, rfl⟩
  obtain ⟨b, o, e, hc⟩ := h.2.2.2 hn
  have := World.block_lt_of_cell? w _ (hc 0 (by have := h.1; omega))
  cases e
  exact this
/-- A literal slice of numbers. -/
theorem Nums.lit (k : IntKind) (w : World) (xs : List Nat) (t : TypeId) (h : xs.length ≤ 9223372036854775807) : Nums k (w.alloc (.cells (xs.map fun x : Nat => Value.int k (x : Int)).toArray t)) (some ⟨w.heap.size, 0, none⟩) xs.length xs.length xs := by
  refine ⟨rfl, Nat.le_refl _, h, fun _ => ⟨w.heap.size, 0, rfl, fun i hi => ?_⟩⟩
  rw [(Blo.new w t _).cell]
  simp [hi]
theorem Byt.lit (w : World) (l : List UInt8) (t : TypeId) (h : l.length ≤ 9223372036854775807) : Byt (w.alloc (.cells (bys l).toArray t)) (some ⟨w.heap.size, 0, Option.none⟩) l.length l.length l := by
  refine ⟨rfl, Nat.le_refl _, h, fun _ => ⟨w.heap.size, 0, rfl, fun i hi => ?_⟩⟩
  rw [(Blo.new w t _).cell]
  simp [bys, hi]
end Go.Proofs.Ytddpdopccejmbaa
