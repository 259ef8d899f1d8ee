/- Slices of options; package dhcp: contracts of mayHaveValue, asksOrAnswers, mayBe. -/
import Derived.Test.YtbkjobmjapbmpaaDhM
import Derived.Test.YtbkjobmjapbmpaaTail
namespace Go.Proofs.Ytbkjobmjapbmpaa
open Go.RowKit Go.Sort
set_option linter.unusedVariables false

/-- A row of two cells reads as an option; its value lies in D. -/
def OpR (D : Nat → Prop) (k : IntKind) (w : World) (r : List Value) (o : Opn) : Prop := ∃ A n c, r = [.int k (o.1.toNat : Int), .slice A n c] ∧ Byt w A n c o.2 ∧ ∀ i, Lies A n i → D i
/-- A slice of options reads as os; all lies in D. -/
structure Opts (D : Nat → Prop) (k : IntKind) (w : World) (A : Option Addr) (n c : Nat) (os : List Opn) : Prop where
  len : os.length = n
  rws : ∃ rs : List (List Value), Rws 2 w A n c rs ∧ ∀ (i : Nat) (r : List Value) (o : Opn), rs[i]? = some r → os[i]? = some o → OpR D k w r o
  lies : ∀ i, Lies A n i → D i
section
variable {D D' : Nat → Prop} {k : IntKind} {w w' : World} {A : Option Addr} {n c : Nat} {os : List Opn} {r : List Value} {o : Opn}
theorem OpR.kept {F : Nat → Prop} (h : OpR D k w r o) (q : Kept F w w') (hF : ∀ i, D i → ¬ F i) : OpR D k w' r o := by
  obtain ⟨A, n, c, rfl, hb, hl⟩ := h
  exact ⟨A, n, c, rfl, hb.kept q (fun i hi => hF i (hl i hi)), hl⟩
theorem OpR.mono (h : OpR D k w r o) (hD : ∀ i, D i → D' i) : OpR D' k w r o := by
  obtain ⟨A, n, c, rfl, hb, hl⟩ := h
  exact ⟨A, n, c, rfl, hb, fun i hi => hD i (hl i hi)⟩
theorem OpR.two (h : OpR D k w r o) : r.length = 2 := by obtain ⟨A, n, c, rfl, _⟩ := h; rfl
theorem Opts.kept {F : Nat → Prop} (h : Opts D k w A n c os) (q : Kept F w w') (hF : ∀ i, D i → ¬ F i) : Opts D k w' A n c os := by
  obtain ⟨h1, ⟨rs, h2, h3⟩, h4⟩ := h
  exact ⟨h1, ⟨rs, h2.kept q (fun i hi => hF i (h4 i hi)), fun i r o hr ho => (h3 i r o hr ho).kept q hF⟩, h4⟩
theorem Opts.mono (h : Opts D k w A n c os) (hD : ∀ i, D i → D' i) : Opts D' k w A n c os := by
  obtain ⟨h1, ⟨rs, h2, h3⟩, h4⟩ := h
  exact ⟨h1, ⟨rs, h2, fun i r o hr ho => (h3 i r o hr ho).mono hD⟩, fun i hi => hD i (h4 i hi)⟩
theorem Opts.none (D : Nat → Prop) (k : IntKind) (w : World) : Opts D k w none 0 0 [] := ⟨rfl, ⟨[], Rws.none 2 w, fun i r o hr => by simp at hr⟩, fun i hi => absurd hi.1 (by omega)⟩
/-- The option at a place: its two cells. -/
theorem Opts.at (h : Opts D k w A n c os) {i : Nat} (hi : i < os.length) : ∃ b o A' m c', A = some ⟨b, o, Option.none⟩ ∧ Row w b (o + i * 2) [.int k (os[i].1.toNat : Int), .slice A' m c'] ∧ Byt w A' m c' os[i].2 ∧ (∀ j, Lies A' m j → D j) := by
  obtain ⟨h1, ⟨rs, h2, h3⟩, h4⟩ := h
  have hir : i < rs.length := by rw [h2.1, ← h1]; exact hi
  obtain ⟨b, o, e, hc⟩ := h2.2.2.2.2 (by omega)
  obtain ⟨A', m, c', hr, hb, hl⟩ := h3 i rs[i] os[i] (List.getElem?_eq_getElem hir) (List.getElem?_eq_getElem hi)
  refine ⟨b, o, A', m, c', e, fun j u hu => ?_, hb, hl⟩
  rw [← hr] at hu
  obtain ⟨hj, rfl⟩ := List.getElem?_eq_some_iff.1 hu
  exact hc i hir j hj
theorem Opts.lt (h : Opts D k w A n c os) : n ≤ c ∧ c ≤ 9223372036854775807 := by obtain ⟨h1, ⟨rs, h2, h3⟩, h4⟩ := h; exact ⟨h2.2.1, h2.2.2.1⟩
/-- The values below a bound that holds for all memory. -/
theorem Opts.bounded (h : Opts D k w A n c os) : Opts (fun i => D i ∧ i < w.heap.size) k w A n c os := by
  obtain ⟨h1, ⟨rs, h2, h3⟩, h4⟩ := h
  refine ⟨h1, ⟨rs, h2, fun i r o hr ho => ?_⟩, fun i hi => ⟨h4 i hi, h2.lt (by omega) i hi⟩⟩
  obtain ⟨A', m, c', e, hb, hl⟩ := h3 i r o hr ho
  exact ⟨A', m, c', e, hb, fun j hj => ⟨hl j hj, hb.lt j hj⟩⟩
end
/-- A message as it is handed: its slices read; they lie in D. -/
structure DhIn (D : Nat → Prop) (w : World) (h : Dh) (vo vb : Value) : Prop where
  ok : h.ok
  o : ∃ A n c, vo = .slice A n c ∧ Opts D .u8 w A n c h.os
  b : ∃ A n c, vb = .slice A n c ∧ Byt w A n c h.bh ∧ ∀ i, Lies A n i → D i
section
variable {D D' : Nat → Prop} {w w' : World} {h : Dh} {vo vb : Value}
theorem DhIn.kept {F : Nat → Prop} (a : DhIn D w h vo vb) (q : Kept F w w') (hF : ∀ i, D i → ¬ F i) : DhIn D w' h vo vb := by
  obtain ⟨A, n, c, e, ho⟩ := a.o
  obtain ⟨A', n', c', e', hb, hl⟩ := a.b
  exact ⟨a.ok, ⟨A, n, c, e, ho.kept q hF⟩, ⟨A', n', c', e', hb.kept q (fun i hi => hF i (hl i hi)), hl⟩⟩
theorem DhIn.nil (a : DhIn D w h vo vb) (q : Kept Nil w w') : DhIn D w' h vo vb := a.kept q (fun _ _ hf => hf)
theorem DhIn.mono (a : DhIn D w h vo vb) (hD : ∀ i, D i → D' i) : DhIn D' w h vo vb := by
  obtain ⟨A, n, c, e, ho⟩ := a.o
  obtain ⟨A', n', c', e', hb, hl⟩ := a.b
  exact ⟨a.ok, ⟨A, n, c, e, ho.mono hD⟩, ⟨A', n', c', e', hb, fun i hi => hD i (hl i hi)⟩⟩
theorem DhIn.one (a : DhIn D w h vo vb) : ∀ u ∈ dcs h vo vb, u.oneCell' = true := by
  obtain ⟨A, n, c, rfl, ho⟩ := a.o
  obtain ⟨A', n', c', rfl, hb, hl⟩ := a.b
  exact dcs_one rfl rfl
end
def hasD (c : UInt8) : Bool := decide (c ≠ 0 ∧ c ≠ 255)
theorem u8_eq (a b : UInt8) : ((a.toNat : Int) == (b.toNat : Int)) = decide (a = b) := by
  rw [Bool.eq_iff_iff]
  simp only [beq_iff_eq, decide_eq_true_eq]
  exact ⟨fun h => UInt8.toNat_inj.1 (by omega), fun h => by rw [h]⟩
theorem u8_ne (a b : UInt8) : ((a.toNat : Int) != (b.toNat : Int)) = decide (a ≠ b) := by
  have := u8_eq a b
  simp only [bne, this, decide_not]
theorem has_yes (c : UInt8) (w : World) : Calls Try.prog 100 #[.int .u8 (c.toNat : Int)] w fun e w' => e = .returned (.bool (hasD c)) ∧ w = w' := by
  have h0 : ((c.toNat : Int) != 0) = decide (c ≠ 0) := u8_ne c 0
  have h1 : ((c.toNat : Int) != 255) = decide (c ≠ 255) := u8_ne c 255
  have hh : hasD c = (decide (c ≠ 0) && decide (c ≠ 255)) := by unfold hasD; rw [Bool.eq_iff_iff]; simp
  by_cases hc : c = 0
  · have HH := Lib.hid (show hasD c = false by rw [hh]; simp [hc])
    rw [show decide (c ≠ 0) = false by simp [hc]] at h0
    clear hh hc h1
    go_enter Try.func100, Try.ntmps100
    go_wp2
    go_ret
    exact ⟨by rw [HH.out]; first | rfl | (rw [decide_not]; rfl), rfl⟩
  · have HH := Lib.hid (show hasD c = decide (c ≠ 255) by rw [hh]; simp [hc])
    rw [show decide (c ≠ 0) = true by simp [hc]] at h0
    clear hh hc
    go_enter Try.func100, Try.ntmps100
    go_wp2
    go_ret
    exact ⟨by rw [HH.out]; first | rfl | (rw [decide_not]; rfl), rfl⟩
theorem asks_yes (h : Dh) (hs : h.six) (vo vb : Value) (w : World) : Calls Try.prog 101 #[dhv h vo vb] w fun e w' => e = .returned (.bool (decide (h.op = 1 ∨ h.op = 2))) ∧ Kept Nil w w' := by
  have hP := DB.new w 73 h vo vb
  have hk := (Kept.refl Nil w).alloc (.cells (dcs h vo vb).toArray 73)
  go_enter Try.func101, Try.ntmps101
  go_upto_region 1 with (fail)
  refine wp_nameE (fun W => DB W w.heap.size 73 h vo vb ∧ Kept Nil w W) ⟨hP, hk⟩ ?_
  clear hP hk
  rintro W ⟨hP, hk⟩
  have c0 := hP.c0
  have HK := Lib.hid hk
  have e1 : ((h.op.toNat : Int) == 1) = decide (h.op = 1) := u8_eq h.op 1
  have e2 : ((h.op.toNat : Int) == 2) = decide (h.op = 2) := u8_eq h.op 2
  clear hP hk
  by_cases h1 : h.op = 1
  · have HH := Lib.hid (show decide (h.op = 1 ∨ h.op = 2) = true by simp [h1])
    rw [show decide (h.op = 1) = true by simp [h1]] at e1
    clear h1 e2
    go_wp2
    go_ret
    exact ⟨by rw [HH.out]; rfl, HK.out⟩
  · have HH := Lib.hid (show decide (h.op = 1 ∨ h.op = 2) = decide (h.op = 2) by simp [h1])
    rw [show decide (h.op = 1) = false by simp [h1]] at e1
    clear h1
    go_wp2
    go_ret
    exact ⟨by rw [HH.out]; rfl, HK.out⟩
end Go.Proofs.Ytbkjobmjapbmpaa
