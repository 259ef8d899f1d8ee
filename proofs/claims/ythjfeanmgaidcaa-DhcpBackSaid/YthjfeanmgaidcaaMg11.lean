/- Texts that belong together, one behind the other: Tail, DhB. Conditions: those of each. -/
import Derived.Test.YthjfeanmgaidcaaMg1
import Derived.StillTail
import Derived.Test.YthjfeanmgaidcaaMg10
/- A region that draws its order: first what only reads and calls (callees that make memory alone), in whatever order; behind all of it a row of operations of any kind, each waiting for the one ahead (the library's StillTail, with a class of worlds in the place of one world). Nothing of the program is named here. -/
namespace Go.Proofs.Ythjfeanmgaidcaa
open Go.RowKit Go.Sort
set_option linter.unusedVariables false

section
variable {P : Program} {ops : Array Oper} {md : Region.Mode} {C : World → Prop}
/-- The head's operations in whatever order, each quiet in the class; behind them L. -/
def headAny (P : Program) (md : Region.Mode) (ops : Array Oper) (C : World → Prop) (n : Nat) (L : Array Bool → Act → Prop) : Nat → Array Bool → Act → Prop
  | 0, listed, a => L listed a
  | f + 1, listed, a => Region.ready md ops listed ≠ [] ∧ ∀ i, i ∈ Region.ready md ops listed → i < n ∧ qOp P ops C i (headAny P md ops C n L f (listed.setIfInBounds i true)) a
theorem headAny_sound {n g : Nat} {L : Array Bool → Act → Prop} {Q : Exit → Act → World → Prop} (hL : ∀ listed a w, C w → L listed a → wpAny P md ops Q g listed a w) (f : Nat) :
    ∀ (listed : Array Bool) (a : Act) (w : World), C w → headAny P md ops C n L f listed a → wpAny P md ops Q (g + f) listed a w := by
  induction f with
  | zero => intro listed a w hw h; exact hL _ _ _ hw h
  | succ f ih =>
    intro listed a w hw h
    exact ⟨fun h0 => absurd h0 h.1, fun i hi => wpOp_of_qOp hw (fun a' w' hw' h' => ih _ a' w' hw' h') (h.2 i hi).2⟩
theorem headAny_first {n i : Nat} {oi : Oper} {v : Value} {L : Array Bool → Act → Prop} (hi : ops[i]? = some oi) (hsel : ∀ (j : Nat) (o : Oper) cs b, ops[j]? = some o → o.op ≠ .select cs b)
    (hs : Region.sinkB md ops n = true) (hc : Region.chainB md ops n = true) (hn : n < ops.size) (hin : i < n) (hdone : ∀ listed a, L listed a → ∀ j, j ∈ Region.ready md ops listed → n ≤ j) (f : Nat) :
    ∀ (listed : Array Bool) (a : Act), HeadInv md ops n listed →
      (∀ j oj, ops[j]? = some oj → j ≠ i → listed.getD j true = false → (∀ e ∈ oj.after, Region.binds md e = true → e.on ≠ i) → oi.apart ops oj = true) →
      i ∈ Region.ready md ops listed → YieldsIn P ops C oi v a → headAny P md ops C n L f (listed.setIfInBounds i true) (a.put oi.dst v) → headAny P md ops C n L (f + 1) listed a := by
  induction f with
  | zero =>
    intro listed a inv _ hr hy H
    have hun := (mem_ready.1 hr).1
    have low : ∀ j, j ∈ Region.ready md ops listed → j < n := fun j hj => Nat.lt_of_not_le fun hle => tail_waits hs hc hn inv _ i rfl hin hun j hle hj
    refine ⟨fun h => (by rw [h] at hr; cases hr), fun j hj => ⟨low j hj, ?_⟩⟩
    by_cases e : j = i
    · subst e; exact hy.qOp hi H
    · exact absurd (low j hj) (Nat.not_lt.2 (hdone _ _ H j (ready_mono hj e)))
  | succ f ih =>
    intro listed a inv hfree hr hy H
    have hun := (mem_ready.1 hr).1
    have low : ∀ j, j ∈ Region.ready md ops listed → j < n := fun j hj => Nat.lt_of_not_le fun hle => tail_waits hs hc hn inv _ i rfl hin hun j hle hj
    refine ⟨fun h => (by rw [h] at hr; cases hr), fun j hj => ⟨low j hj, ?_⟩⟩
    by_cases e : j = i
    · subst e; exact hy.qOp hi H
    · obtain ⟨hjun, oj, hoj, hall⟩ := mem_ready.1 hj
      have hnot : ∀ e ∈ oj.after, Region.binds md e = true → e.on ≠ i := fun x hx hb he => by
        have := hall x hx hb
        rw [he, getD_both hun] at this
        cases this
      have h2 := qOp_put hoj (hfree j oj hoj e hjun hnot) (fun cs b => hsel i oi cs b hi) (fun cs b => hsel j oj cs b hoj) hy (H.2 j (ready_mono hj e)).2
      refine qOp_mono (fun a' h3 => ih (listed.setIfInBounds j true) a' (inv.set hj (low j hj)) (fun k ok hk hki hkun hno => hfree k ok hk hki ?_ hno) (ready_mono hr (Ne.symm e)) h3.1 ?_) h2
      · by_cases hjk : j = k
        · subst hjk; exact hjun
        · rw [getD_set_ne true hjk] at hkun; exact hkun
      · rw [Array.setIfInBounds_comm _ _ e]
        exact h3.2
theorem headAny_lex {n g : Nat} {T : Act → Prop} (hsel : Region.noSelect ops = true) (hs : Region.sinkB md ops n = true) (hc : Region.chainB md ops n = true) (hn : n < ops.size) (l : List Oper) :
    ∀ (k : Nat) (listed : Array Bool) (a : Act), (∀ j, j < l.length → l[j]? = ops[k + j]?) → k + l.length = n → HeadInv md ops n listed → Region.lexHead md ops g l.length k listed = true → wpQuiet P ops C T l a →
      headAny P md ops C n (fun listed' a' => Region.seqB md ops g n listed' = true ∧ T a') l.length listed a := by
  induction l with
  | nil =>
    intro k listed a _ hk _ hB h
    obtain rfl : k = n := by simpa using hk
    exact ⟨by simpa [Region.lexHead] using hB, h⟩
  | cons o l ih =>
    intro k listed a hl hk inv hB h
    have h0 : ops[k]? = some o := by simpa using (hl 0 (by simp)).symm
    simp only [List.length_cons, Region.lexHead, Bool.and_eq_true] at hB
    obtain ⟨⟨hr, hf⟩, hB'⟩ := hB
    have hkn : k < n := by simp only [List.length_cons] at hk; omega
    have hr' : k ∈ Region.ready md ops listed := by simpa using hr
    have hq : qOp P ops C k (wpQuiet P ops C T l) a := by unfold qOp; simp only [h0]; exact h
    obtain ⟨v, hy, hK⟩ := yieldsIn_of_qOp h0 hq
    refine headAny_first h0 (Region.noSelect_spec hsel) hs hc hn hkn (fun _ _ hL => seqB_ready hL.1) l.length listed a inv (Region.free_spec h0 hf) hr' hy ?_
    exact ih (k + 1) _ _ (fun j hj => by have := hl (j + 1) (by simp; omega); simpa [Nat.add_assoc, Nat.add_comm 1 j] using this) (by simp only [List.length_cons] at hk; omega) (inv.set hr' hkn) hB' hK
end

/-- **The region: n operations that only read or make memory, in whatever order; then the rest, in the order of the text.** -/
theorem wp_region_tail {P : Program} {id : Nat} {Q : Exit → Act → World → Prop} {a : Act} {w : World} {l : List Oper} (n : Nat) (hm : P.follows .mixedOrders = true) (hB : Region.lexTailB .any l.toArray n = true)
    (h : wpQuiet P l.toArray (fun w' => ∃ p : Regrown, w' = grow (redrawn w p.d) p.os) (fun a' => ∀ w', (∃ p : Regrown, w' = grow (redrawn w p.d) p.os) → wpList P l.toArray Q (l.drop n) a' w') (l.take n) a) : (Code.region id l.toArray true).wp P Q a w := by
  simp only [Region.lexTailB, Bool.and_eq_true, decide_eq_true_eq] at hB
  obtain ⟨⟨⟨⟨hsel, hn⟩, hs⟩, hc⟩, hlex⟩ := hB
  have hn' : n < l.length := by simpa using hn
  have htl : (l.take n).length = n := by simp; omega
  have hdl : (l.drop n).length = l.toArray.size - n := by simp
  have inv0 : HeadInv .any l.toArray n (Array.replicate l.toArray.size false) :=
    ⟨by simp, fun j oj _ hl => (by rw [getD_replicate_false] at hl; cases hl), fun t _ ht => getD_in (by simpa using ht) (getD_replicate_false _ _)⟩
  have H := headAny_lex (md := .any) (g := l.toArray.size - n) hsel hs hc hn (l.take n) 0 _ a (fun j hj => by
    have hj' : j < n := by rw [htl] at hj; exact hj
    simp [hj']) (by simpa using htl) inv0 (by rw [htl]; exact hlex) h
  refine wp_region_any hm ?_
  have fin := headAny_sound (Q := Q) (g := l.toArray.size - n) (fun listed a' w' hw' hL => by
    have := wpAny_of_seq (md := .any) (Q' := Q) (l.drop n) n listed a' w' (fun j => by simp [List.getElem?_drop]) (by rw [hdl]; exact hL.1) (hL.2 w' hw')
    rwa [hdl] at this) _ _ _ { w with drawn := w.drawn + 1 } ⟨⟨w.drawn + 1, #[]⟩, by rw [grow_empty]; rfl⟩ H
  rw [htl, show l.toArray.size - n + n = l.toArray.size by omega] at fin
  exact fin
end Go.Proofs.Ythjfeanmgaidcaa
/- Slices of options; package dhcp: contracts of mayHaveValue, asksOrAnswers, mayBe. -/
namespace Go.Proofs.Ythjfeanmgaidcaa
open Go.RowKit Go.Sort
set_option linter.unusedVariables false

/-- A row of two cells reads as an option; its value lies in D. -/
def OpR (D : Nat → Prop) (k : IntKind) (w : World) (r : List Value) (o : Opn) : Prop := ∃ A n c, r = [.int k (o.1.toNat : Int), .slice A n c] ∧ Byt w A n c o.2 ∧ ∀ i, Lies A n i → D i
/-- A slice of options reads as os; all lies in D. -/
structure Opts (D : Nat → Prop) (k : IntKind) (w : World) (A : Option Addr) (n c : Nat) (os : List Opn) : Prop where
  len : os.length = n
  rws : ∃ rs : List (List Value), Rws 2 w A n c rs ∧ ∀ (i : Nat) (r : List Value) (o : Opn), rs[i]? = some r → os[i]? = some o → OpR D k w r o
  lies : ∀ i, Lies A n i → D i
section
variable {D D' : Nat → Prop} {k : IntKind} {w w' : World} {A : Option Addr} {n c : Nat} {os : List Opn} {r : List Value} {o : Opn}
theorem OpR.kept {F : Nat → Prop} (h : OpR D k w r o) (q : Kept F w w') (hF : ∀ i, D i → ¬ F i) : OpR D k w' r o := by
  obtain ⟨A, n, c, rfl, hb, hl⟩ := h
  exact ⟨A, n, c, rfl, hb.kept q (fun i hi => hF i (hl i hi)), hl⟩
theorem OpR.mono (h : OpR D k w r o) (hD : ∀ i, D i → D' i) : OpR D' k w r o := by
  obtain ⟨A, n, c, rfl, hb, hl⟩ := h
  exact ⟨A, n, c, rfl, hb, fun i hi => hD i (hl i hi)⟩
theorem OpR.two (h : OpR D k w r o) : r.length = 2 := by obtain ⟨A, n, c, rfl, _⟩ := h; rfl
theorem Opts.kept {F : Nat → Prop} (h : Opts D k w A n c os) (q : Kept F w w') (hF : ∀ i, D i → ¬ F i) : Opts D k w' A n c os := by
  obtain ⟨h1, ⟨rs, h2, h3⟩, h4⟩ := h
  exact ⟨h1, ⟨rs, h2.kept q (fun i hi => hF i (h4 i hi)), fun i r o hr ho => (h3 i r o hr ho).kept q hF⟩, h4⟩
theorem Opts.mono (h : Opts D k w A n c os) (hD : ∀ i, D i → D' i) : Opts D' k w A n c os := by
  obtain ⟨h1, ⟨rs, h2, h3⟩, h4⟩ := h
  exact ⟨h1, ⟨rs, h2, fun i r o hr ho => (h3 i r o hr ho).mono hD⟩, fun i hi => hD i (h4 i hi)⟩
theorem Opts.none (D : Nat → Prop) (k : IntKind) (w : World) : Opts D k w none 0 0 [] := ⟨rfl, ⟨[], Rws.none 2 w, fun i r o hr => by simp at hr⟩, fun i hi => absurd hi.1 (by omega)⟩
/-- The option at a place: its two cells. -/
theorem Opts.at (h : Opts D k w A n c os) {i : Nat} (hi : i < os.length) : ∃ b o A' m c', A = some ⟨b, o, Option.none⟩ ∧ Row w b (o + i * 2) [.int k (os[i].1.toNat : Int), .slice A' m c'] ∧ Byt w A' m c' os[i].2 ∧ (∀ j, Lies A' m j → D j) := by
  obtain ⟨h1, ⟨rs, h2, h3⟩, h4⟩ := h
  have hir : i < rs.length := by rw [h2.1, ← h1]; exact hi
  obtain ⟨b, o, e, hc⟩ := h2.2.2.2.2 (by omega)
  obtain ⟨A', m, c', hr, hb, hl⟩ := h3 i rs[i] os[i] (List.getElem?_eq_getElem hir) (List.getElem?_eq_getElem hi)
  refine ⟨b, o, A', m, c', e, fun j u hu => ?_, hb, hl⟩
  rw [← hr] at hu
  obtain ⟨hj, rfl⟩ := List.getElem?_eq_some_iff.1 hu
  exact hc i hir j hj
theorem Opts.lt (h : Opts D k w A n c os) : n ≤ c ∧ c ≤ 9223372036854775807 := by obtain ⟨h1, ⟨rs, h2, h3⟩, h4⟩ := h; exact ⟨h2.2.1, h2.2.2.1⟩
/-- The values below a bound that holds for all memory. -/
theorem Opts.bounded (h : Opts D k w A n c os) : Opts (fun i => D i ∧ i < w.heap.size) k w A n c os := by
  obtain ⟨h1, ⟨rs, h2, h3⟩, h4⟩ := h
  refine ⟨h1, ⟨rs, h2, fun i r o hr ho => ?_⟩, fun i hi => ⟨h4 i hi, h2.lt (by omega) i hi⟩⟩
  obtain ⟨A', m, c', e, hb, hl⟩ := h3 i r o hr ho
  exact ⟨A', m, c', e, hb, fun j hj => ⟨hl j hj, hb.lt j hj⟩⟩
end
/-- A message as it is handed: its slices read; they lie in D. -/
structure DhIn (D : Nat → Prop) (w : World) (h : Dh) (vo vb : Value) : Prop where
  ok : h.ok
  o : ∃ A n c, vo = .slice A n c ∧ Opts D .u8 w A n c h.os
  b : ∃ A n c, vb = .slice A n c ∧ Byt w A n c h.bh ∧ ∀ i, Lies A n i → D i
section
variable {D D' : Nat → Prop} {w w' : World} {h : Dh} {vo vb : Value}
theorem DhIn.kept {F : Nat → Prop} (a : DhIn D w h vo vb) (q : Kept F w w') (hF : ∀ i, D i → ¬ F i) : DhIn D w' h vo vb := by
  obtain ⟨A, n, c, e, ho⟩ := a.o
  obtain ⟨A', n', c', e', hb, hl⟩ := a.b
  exact ⟨a.ok, ⟨A, n, c, e, ho.kept q hF⟩, ⟨A', n', c', e', hb.kept q (fun i hi => hF i (hl i hi)), hl⟩⟩
theorem DhIn.nil (a : DhIn D w h vo vb) (q : Kept Nil w w') : DhIn D w' h vo vb := a.kept q (fun _ _ hf => hf)
theorem DhIn.mono (a : DhIn D w h vo vb) (hD : ∀ i, D i → D' i) : DhIn D' w h vo vb := by
  obtain ⟨A, n, c, e, ho⟩ := a.o
  obtain ⟨A', n', c', e', hb, hl⟩ := a.b
  exact ⟨a.ok, ⟨A, n, c, e, ho.mono hD⟩, ⟨A', n', c', e', hb, fun i hi => hD i (hl i hi)⟩⟩
theorem DhIn.one (a : DhIn D w h vo vb) : ∀ u ∈ dcs h vo vb, u.oneCell' = true := by
  obtain ⟨A, n, c, rfl, ho⟩ := a.o
  obtain ⟨A', n', c', rfl, hb, hl⟩ := a.b
  exact dcs_one rfl rfl
end
def hasD (c : UInt8) : Bool := decide (c ≠ 0 ∧ c ≠ 255)
theorem u8_eq (a b : UInt8) : ((a.toNat : Int) == (b.toNat : Int)) = decide (a = b) := by
  rw [Bool.eq_iff_iff]
  simp only [beq_iff_eq, decide_eq_true_eq]
  exact ⟨fun h => UInt8.toNat_inj.1 (by omega), fun h => by rw [h]⟩
theorem u8_ne (a b : UInt8) : ((a.toNat : Int) != (b.toNat : Int)) = decide (a ≠ b) := by
  have := u8_eq a b
  simp only [bne, this, decide_not]
theorem has_yes (c : UInt8) (w : World) : Calls Try.prog 52 #[.int .u8 (c.toNat : Int)] w fun e w' => e = .returned (.bool (hasD c)) ∧ w = w' := by
  have h0 : ((c.toNat : Int) != 0) = decide (c ≠ 0) := u8_ne c 0
  have h1 : ((c.toNat : Int) != 255) = decide (c ≠ 255) := u8_ne c 255
  have hh : hasD c = (decide (c ≠ 0) && decide (c ≠ 255)) := by unfold hasD; rw [Bool.eq_iff_iff]; simp
  by_cases hc : c = 0
  · have HH := Lib.hid (show hasD c = false by rw [hh]; simp [hc])
    rw [show decide (c ≠ 0) = false by simp [hc]] at h0
    clear hh hc h1
    go_enter Try.func52, Try.ntmps52
    go_wp2
    go_ret
    exact ⟨by rw [HH.out]; first | rfl | (rw [decide_not]; rfl), rfl⟩
  · have HH := Lib.hid (show hasD c = decide (c ≠ 255) by rw [hh]; simp [hc])
    rw [show decide (c ≠ 0) = true by simp [hc]] at h0
    clear hh hc
    go_enter Try.func52, Try.ntmps52
    go_wp2
    go_ret
    exact ⟨by rw [HH.out]; first | rfl | (rw [decide_not]; rfl), rfl⟩
theorem asks_yes (h : Dh) (hs : h.six) (vo vb : Value) (w : World) : Calls Try.prog 53 #[dhv h vo vb] w fun e w' => e = .returned (.bool (decide (h.op = 1 ∨ h.op = 2))) ∧ Kept Nil w w' := by
  have hP := DB.new w 33 h vo vb
  have hk := (Kept.refl Nil w).alloc (.cells (dcs h vo vb).toArray 33)
  go_enter Try.func53, Try.ntmps53
  go_upto_region 1 with (fail)
  refine wp_nameE (fun W => DB W w.heap.size 33 h vo vb ∧ Kept Nil w W) ⟨hP, hk⟩ ?_
  clear hP hk
  rintro W ⟨hP, hk⟩
  have c0 := hP.c0
  have HK := Lib.hid hk
  have e1 : ((h.op.toNat : Int) == 1) = decide (h.op = 1) := u8_eq h.op 1
  have e2 : ((h.op.toNat : Int) == 2) = decide (h.op = 2) := u8_eq h.op 2
  clear hP hk
  by_cases h1 : h.op = 1
  · have HH := Lib.hid (show decide (h.op = 1 ∨ h.op = 2) = true by simp [h1])
    rw [show decide (h.op = 1) = true by simp [h1]] at e1
    clear h1 e2
    go_wp2
    go_ret
    exact ⟨by rw [HH.out]; rfl, HK.out⟩
  · have HH := Lib.hid (show decide (h.op = 1 ∨ h.op = 2) = decide (h.op = 2) by simp [h1])
    rw [show decide (h.op = 1) = false by simp [h1]] at e1
    clear h1
    go_wp2
    go_ret
    exact ⟨by rw [HH.out]; rfl, HK.out⟩
end Go.Proofs.Ythjfeanmgaidcaa
