/- Package tag: slices of tags; contracts of May and of the library's Equal and Clone of tags. -/
import Derived.Test.YtbkjobmjapbmpaaTagA
import Derived.Test.YtbkjobmjapbmpaaRec
namespace Go.Proofs.Ytbkjobmjapbmpaa
open Go.RowKit Go.Sort
set_option linter.unusedVariables false

/-- A slice of tags reads as l. -/
def Tags (w : World) (A : Option Addr) (n c : Nat) (l : List Tg) : Prop := Rws 4 w A n c (l.map tgc) ∧ ∀ t ∈ l, t.ok
section
variable {w w' : World} {A : Option Addr} {n c : Nat} {l : List Tg}
theorem Tags.len (h : Tags w A n c l) : l.length = n := by simpa using h.1.1
theorem Tags.kept {F : Nat → Prop} (h : Tags w A n c l) (k : Kept F w w') (hF : ∀ i, Lies A n i → ¬ F i) : Tags w' A n c l := ⟨h.1.kept k hF, h.2⟩
theorem Tags.nil (w : World) : Tags w none 0 0 [] := ⟨Rws.none 4 w, fun _ h => by simp at h⟩
theorem tgc_len (l : List Tg) : ∀ r ∈ l.map tgc, r.length = 4 := by
  intro r hr
  simp only [List.mem_map] at hr
  obtain ⟨t, _, rfl⟩ := hr
  rfl
theorem tgc_one (l : List Tg) : ∀ u ∈ (l.map tgc).flatten, u.oneCell' = true := by
  intro u hu
  simp only [List.mem_flatten, List.mem_map] at hu
  obtain ⟨r, ⟨t, _, rfl⟩, hr⟩ := hu
  simp only [tgc, List.mem_cons, List.not_mem_nil, or_false] at hr
  rcases hr with rfl | rfl | rfl | rfl <;> rfl
theorem Tags.at (h : Tags w A n c l) {i : Nat} (hi : i < l.length) : ∃ b o, A = some ⟨b, o, none⟩ ∧ w.cell? ⟨b, o + i * 4, none⟩ = some (.int .u16 (l[i].k : Int)) ∧ w.cell? ⟨b, o + i * 4 + 1, none⟩ = some (.int .u8 (l[i].p : Int)) ∧
    w.cell? ⟨b, o + i * 4 + 2, none⟩ = some (.bool l[i].d) ∧ w.cell? ⟨b, o + i * 4 + 3, none⟩ = some (.int .u16 (l[i].n : Int)) := by
  have hl := h.len
  obtain ⟨b, o, e, hc⟩ := h.1.2.2.2.2 (by omega)
  have hc := hc i (by simpa using hi)
  simp only [List.getElem_map] at hc
  exact ⟨b, o, e, hc 0 (by simp [tgc]), hc 1 (by simp [tgc]), hc 2 (by simp [tgc]), hc 3 (by simp [tgc])⟩
theorem Tags.cells {b o : Nat} (h : Tags w (some ⟨b, o, none⟩) n c l) {i : Nat} (hi : i < l.length) : w.cell? ⟨b, o + i * 4, none⟩ = some (.int .u16 (l[i].k : Int)) ∧ w.cell? ⟨b, o + i * 4 + 1, none⟩ = some (.int .u8 (l[i].p : Int)) ∧
    w.cell? ⟨b, o + i * 4 + 2, none⟩ = some (.bool l[i].d) ∧ w.cell? ⟨b, o + i * 4 + 3, none⟩ = some (.int .u16 (l[i].n : Int)) := by
  obtain ⟨b', o', e, h1⟩ := h.at hi
  cases e
  exact h1
theorem Tags.lt (h : Tags w A n c l) : ∀ i, Lies A n i → i < w.heap.size := h.1.lt (by omega)
theorem Tags.of_own {base e : Nat} {v : Value} (h : w.ownsRow base e 4 v n (l.map tgc).flatten) (hok : ∀ t ∈ l, t.ok) : ∃ A c, v = .slice A n c ∧ Tags w A n c l ∧ ∀ i, Lies A n i → base ≤ i := by
  obtain ⟨A, c, e, hr, hi⟩ := Rws.of_own (by omega) (tgc_len l) h
  exact ⟨A, c, e, ⟨hr, hok⟩, hi⟩
end

/-- Whether tags may be a stack, from a place on. -/
def mayFrom (i : Nat) : List Tg → Bool
  | [] => true
  | t :: l => mayT t && standM t.k (i : Int) && mayFrom (i + 1) l
def mayL (l : List Tg) : Bool := mayFrom 0 l
theorem mayFrom_take (l : List Tg) (i k : Nat) (hk : k < l.length) : mayFrom i (l.take (k + 1)) = (mayFrom i (l.take k) && (mayT l[k] && standM l[k].k ((i + k : Nat) : Int))) := by
  induction l generalizing i k with
  | nil => simp at hk
  | cons t l ih =>
    cases k with
    | zero => simp [mayFrom]
    | succ k =>
      simp only [List.take_succ_cons, mayFrom, List.getElem_cons_succ]
      rw [ih (i + 1) k (by simpa using hk), show i + 1 + k = i + (k + 1) by omega]
      simp [Bool.and_assoc]
theorem mayFrom_false (l : List Tg) (i k : Nat) (h : mayFrom i (l.take k) = false) : mayFrom i l = false := by
  induction l generalizing i k with
  | nil => simp [mayFrom] at h
  | cons t l ih =>
    cases k with
    | zero => simp [mayFrom] at h
    | succ k =>
      simp only [List.take_succ_cons, mayFrom, Bool.and_eq_false_iff] at h ⊢
      rcases h with h | h
      · exact .inl h
      · exact .inr (ih _ _ h)
theorem mayL_iff (l : List Tg) : mayL l = true ↔ (l = [] ∨ (∃ t, l = [t] ∧ mayT t = true) ∨ (∃ t u, l = [t, u] ∧ mayT t = true ∧ mayT u = true ∧ u.k = 33024)) := by
  have h0 : ∀ t : Tg, mayT t = true → standM t.k 0 = true := fun t h => by
    rw [mayT_iff] at h; rw [stand0]; simpa using h.1
  have h2 : ∀ (k i : Nat), 2 ≤ i → standM k (i : Int) = false := fun k i hi => by
    unfold standM; rw [if_neg (by omega), if_neg (by omega)]
  match l with
  | [] => simp [mayL, mayFrom]
  | [t] =>
    constructor
    · intro h
      exact .inr (.inl ⟨t, rfl, by simp [mayL, mayFrom] at h; exact h.1⟩)
    · rintro (h | ⟨u, h, hm⟩ | ⟨_, _, h, _⟩)
      · cases h
      · cases h
        simp [mayL, mayFrom, hm, h0 t hm]
      · simp at h
  | [t, u] =>
    constructor
    · intro h
      simp [mayL, mayFrom, stand1] at h
      exact .inr (.inr ⟨t, u, rfl, h.1.1, h.2.1, h.2.2⟩)
    · rintro (h | ⟨_, h, _⟩ | ⟨t', u', h, h1, h2, h3⟩)
      · cases h
      · simp at h
      · cases h
        simp [mayL, mayFrom, stand1, h1, h2, h3, h0 t h1]
  | t :: u :: v :: l =>
    constructor
    · intro h
      have h3 := h2 v.k 2 (by omega)
      simp only [mayL, mayFrom, Nat.zero_add, Nat.reduceAdd, h3, Bool.and_false, Bool.false_and] at h
      cases h
    · rintro (h | ⟨_, h, _⟩ | ⟨_, _, h, _⟩) <;> simp at h

set_option maxHeartbeats 1000000 in
theorem may_yes (A : Option Addr) (n c : Nat) (l : List Tg) (w : World) (h : Tags w A n c l) :
    Calls Try.prog 61 #[.slice A n c] w fun e w' => e = .returned (.bool (mayL l)) ∧ Kept Nil w w' := by
  have hnc := h.1.2.1
  have hcc := h.1.2.2.1
  have hlen := h.len
  go_enter Try.func61, Try.ntmps61
  go_wp2
  go_loopw [7] (fun i wr => ∃ k : Nat, k ≤ n ∧ i = .int .i64 (k : Int) ∧ mayFrom 0 (l.take k) = true ∧ Kept Nil w wr) (fun i _ => n - (intOf i).toNat)
  case atStart => exact ⟨0, Nat.zero_le _, rfl, rfl, Kept.refl _ _⟩
  case round =>
    obtain ⟨k, hk, rfl, hm, hkp⟩ := hrel
    by_cases hlt : k < n
    · have hkl : k < l.length := by omega
      obtain ⟨b, o, rfl, q0, q1, q2, q3⟩ := (h.kept hkp (fun _ _ hf => hf)).at hkl
      have hok := h.2 _ (List.getElem_mem hkl)
      have hmt := mayFrom_take l 0 k hkl
      rw [hm, Nat.zero_add, Bool.true_and] at hmt
      generalize ht : l[k] = t at *
      have HK := Lib.hid hkp
      have HT := Lib.hid ht
      have HM := Lib.hid hmt
      have cm : ∀ u, Calls Try.prog _ _ u _ := tmay_yes t hok
      have cst : ∀ u, Calls Try.prog _ _ u _ := stand_yes t.k (k : Int)
      unfold tgv at cm
      have Cm := Lib.hid cm
      have Cs := Lib.hid cst
      clear hkp ht cm cst hm hmt
      have hB := Blo.new wr 63 #[.int .u16 (t.k : Int), .int .u8 (t.p : Int), .bool t.d, .int .u16 (t.n : Int)]
      have HB := Lib.hid hB
      clear hB
      go_wp2_with fail
      refine (Cm.out _).mono ?_
      rintro e w1 ⟨rfl, hk1⟩
      have c0 := (HB.out.kept hk1 (fun hf => hf)).cell 0
      simp at c0
      have HK1 := Lib.hid (HK.out.trans (((Kept.refl Nil wr).alloc _).then hk1) (fun _ _ hf => hf))
      clear hk1
      cases hmt : mayT t
      · have hf : mayL l = false := mayFrom_false l 0 (k + 1) (by rw [HM.out, hmt]; rfl)
        have HF := Lib.hid hf
        clear hf hmt hlen
        go_wp2
        go_ret
        exact ⟨by rw [HF.out]; rfl, HK1.out⟩
      · cases hst : standM t.k (k : Int)
        · have hf : mayL l = false := mayFrom_false l 0 (k + 1) (by rw [HM.out, hmt, hst]; rfl)
          rw [hst] at Cs
          have HF := Lib.hid hf
          clear hf hmt hlen hst
          go_wp2_with fail
          refine (Cs.out _).mono ?_
          rintro e w2 ⟨rfl, rfl⟩
          go_wp2
          go_ret
          exact ⟨by rw [HF.out]; rfl, HK1.out⟩
        · have hf : mayFrom 0 (l.take (k + 1)) = true := by rw [HM.out, hmt, hst]; rfl
          rw [hst] at Cs
          have HF := Lib.hid hf
          clear hf hmt hlen hst
          go_wp2_with fail
          refine (Cs.out _).mono ?_
          rintro e w2 ⟨rfl, rfl⟩
          go_wp2
          go_roundw
          case rel => exact ⟨k + 1, by omega, by go_num, HF.out, HK1.out⟩
          case measure => simp [intOf]; omega
    · have hfull : l.take k = l := List.take_of_length_le (by omega)
      rw [hfull] at hm
      have HM := Lib.hid hm
      have HK := Lib.hid hkp
      clear hm hkp hfull hlen
      go_wp2
      go_ret
      exact ⟨by show _ = Ending.returned (.bool (mayFrom 0 l)); rw [HM.out]; rfl, HK.out⟩

/-- Cell by cell: what stands at a place of two rows. -/
theorem eq_at (l l' : List Tg) (k : Nat) (hk : k < l.length) (hl : l.length = l'.length) (h : l.take k = l'.take k) : (l.take (k + 1) = l'.take (k + 1) ↔ l[k] = l'[k]) := by
  rw [List.take_succ_eq_append_getElem hk, List.take_succ_eq_append_getElem (l := l') (by omega), h]
  exact ⟨fun e => by have := List.append_cancel_left e; injection this, fun e => by rw [e]⟩

theorem Try.inft : (Try.prog.info? 63).map (fun i => (i.zero, i.size, i.bytes)) = some (some (tgv ⟨0, 0, false, 0⟩), 4, 6) := by kernel_rfl
theorem inft4 : Try.prog.info? 63 = some ((Try.prog.info? 63).getD default) ∧ ((Try.prog.info? 63).getD default).size = 4 := ⟨by kernel_rfl, by kernel_rfl⟩
/-- Tags in new memory. -/
def MadeT (w w' : World) (v : Value) (l : List Tg) : Prop := w'.ownsRow w.heap.size 63 4 v l.length (l.map tgc).flatten ∧ Kept Nil w w'

end Go.Proofs.Ytbkjobmjapbmpaa
