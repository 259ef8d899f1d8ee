/- Texts that belong together, one behind the other: TagA, Rec. Conditions: those of each. -/
import Derived.Test.YtbkjobmjapbmpaaMg10
import Derived.Test.YtbkjobmjapbmpaaMg8
import Derived.Test.YtbkjobmjapbmpaaMg1
import Derived.Laws.BitsAllLaws
import Derived.IntWalk
import Derived.Deep.DeepCutAuto
import Derived.Test.YtbkjobmjapbmpaaMg3
/- Package tag: a tag as plain data; contracts of what only computes: mayStand, word, tagOf, May of one tag, Plain. -/
namespace Go.Proofs.Ytbkjobmjapbmpaa
open Go.RowKit Go.Sort
set_option linter.unusedVariables false

/-- A tag: kind, priority, drop, number. -/
structure Tg where
  k : Nat
  p : Nat
  d : Bool
  n : Nat
  deriving DecidableEq
structure Tg.ok (t : Tg) : Prop where
  k : t.k < 65536
  p : t.p < 256
  n : t.n < 65536
def tgc (t : Tg) : List Value := [.int .u16 (t.k : Int), .int .u8 (t.p : Int), .bool t.d, .int .u16 (t.n : Int)]
def tgv (t : Tg) : Value := .agg #[.int .u16 (t.k : Int), .int .u8 (t.p : Int), .bool t.d, .int .u16 (t.n : Int)]
/-- Whether a kind may stand at a place. -/
def standM (k : Nat) (i : Int) : Bool := if i = 0 then k == 34984 || k == 33024 else if i = 1 then k == 33024 else false
def wordM (t : Tg) : Nat := (t.p * 8192 % 65536 ||| t.n) ||| (if t.d then 4096 else 0)
def tagOfM (k x : Nat) : Tg := ⟨k, x / 8192, decide (x &&& 4096 ≠ 0), x &&& 4095⟩
def mayT (t : Tg) : Bool := (t.k == 34984 || t.k == 33024) && (decide (t.p ≤ 7) && decide (t.n ≤ 4095))

theorem wordM_lt (t : Tg) (h : t.ok) : wordM t < 65536 := by
  unfold wordM
  have h1 : t.p * 8192 % 65536 < 2 ^ 16 := Nat.mod_lt _ (by decide)
  have h2 : t.n < 2 ^ 16 := h.n
  have h3 : (if t.d then 4096 else 0) < 2 ^ 16 := by split <;> decide
  exact Nat.or_lt_two_pow (Nat.or_lt_two_pow h1 h2) h3
theorem wordM_may (t : Tg) (h1 : t.p ≤ 7) (h2 : t.n ≤ 4095) : wordM t = t.p * 8192 + (if t.d then 4096 else 0) + t.n := by
  unfold wordM
  have e1 : t.p * 8192 % 65536 = t.p <<< 13 := by rw [Nat.shiftLeft_eq]; omega
  rw [e1]
  cases t.d
  · simp only [Bool.false_eq_true, ↓reduceIte, Nat.or_zero, Nat.add_zero]
    rw [← Nat.shiftLeft_add_eq_or_of_lt (show t.n < 2 ^ 13 by omega), Nat.shiftLeft_eq]
  · simp only [↓reduceIte]
    rw [Nat.or_assoc, Nat.or_comm t.n 4096, show (4096 : Nat) = 1 <<< 12 from rfl, ← Nat.shiftLeft_add_eq_or_of_lt (show t.n < 2 ^ 12 by omega), ← Nat.shiftLeft_add_eq_or_of_lt (show 1 <<< 12 + t.n < 2 ^ 13 by simp only [Nat.shiftLeft_eq]; omega)]
    simp only [Nat.shiftLeft_eq]
    omega
theorem and_4095 (x : Nat) : x &&& 4095 = x % 4096 := Nat.and_two_pow_sub_one_eq_mod x 12
theorem and_4096 (x : Nat) : decide (x &&& 4096 ≠ 0) = (x / 4096 % 2 == 1) := by
  have ht : x.testBit 12 = decide (x / 4096 % 2 = 1) := by rw [Nat.testBit_eq_decide_div_mod_eq]
  rcases Nat.mod_two_eq_zero_or_one (x / 4096) with h0 | h0
  · rw [h0] at ht ⊢
    have : x &&& 4096 = 0 := by
      apply Nat.eq_of_testBit_eq
      intro i
      rw [Nat.testBit_and, show (4096 : Nat) = 2 ^ 12 from rfl, Nat.testBit_two_pow, Nat.zero_testBit]
      by_cases hi : 12 = i
      · subst hi; rw [ht]; rfl
      · simp [hi]
    rw [this]; rfl
  · rw [h0] at ht ⊢
    have : x &&& 4096 ≠ 0 := by
      intro h
      have h1 : (x &&& 4096).testBit 12 = true := by
        rw [Nat.testBit_and, show (4096 : Nat) = 2 ^ 12 from rfl, Nat.testBit_two_pow, ht]; rfl
      rw [h, Nat.zero_testBit] at h1
      cases h1
    simp [this]
/-- What is laid is told again. -/
theorem tagOf_word (t : Tg) (h1 : t.p ≤ 7) (h2 : t.n ≤ 4095) : tagOfM t.k (wordM t) = t := by
  rcases t with ⟨k, p, d, n⟩
  simp only at h1 h2
  rw [wordM_may _ h1 h2]
  unfold tagOfM
  rw [and_4096, and_4095]
  cases d
  · simp only [Bool.false_eq_true, ↓reduceIte, Tg.mk.injEq, true_and]
    refine ⟨by omega, ?_, by omega⟩
    rw [show (p * 8192 + 0 + n) / 4096 % 2 = 0 by omega]
    rfl
  · simp only [↓reduceIte, Tg.mk.injEq, true_and]
    refine ⟨by omega, ?_, by omega⟩
    rw [show (p * 8192 + 4096 + n) / 4096 % 2 = 1 by omega]
    rfl
theorem tagOf_eq (t : Tg) (h : t.ok) : decide (t = tagOfM t.k (wordM t)) = (decide (t.p ≤ 7) && decide (t.n ≤ 4095)) := by
  rw [Bool.eq_iff_iff]
  simp only [decide_eq_true_eq, Bool.and_eq_true]
  constructor
  · intro he
    have hw := wordM_lt t h
    have e1 : t.p = wordM t / 8192 := congrArg Tg.p he
    have e2 : t.n = wordM t &&& 4095 := congrArg Tg.n he
    rw [and_4095] at e2
    omega
  · intro ⟨h1, h2⟩
    exact (tagOf_word t h1 h2).symm

theorem mayT_iff (t : Tg) : mayT t = true ↔ ((t.k = 34984 ∨ t.k = 33024) ∧ t.p ≤ 7 ∧ t.n ≤ 4095) := by
  simp [mayT]
theorem stand0 (k : Nat) : standM k 0 = (k == 34984 || k == 33024) := rfl
theorem stand1 (k : Nat) : standM k 1 = (k == 33024) := rfl

theorem stand_yes (k : Nat) (i : Int) (w : World) : Calls Try.prog 91 #[.int .u16 (k : Int), .int .i64 i] w fun e w' => e = .returned (.bool (standM k i)) ∧ w = w' := by
  by_cases h0 : i = 0
  · subst h0
    rw [stand0]
    have e1 : ((k : Int) == 34984) = (k == 34984) := by rw [Bool.eq_iff_iff]; simp; omega
    have e2 : ((k : Int) == 33024) = (k == 33024) := by rw [Bool.eq_iff_iff]; simp; omega
    cases h1 : (k == 34984) <;> cases h2 : (k == 33024) <;>
    · rw [h1] at e1
      rw [h2] at e2
      clear h1 h2
      go_enter Try.func91, Try.ntmps91
      go_wp2
      go_ret
      exact ⟨rfl, rfl⟩
  · have e0 : (i == 0) = false := by simpa using h0
    by_cases h1 : i = 1
    · subst h1
      rw [stand1]
      have e2 : ((k : Int) == 33024) = (k == 33024) := by rw [Bool.eq_iff_iff]; simp; omega
      cases h2 : (k == 33024) <;>
      · rw [h2] at e2
        clear h2
        go_enter Try.func91, Try.ntmps91
        go_wp2
        go_ret
        exact ⟨rfl, rfl⟩
    · have e1 : (i == 1) = false := by simpa using h1
      have hs : standM k i = false := by unfold standM; rw [if_neg h0, if_neg h1]
      rw [hs]
      clear hs h0 h1
      go_enter Try.func91, Try.ntmps91
      go_wp2
      go_ret
      exact ⟨rfl, rfl⟩

theorem ret_num {k : IntKind} {a b : Int} (h : a = b) : Ending.returned (.int k a) = .returned (.int k b) := by rw [h]
theorem word_yes (t : Tg) (h : t.ok) (w : World) : Calls Try.prog 108 #[tgv t] w fun e w' => e = .returned (.int .u16 (wordM t : Int)) ∧ Kept Nil w w' := by
  obtain ⟨k, p, d, n⟩ := t
  obtain ⟨hk, hp, hn⟩ := h
  simp only at hk hp hn
  have e1 : bits .or .u16 (IntKind.u16.wrap ((p : Int) * 8192)) (n : Int) = ((p * 8192 % 65536 ||| n : Nat) : Int) := by
    rw [← u16_or_nat _ _ (Nat.mod_lt _ (by decide)) hn, IntKind.wrap_u16]; rfl
  have hlt : p * 8192 % 65536 ||| n < 65536 := Nat.or_lt_two_pow (n := 16) (Nat.mod_lt _ (by decide)) hn
  have e2 : bits .or .u16 (bits .or .u16 (IntKind.u16.wrap ((p : Int) * 8192)) (n : Int)) 4096 = (((p * 8192 % 65536 ||| n) ||| 4096 : Nat) : Int) := by
    rw [e1, ← u16_or_nat _ _ hlt (by decide)]; rfl
  have E1 := Lib.hid e1
  have E2 := Lib.hid e2
  clear e1 e2 hlt
  cases d
  · go_enter Try.func108, Try.ntmps108
    unfold tgv
    go_wp2
    go_ret
    exact ⟨ret_num (by rw [E1.out]; simp [wordM]), (Kept.refl _ _).alloc _⟩
  · go_enter Try.func108, Try.ntmps108
    unfold tgv
    go_wp2
    go_ret
    exact ⟨ret_num (by rw [E2.out]; simp [wordM]), (Kept.refl _ _).alloc _⟩

theorem tagOf_yes (k x : Nat) (hk : k < 65536) (hx : x < 65536) (w : World) : Calls Try.prog 107 #[.int .u16 (k : Int), .int .u16 (x : Int)] w fun e w' => e = .returned (tgv (tagOfM k x)) ∧ Kept Nil w w' := by
  have e1 : IntKind.u8.wrap ((x : Int) / 8192) = ((x / 8192 : Nat) : Int) := by rw [IntKind.wrap_u8]; omega
  have e2 : bits .and .u16 (x : Int) 4095 = ((x &&& 4095 : Nat) : Int) := by rw [← u16_and_nat _ _ hx (by decide)]; rfl
  have e3 : (bits .and .u16 (x : Int) 4096 != 0) = decide (x &&& 4096 ≠ 0) := by
    rw [show bits .and .u16 (x : Int) 4096 = ((x &&& 4096 : Nat) : Int) from by rw [← u16_and_nat _ _ hx (by decide)]; rfl]
    rw [Bool.eq_iff_iff]
    simp
  have E1 := Lib.hid e1
  have E2 := Lib.hid e2
  have E3 := Lib.hid e3
  clear e1 e2 e3
  go_enter Try.func107, Try.ntmps107
  go_wp2
  refine bodyPost_ret (v := .agg #[.int .u16 (k : Int), .int .u8 ((x : Int) / 8192), .bool (bits .and .u16 (x : Int) 4096 != 0), .int .u16 (bits .and .u16 (x : Int) 4095)]) (by simp [results, Try.results107, go_sem]) rfl ⟨?_, (Kept.refl _ _).alloc _⟩
  rw [E2.out, E3.out]
  rfl

theorem plain_yes (x : Nat) (w : World) : Calls Try.prog 25 #[.int .u16 (x : Int)] w fun e w' => e = .returned (tgv ⟨33024, 0, false, x⟩) ∧ Kept Nil w w' := by
  go_enter Try.func25, Try.ntmps25
  go_wp2
  refine bodyPost_ret (v := tgv ⟨33024, 0, false, x⟩) (by simp [results, Try.results25, go_sem, tgv]) rfl ⟨rfl, (Kept.refl _ _).alloc _⟩

/-- Tags are told apart. -/
theorem eq_tag (t u : Tg) (w : World) : (Op.equalIn 10000 63 (tgv t) (tgv u)).run Try.prog w = .ok (decide (t = u)) w := by
  obtain ⟨k, p, d, n⟩ := t
  obtain ⟨k', p', d', n'⟩ := u
  unfold tgv
  rw [run_equalIn_struct w 9999 63 _ _ (by kernel_rfl) (by kernel_rfl)]
  simp only [Program.fieldsOf, Try.underlying63]
  have e1 : ((k : Int) == (k' : Int)) = decide (k = k') := by rw [Bool.eq_iff_iff]; simp; omega
  have e2 : ((p : Int) == (p' : Int)) = decide (p = p') := by rw [Bool.eq_iff_iff]; simp; omega
  have e3 : (d == d') = decide (d = d') := by cases d <;> cases d' <;> rfl
  have e4 : ((n : Int) == (n' : Int)) = decide (n = n') := by rw [Bool.eq_iff_iff]; simp; omega
  have hd : decide (({ k := k, p := p, d := d, n := n } : Tg) = { k := k', p := p', d := d', n := n' }) = (decide (k = k') && (decide (p = p') && (decide (d = d') && decide (n = n')))) := by
    rw [Bool.eq_iff_iff]; simp
  rw [hd]
  simp only [Op.eqFields, part, isAgg, Sem.run_bind, run_underlying Try.underlying24, run_underlying Try.underlying5, run_underlying Try.underlying4, go_sem]
  generalize decide (k = k') = b1 at e1 ⊢
  generalize decide (p = p') = b2 at e2 ⊢
  generalize decide (d = d') = b3 at e3 ⊢
  generalize decide (n = n') = b4 at e4 ⊢
  cases b1 <;> cases b2 <;> cases b3 <;> cases b4 <;>
    simp [run_equalIn_int _ _ _ _ _ _ _ Try.underlying24, run_equalIn_int _ _ _ _ _ _ _ Try.underlying5, run_equalIn_bool' _ _ _ _ _ Try.underlying4, e1, e2, e3, e4]

theorem tmay_yes (t : Tg) (h : t.ok) (w : World) : Calls Try.prog 90 #[tgv t] w fun e w' => e = .returned (.bool (mayT t)) ∧ Kept Nil w w' := by
  have hw := wordM_lt t h
  have he := tagOf_eq t h
  have hs := stand0 t.k
  have cs : ∀ u, Calls Try.prog _ _ u _ := stand_yes t.k 0
  have cw : ∀ u, Calls Try.prog _ _ u _ := word_yes t h
  have ct : ∀ u, Calls Try.prog _ _ u _ := tagOf_yes t.k (wordM t) h.k hw
  have Cs := Lib.hid cs
  have Cw := Lib.hid cw
  have Ct := Lib.hid ct
  obtain ⟨q, hq⟩ : ∃ q, tagOfM t.k (wordM t) = q := ⟨_, rfl⟩
  rw [hq] at he
  rw [hq] at Ct
  have HE := Lib.hid he
  clear cs cw ct hq he
  have hB := Blo.new w 63 (tgc t).toArray
  have hk := (Kept.refl Nil w).alloc (.cells (tgc t).toArray 63)
  have HB := Lib.hid hB
  have HK := Lib.hid hk
  have eqs := fun w => eq_tag t q w
  unfold tgv at eqs
  unfold tgv at Cw Ct
  clear hB hk
  cases hc : (t.k == 34984 || t.k == 33024)
  · rw [hc] at hs
    rw [hs] at Cs
    have hm : mayT t = false := by unfold mayT; rw [hc]; rfl
    rw [hm]
    clear hc hs hm
    go_enter Try.func90, Try.ntmps90
    unfold tgv
    go_wp2
    refine wp_region_quiet_below (by kernel_rfl) (by kernel_rfl) ?_
    have c0 := HB.out.gcell 0
    have c1 := HB.out.gcell 1
    have c2 := HB.out.gcell 2
    have c3 := HB.out.gcell 3
    simp [tgc] at c0 c1 c2 c3
    repeat (go_big_quiet_step (first | (with_reducible exact quietS (Cs.out _))))
    refine wpQuiet_nil ?_
    rintro wn ⟨nq, hw⟩
    have hk : Kept Nil w wn := by rw [hw]; exact HK.out.then (kept_grown _ _)
    clear hw
    have HK2 := Lib.hid hk
    clear hk
    go_wp2
    go_ret
    exact ⟨rfl, HK2.out⟩
  · rw [hc] at hs
    rw [hs] at Cs
    have hm : mayT t = decide (t = q) := by unfold mayT; rw [hc, HE.out]; rfl
    rw [hm]
    clear hc hs hm
    go_enter Try.func90, Try.ntmps90
    unfold tgv
    go_wp2
    refine wp_region_quiet_below (by kernel_rfl) (by kernel_rfl) ?_
    have c0 := HB.out.gcell 0
    have c1 := HB.out.gcell 1
    have c2 := HB.out.gcell 2
    have c3 := HB.out.gcell 3
    simp [tgc] at c0 c1 c2 c3
    repeat (go_big_quiet_step (first | (with_reducible exact quietS (Cs.out _)) | (with_reducible exact quietK (Cw.out _)) | (with_reducible exact quietK (Ct.out _))))
    refine wpQuiet_nil ?_
    rintro wn ⟨nq, hw⟩
    have hk : Kept Nil w wn := by rw [hw]; exact HK.out.then (kept_grown _ _)
    clear hw
    have HK2 := Lib.hid hk
    clear hk
    go_wp2
    go_ret
    exact ⟨rfl, HK2.out⟩
end Go.Proofs.Ytbkjobmjapbmpaa
/- Slices whose elements take several cells each: one word for all of them. Nothing of the program is named here. -/
namespace Go.Proofs.Ytbkjobmjapbmpaa
open Go.RowKit
set_option linter.unusedVariables false

/-- A slice of elements of s cells each reads as the rows rs. -/
def Rws (s : Nat) (w : World) (A : Option Addr) (n c : Nat) (rs : List (List Value)) : Prop :=
  rs.length = n ∧ n ≤ c ∧ c ≤ 9223372036854775807 ∧ (∀ r ∈ rs, r.length = s) ∧ (0 < n → ∃ b o, A = some ⟨b, o, none⟩ ∧ ∀ i (h : i < rs.length) j (hj : j < rs[i].length), w.cell? ⟨b, o + i * s + j, none⟩ = some rs[i][j])

theorem flat_len {s : Nat} {rs : List (List Value)} (h : ∀ r ∈ rs, r.length = s) : rs.flatten.length = rs.length * s := by
  induction rs with
  | nil => simp
  | cons r rs ih =>
    simp only [List.flatten_cons, List.length_append, List.length_cons]
    rw [h r (by simp), ih (fun r hr => h r (by simp [hr])), Nat.add_mul]
    omega
theorem flat_get {s : Nat} {rs : List (List Value)} (h : ∀ r ∈ rs, r.length = s) {i : Nat} (hi : i < rs.length) {j : Nat} (hj : j < rs[i].length) : rs.flatten[i * s + j]? = some rs[i][j] := by
  induction rs generalizing i with
  | nil => simp at hi
  | cons r rs ih =>
    have hr : r.length = s := h r (by simp)
    simp only [List.flatten_cons]
    cases i with
    | zero =>
      simp only [List.getElem_cons_zero] at hj ⊢
      rw [Nat.zero_mul, Nat.zero_add, List.getElem?_append_left hj, List.getElem?_eq_getElem hj]
    | succ i =>
      simp only [List.getElem_cons_succ] at hj ⊢
      rw [List.getElem?_append_right (by rw [hr, Nat.succ_mul]; omega), hr, show (i + 1) * s + j - s = i * s + j by rw [Nat.succ_mul]; omega]
      exact ih (fun r hr => h r (by simp [hr])) (by simpa using hi) hj
theorem flat_split {s : Nat} (hs : 0 < s) {rs : List (List Value)} (h : ∀ r ∈ rs, r.length = s) {q : Nat} {u : Value} (hq : rs.flatten[q]? = some u) : ∃ (i : Nat) (hi : i < rs.length) (j : Nat) (hj : j < rs[i].length), q = i * s + j ∧ u = rs[i][j] := by
  have hlt : q < rs.length * s := by rw [← flat_len h]; exact (List.getElem?_eq_some_iff.1 hq).1
  have hi : q / s < rs.length := (Nat.div_lt_iff_lt_mul hs).2 hlt
  have hj : q % s < rs[q / s].length := by rw [h _ (List.getElem_mem hi)]; exact Nat.mod_lt _ hs
  refine ⟨q / s, hi, q % s, hj, (by rw [Nat.mul_comm]; exact (Nat.div_add_mod q s).symm), ?_⟩
  have := flat_get h hi hj
  rw [show q / s * s + q % s = q by rw [Nat.mul_comm]; exact Nat.div_add_mod q s, hq] at this
  injection this

section
variable {s : Nat} {w w' : World} {A : Option Addr} {n c : Nat} {rs : List (List Value)}
theorem Rws.kept {F : Nat → Prop} (h : Rws s w A n c rs) (k : Kept F w w') (hF : ∀ i, Lies A n i → ¬ F i) : Rws s w' A n c rs := by
  refine ⟨h.1, h.2.1, h.2.2.1, h.2.2.2.1, fun hn => ?_⟩
  obtain ⟨b, o, rfl, hc⟩ := h.2.2.2.2 hn
  exact ⟨b, o, rfl, fun i hi j hj => k.cell (hc i hi j hj) (hF b ⟨hn, _, rfl, rfl⟩)⟩
theorem Rws.heap (h : Rws s w A n c rs) (e : w'.heap = w.heap) : Rws s w' A n c rs := by
  refine ⟨h.1, h.2.1, h.2.2.1, h.2.2.2.1, fun hn => ?_⟩
  obtain ⟨b, o, rfl, hc⟩ := h.2.2.2.2 hn
  exact ⟨b, o, rfl, fun i hi j hj => by have := hc i hi j hj; unfold World.cell? at this ⊢; rw [e]; exact this⟩
theorem Rws.none (s : Nat) (w : World) : Rws s w none 0 0 [] := ⟨rfl, Nat.le_refl _, by omega, fun _ h => by simp at h, fun h => absurd h (by omega)⟩
theorem Rws.lt (hs : 0 < s) (h : Rws s w A n c rs) : ∀ i, Lies A n i → i < w.heap.size := by
  rintro i ⟨hn, ad, rfl, rfl⟩
  obtain ⟨b, o, e, hc⟩ := h.2.2.2.2 hn
  have h0 : 0 < rs.length := by rw [h.1]; exact hn
  have := World.block_lt_of_cell? w _ (hc 0 h0 0 (by rw [h.2.2.2.1 _ (List.getElem_mem h0)]; exact hs))
  cases e
  exact this
theorem Rws.pre (h : Rws s w A n c rs) {hi : Nat} (h2 : hi ≤ n) : Rws s w A hi c (rs.take hi) := by
  obtain ⟨e1, e2, e3, e4, e5⟩ := h
  refine ⟨by simp; omega, by omega, e3, fun r hr => e4 r (List.mem_of_mem_take hr), fun hn => ?_⟩
  obtain ⟨b, o, rfl, hc⟩ := e5 (by omega)
  exact ⟨b, o, rfl, fun i hi' j hj => by simp at hi' hj ⊢; exact hc i (by omega) j hj⟩
/-- Where x[lo:] begins. -/
def cutS (s : Nat) (A : Option Addr) (c lo : Nat) : Option Addr := if c = lo then A else A.map (·.add (lo * s))
theorem Rws.cut (h : Rws s w A n c rs) {lo hi : Nat} (h1 : lo ≤ hi) (h2 : hi ≤ n) : Rws s w (cutS s A c lo) (hi - lo) (c - lo) ((rs.take hi).drop lo) := by
  obtain ⟨e1, e2, e3, e4, e5⟩ := h
  refine ⟨by simp; omega, by omega, by omega, fun r hr => e4 r (List.mem_of_mem_take (List.mem_of_mem_drop hr)), fun hn => ?_⟩
  obtain ⟨b, o, rfl, hc⟩ := e5 (by omega)
  refine ⟨b, o + lo * s, ?_, fun i hi' j hj => ?_⟩
  · unfold cutS
    rw [if_neg (by omega)]
    simp [Addr.add]
  · simp at hi' hj ⊢
    have := hc (lo + i) (by omega) j hj
    rw [show o + lo * s + i * s + j = o + (lo + i) * s + j by rw [Nat.add_mul]; omega]
    exact this
theorem Lies.cutS {lo m : Nat} : ∀ i, Lies (cutS s A c lo) m i → 0 < m ∧ ∃ ad, A = some ad ∧ ad.block = i := by
  rintro i ⟨hm, ad, e, rfl⟩
  unfold Go.Proofs.Ytbkjobmjapbmpaa.cutS at e
  refine ⟨hm, ?_⟩
  split at e
  · exact ⟨ad, e, rfl⟩
  · cases A with
    | none => cases e
    | some x =>
      simp at e
      subst e
      exact ⟨x, rfl, by unfold Addr.add; split <;> rfl⟩
theorem run_cutS {P : Program} {t e : TypeId} {i : TypeInfo} (ht : P.underlying t = some (.slice e)) (hin : P.info? e = some i) (hs : i.size = s) (A : Option Addr) (n c lo : Nat) (x : Int) (hx : x = (lo : Int)) (h1 : lo ≤ n) (w : World) :
    (Instr.slice t (.slice A n c) (some (.int .i64 x)) none none).run P w = .ok (.slice (cutS s A c lo) (n - lo) (c - lo)) w := by
  subst hx
  have g2 : (Instr.sliceBound (.int .i64 (lo : Int)) n .sliceB).run P w = .ok lo w := by simp [Instr.sliceBound, asIntOf, h1]
  simp [Instr.slice, run_underlying ht, Instr.sliceBounds, g2, sizeOf, typeInfo, hin, hs, cutS]
theorem Rws.of_own {base e : Nat} {v : Value} (hs : 0 < s) (hr : ∀ r ∈ rs, r.length = s) (h : w.ownsRow base e s v n rs.flatten) : ∃ A c, v = .slice A n c ∧ Rws s w A n c rs ∧ ∀ i, Lies A n i → base ≤ i := by
  obtain ⟨h1, h2⟩ := h
  have hl : rs.length = n := by
    rw [flat_len hr] at h1
    exact Nat.eq_of_mul_eq_mul_right hs h1
  rcases h2 with ⟨rfl, rfl⟩ | ⟨g, cap, cur, rfl, hb, hg, hnc, hm, hz, ht⟩
  · exact ⟨Option.none, 0, rfl, ⟨hl, Nat.le_refl _, by omega, hr, fun h => absurd h (by omega)⟩, fun i hi => absurd hi.1 (by omega)⟩
  · refine ⟨_, cap, rfl, ⟨hl, hnc, by simpa [maxLen] using hm, hr, fun _ => ⟨g, 0, rfl, fun i hi j hj => ?_⟩⟩, ?_⟩
    · have hu := flat_get hr hi hj
      rw [← ht, List.getElem?_take] at hu
      split at hu
      · have hB : Blo w g e cur := hg
        rw [Nat.zero_add, hB.cell]
        simpa using hu
      · cases hu
    · rintro i ⟨_, ad, e', rfl⟩
      cases e'
      exact hb
/-- What append asks of its source. -/
theorem Rws.news (hs : 0 < s) {ad : Addr} (h : Rws s w (some ad) n c rs) : ∀ j u, rs.flatten[j]? = some u → w.cell? (ad.add j) = some u := by
  intro q u hu
  obtain ⟨h1, h2, h3, h4, h5⟩ := h
  obtain ⟨i, hi, j, hj, rfl, rfl⟩ := flat_split hs h4 hu
  obtain ⟨b, o, e, hc⟩ := h5 (by omega)
  cases e
  have := hc i hi j hj
  unfold Addr.add
  split
  · rename_i h0; rw [Nat.add_assoc, h0] at this; simpa using this
  · rw [Nat.add_assoc] at this; exact this
/-- A literal slice. -/
theorem Rws.lit (w : World) (rs : List (List Value)) (t : TypeId) (hr : ∀ r ∈ rs, r.length = s) (h : rs.length ≤ 9223372036854775807) (cs : Array Value) (hc : cs = rs.flatten.toArray) (n : Nat) (hn : rs.length = n) (b : Nat) (hb : b = w.heap.size) : Rws s (w.alloc (.cells cs t)) (some ⟨b, 0, Option.none⟩) n n rs := by
  subst hn hc hb
  refine ⟨rfl, Nat.le_refl _, h, hr, fun _ => ⟨w.heap.size, 0, rfl, fun i hi j hj => ?_⟩⟩
  rw [(Blo.new w t _).cell, Nat.zero_add]
  simpa using flat_get hr hi hj
end

/-- A block known whole, told as a slice. -/
theorem rws_blo {s : Nat} {w : World} (rs : List (List Value)) (hr : ∀ r ∈ rs, r.length = s) (h : rs.length ≤ 9223372036854775807) {g : Nat} {t : TypeId} {cs : Array Value} (hb : Blo w g t cs) (hc : cs = rs.flatten.toArray) (n : Nat) (hn : rs.length = n) : Rws s w (some ⟨g, 0, Option.none⟩) n n rs := by
  subst hn hc
  refine ⟨rfl, Nat.le_refl _, h, hr, fun _ => ⟨g, 0, rfl, fun i hi j hj => ?_⟩⟩
  rw [hb.cell, Nat.zero_add]
  simpa using flat_get hr hi hj
/-- An append of rows, whether nil or not, onto a row of the call's own. -/
theorem run_appR {P : Program} {w : World} {s t ty e bytes : Nat} {i : TypeInfo} {z : Value} (ht : P.underlying t = some (.slice e)) (hi : P.info? e = some i) (hz : i.zero = some z) (hsize : i.size = s) (hby : i.bytes = bytes) (hzs : z.cells.size = s) (hs : 0 < s)
    {B : Nat} {v : Value} {n : Nat} {xs : List Value} (hown : w.ownsRow B e s v n xs) {A : Option Addr} {m c : Nat} {rs : List (List Value)} (h : Rws s w A m c rs) (h1 : ∀ u ∈ rs.flatten, u.oneCell' = true) (h63 : n + m ≤ maxLen) (hb : (n + m) * bytes ≤ 140737488355328) (hB : B ≤ w.heap.size) :
    ∃ v' w', (Builtin.append_ #[t, t] ty #[v, .slice A m c]).run P w = .ok v' w' ∧ w'.ownsRow B e s v' (n + m) (xs ++ rs.flatten) ∧ w.grownBy w' v.ownBlock ∧ (v'.ownBlock = v.ownBlock ∨ v'.ownBlock = some w.heap.size) := by
  cases A with
  | some ad =>
    obtain ⟨v', w', g1, g2, g3, _, g5⟩ := run_append_own_at (P := P) w B t ty e i z s bytes ht hi hz hsize hby hzs hs v n xs hown ad m c rs.flatten (by rw [flat_len h.2.2.2.1, h.1]) (h.news hs) h1 h63 hb hB
    exact ⟨v', w', g1, g2, g3, g5⟩
  | none =>
    have hm : m = 0 := by
      rcases Nat.eq_zero_or_pos m with h0 | h0
      · exact h0
      · obtain ⟨b, o, e, _⟩ := h.2.2.2.2 h0; cases e
    subst hm
    have hl : rs = [] := List.eq_nil_of_length_eq_zero h.1
    subst hl
    refine ⟨v, w, ?_, by simpa using hown, ⟨rfl, rfl, rfl, Nat.le_refl _, fun _ _ _ => rfl⟩, .inl rfl⟩
    rcases hown.2 with ⟨rfl, rfl⟩ | ⟨g, cap, cur, rfl, _, _, hnc, _⟩
    · simp [Builtin.append_, run_underlying ht, sizeOf, typeInfo, hi, Builtin.lenOf, Builtin.firstCells]
    · simp [Builtin.append_, run_underlying ht, sizeOf, typeInfo, hi, Builtin.lenOf, Builtin.firstCells, hnc, storeCells]
theorem wpList_appR {P : Program} {w : World} {ops : Array Oper} {rest : List Oper} {o : Oper} {a : Act} {Q : Exit → Act → World → Prop} (hgd : o.guard = none) (sl x : Operand) (t : TypeId)
    (ho : o.op = .call { callee := .builtin .append, args := #[sl, x], argTypes := #[t, t] }) (s B e bytes : Nat) (i : TypeInfo) (z : Value) (ht : P.underlying t = some (.slice e)) (hi : P.info? e = some i) (hz : i.zero = some z) (hsize : i.size = s) (hby : i.bytes = bytes) (hzs : z.cells.size = s) (hs0 : 0 < s)
    (v : Value) (n : Nat) (xs : List Value) (hs : a.eval sl = v) (hown : w.ownsRow B e s v n xs) (A : Option Addr) (m c : Nat) (rs : List (List Value)) (hx : a.eval x = .slice A m c) (hl : Rws s w A m c rs) (h1 : ∀ u ∈ rs.flatten, u.oneCell' = true) (h63 : n + m ≤ maxLen) (hb : (n + m) * bytes ≤ 140737488355328) (hB : B ≤ w.heap.size)
    (h : ∀ v' w', w'.ownsRow B e s v' (n + m) (xs ++ rs.flatten) → w.grownBy w' v.ownBlock → (v'.ownBlock = v.ownBlock ∨ v'.ownBlock = some w.heap.size) → wpList P ops Q rest (a.put o.dst v') w') : wpList P ops Q (o :: rest) a w := by
  refine wpList_plain hgd fun K hK => ?_
  obtain ⟨v', w', hr, h2, h3, h5⟩ := run_appR (P := P) (ty := o.type) ht hi hz hsize hby hzs hs0 hown hl h1 h63 hb hB
  unfold Oper.wp execOp
  simp only [ho, resolve, invoke, builtin, Sem.run_bind, Sem.run_pure, Result.andThen_ok, List.map_toArray, List.map_cons, List.map_nil, hs, hx, hr]
  exact hK _ _ (h v' w' h2 h3 h5)
end Go.Proofs.Ytbkjobmjapbmpaa
