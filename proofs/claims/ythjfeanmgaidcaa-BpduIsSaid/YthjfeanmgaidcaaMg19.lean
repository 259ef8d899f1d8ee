/- Texts that belong together, one behind the other: BpS, TagA. Conditions: those of each. -/
import Derived.Test.YthjfeanmgaidcaaMg18
import Derived.Test.YthjfeanmgaidcaaMg13
import Derived.Test.YthjfeanmgaidcaaMg8
import Derived.Test.YthjfeanmgaidcaaMg1
import Derived.Laws.BitsAllLaws
import Derived.IntWalk
import Derived.Deep.DeepCutAuto
/- Package bpdu: cut short; what is read is laid. Plain. -/
namespace Go.Proofs.Ythjfeanmgaidcaa
open Go.RowKit Go.Sort
set_option linter.unusedVariables false

theorem get_less (b : List UInt8) (h : b.length < 4) : getB b = (Bp.zero, 4) := by unfold getB; rw [if_pos h]
theorem get_cut (m : Bp) (hm : m.ok) (hy : mayB m = true) (k : Nat) (hk : k < (forB m).length) : getB ((forB m).take k) = (Bp.zero, 4) := by
  by_cases h4 : k < 4
  · exact get_less _ (by rw [List.length_take]; omega)
  rcases may_kd m hy with rfl | ⟨h13, hag⟩
  · have e : (forB Bp.chg).length = 4 := by decide +kernel
    omega
  · obtain ⟨j, rfl⟩ : ∃ j, k = 4 + j := ⟨k - 4, by omega⟩
    rcases h13 with h1 | h1
    · have e : forB m = [0, 0, 0, 0] ++ fldB m := by
        rw [forB_1 m h1, show beM 4 0 = [0, 0, 0, 0] by decide]
        simp
      rw [e] at hk ⊢
      rw [List.length_append, fldB_len] at hk
      rw [show (4 + j) = ([0, 0, 0, 0] : List UInt8).length + j from rfl, List.take_length_add_append]
      unfold getB
      rw [if_neg (by simp only [List.length_append, List.length_cons]; omega), if_neg (by simp [sgB, numM]), if_neg (by simp [sgB, numM]), if_pos (by simp [sgB, numM])]
      unfold finB
      rw [if_pos (by rw [List.length_append, List.length_take, fldB_len]; simp at hk ⊢; omega)]
    · have e : forB m = [0, 0, 2, 2] ++ (fldB m ++ [0]) := by
        rw [forB_3 m h1, show beM 4 514 = [0, 0, 2, 2] by decide]
        simp
      rw [e] at hk ⊢
      rw [List.length_append, List.length_append, fldB_len] at hk
      rw [show (4 + j) = ([0, 0, 2, 2] : List UInt8).length + j from rfl, List.take_length_add_append]
      unfold getB
      rw [if_neg (by simp only [List.length_append, List.length_cons]; omega), if_neg (by simp [sgB, numM]), if_neg (by simp [sgB, numM]), if_neg (by simp [sgB, numM]), if_pos (by simp [sgB, numM])]
      unfold finB
      rw [if_pos (by rw [List.length_append, List.length_take, List.length_append, fldB_len]; simp at hk ⊢; omega)]
theorem seg_cat (l : List UInt8) (lo mid hi : Nat) (h1 : lo ≤ mid) (h2 : mid ≤ hi) (h3 : hi ≤ l.length) : (l.take mid).drop lo ++ (l.take hi).drop mid = (l.take hi).drop lo := by
  have e : l.take mid = (l.take hi).take mid := by rw [List.take_take, Nat.min_eq_left h2]
  rw [e]
  generalize ht : l.take hi = t
  have hl : t.length = hi := by rw [← ht, List.length_take]; omega
  conv => rhs; rw [← List.take_append_drop mid t]
  rw [List.drop_append_of_le_length (by rw [List.length_take]; omega)]
theorem be_seg (b : List UInt8) (lo hi W : Nat) (h : hi ≤ b.length) (hW : hi - lo = W) : beM W (sgB b lo hi) = (b.take hi).drop lo := by
  unfold sgB
  exact be_num _ W (by rw [List.length_drop, List.length_take]; omega)
theorem fld_rd (k : Int) (b : List UInt8) (h : 35 ≤ b.length) : fldB (rdB k b) = (b.take 35).drop 4 := by
  unfold fldB rdB
  simp only
  rw [be_seg b 4 5 1 (by omega) rfl, be_seg b 5 13 8 (by omega) rfl, be_seg b 13 17 4 (by omega) rfl, be_seg b 17 25 8 (by omega) rfl, be_seg b 25 27 2 (by omega) rfl, be_seg b 27 29 2 (by omega) rfl, be_seg b 29 31 2 (by omega) rfl, be_seg b 31 33 2 (by omega) rfl, be_seg b 33 35 2 (by omega) rfl]
  rw [seg_cat b 31 33 35 (by omega) (by omega) h, seg_cat b 29 31 35 (by omega) (by omega) h, seg_cat b 27 29 35 (by omega) (by omega) h, seg_cat b 25 27 35 (by omega) (by omega) h, seg_cat b 17 25 35 (by omega) (by omega) h, seg_cat b 13 17 35 (by omega) (by omega) h, seg_cat b 5 13 35 (by omega) (by omega) h, seg_cat b 4 5 35 (by omega) (by omega) h]
theorem fourB_of (b : List UInt8) (h : 4 ≤ b.length) (x0 x1 x2 x3 : UInt8) (h0 : sgB b 0 1 = x0.toNat) (h1 : sgB b 1 2 = x1.toNat) (h2 : sgB b 2 3 = x2.toNat) (h3 : sgB b 3 4 = x3.toNat) : b.take 4 = [x0, x1, x2, x3] := by
  match b, h with
  | y0 :: y1 :: y2 :: y3 :: r, _ =>
    simp [sgB, numM] at h0 h1 h2 h3
    have e0 := UInt8.toNat_inj.1 h0
    have e1 := UInt8.toNat_inj.1 h1
    have e2 := UInt8.toNat_inj.1 h2
    have e3 := UInt8.toNat_inj.1 h3
    subst e0 e1 e2 e3
    rfl
theorem put_got (b : List UInt8) (h : (getB b).2 = 0) : mayB (getB b).1 = true ∧ forB (getB b).1 = b.take (forB (getB b).1).length ∧ (forB (getB b).1).length ≤ b.length := by
  unfold getB at h ⊢
  by_cases h4 : b.length < 4
  · rw [if_pos h4] at h; cases h
  rw [if_neg h4] at h ⊢
  by_cases h01 : sgB b 0 1 ≠ 0 ∨ sgB b 1 2 ≠ 0
  · rw [if_pos h01] at h; cases h
  rw [if_neg h01] at h ⊢
  have z0 : sgB b 0 1 = 0 := by omega
  have z1 : sgB b 1 2 = 0 := by omega
  by_cases hc : sgB b 2 3 = 0 ∧ sgB b 3 4 = 128
  · rw [if_pos hc]
    have e := fourB_of b (by omega) 0 0 0 128 z0 z1 hc.1 hc.2
    have e2 : forB Bp.chg = [0, 0, 0, 128] := by decide +kernel
    refine ⟨by decide, ?_, ?_⟩
    · show forB Bp.chg = b.take (forB Bp.chg).length
      rw [e2]
      exact e.symm
    · show (forB Bp.chg).length ≤ _
      rw [e2]
      show 4 ≤ _
      omega
  rw [if_neg hc] at h ⊢
  have hfin : ∀ k many, (k = 1 ∧ many = 35 ∧ b.take 4 = [0, 0, 0, 0]) ∨ (k = 3 ∧ many = 36 ∧ b.take 4 = [0, 0, 2, 2]) → (finB k many b).2 = 0 → mayB (finB k many b).1 = true ∧ forB (finB k many b).1 = b.take (forB (finB k many b).1).length ∧ (forB (finB k many b).1).length ≤ b.length := by
    intro k many hkm h
    unfold finB at h ⊢
    by_cases hl : b.length < many
    · rw [if_pos hl] at h; cases h
    rw [if_neg hl] at h ⊢
    by_cases hb : (rdB k b).ma ≤ (rdB k b).ag ∨ (many = 36 ∧ sgB b 35 36 ≠ 0)
    · rw [if_pos hb] at h; cases h
    rw [if_neg hb]
    show mayB (rdB k b) = true ∧ forB (rdB k b) = b.take (forB (rdB k b)).length ∧ (forB (rdB k b)).length ≤ b.length
    have hag : (rdB k b).ag < (rdB k b).ma := by omega
    have h35 : 35 ≤ b.length := by rcases hkm with ⟨_, rfl, _⟩ | ⟨_, rfl, _⟩ <;> omega
    have hfl := fld_rd k b h35
    have h40 : b.take 4 = (b.take 4).drop 0 := rfl
    rcases hkm with ⟨rfl, rfl, e4⟩ | ⟨rfl, rfl, e4⟩
    · have hf : forB (rdB 1 b) = b.take 35 := by
        rw [forB_1 (rdB 1 b) rfl, show beM 4 0 = [0, 0, 0, 0] by decide, List.nil_append, ← e4, hfl, h40, seg_cat b 0 4 35 (by omega) (by omega) h35]
        rfl
      have hln : (forB (rdB 1 b)).length = 35 := by rw [hf, List.length_take]; omega
      refine ⟨?_, by rw [hln, hf], by rw [hln]; exact h35⟩
      unfold mayB
      rw [if_pos (.inl rfl)]
      exact decide_eq_true hag
    · have h36 : 36 ≤ b.length := by omega
      have hz : sgB b 35 36 = 0 := by
        rcases Nat.eq_zero_or_pos (sgB b 35 36) with h | h
        · exact h
        · exact absurd (.inr ⟨rfl, by omega⟩) hb
      have h0 : [0] = (b.take 36).drop 35 := by
        have := be_seg b 35 36 1 h36 rfl
        rw [hz] at this
        rw [← this]
        decide
      have hf : forB (rdB 3 b) = b.take 36 := by
        rw [forB_3 (rdB 3 b) rfl, show beM 4 514 = [0, 0, 2, 2] by decide, List.nil_append, ← e4, hfl, h0, h40, seg_cat b 0 4 35 (by omega) (by omega) h35, seg_cat b 0 35 36 (by omega) (by omega) h36]
        rfl
      have hln : (forB (rdB 3 b)).length = 36 := by rw [hf, List.length_take]; omega
      refine ⟨?_, by rw [hln, hf], by rw [hln]; exact h36⟩
      unfold mayB
      rw [if_pos (.inr rfl)]
      exact decide_eq_true hag
  by_cases hz : sgB b 2 3 = 0 ∧ sgB b 3 4 = 0
  · rw [if_pos hz] at h ⊢
    exact hfin 1 35 (.inl ⟨rfl, rfl, fourB_of b (by omega) 0 0 0 0 z0 z1 hz.1 hz.2⟩) h
  rw [if_neg hz] at h ⊢
  by_cases hr : sgB b 2 3 = 2 ∧ sgB b 3 4 = 2
  · rw [if_pos hr] at h ⊢
    exact hfin 3 36 (.inr ⟨rfl, rfl, fourB_of b (by omega) 0 0 2 2 z0 z1 hr.1 hr.2⟩) h
  · rw [if_neg hr] at h; cases h
end Go.Proofs.Ythjfeanmgaidcaa
/- Package tag: a tag as plain data; contracts of what only computes: mayStand, word, tagOf, May of one tag, Plain. -/
namespace Go.Proofs.Ythjfeanmgaidcaa
open Go.RowKit Go.Sort
set_option linter.unusedVariables false

/-- A tag: kind, priority, drop, number. -/
structure Tg where
  k : Nat
  p : Nat
  d : Bool
  n : Nat
  deriving DecidableEq
structure Tg.ok (t : Tg) : Prop where
  k : t.k < 65536
  p : t.p < 256
  n : t.n < 65536
def tgc (t : Tg) : List Value := [.int .u16 (t.k : Int), .int .u8 (t.p : Int), .bool t.d, .int .u16 (t.n : Int)]
def tgv (t : Tg) : Value := .agg #[.int .u16 (t.k : Int), .int .u8 (t.p : Int), .bool t.d, .int .u16 (t.n : Int)]
/-- Whether a kind may stand at a place. -/
def standM (k : Nat) (i : Int) : Bool := if i = 0 then k == 34984 || k == 33024 else if i = 1 then k == 33024 else false
def wordM (t : Tg) : Nat := (t.p * 8192 % 65536 ||| t.n) ||| (if t.d then 4096 else 0)
def tagOfM (k x : Nat) : Tg := ⟨k, x / 8192, decide (x &&& 4096 ≠ 0), x &&& 4095⟩
def mayT (t : Tg) : Bool := (t.k == 34984 || t.k == 33024) && (decide (t.p ≤ 7) && decide (t.n ≤ 4095))

theorem wordM_lt (t : Tg) (h : t.ok) : wordM t < 65536 := by
  unfold wordM
  have h1 : t.p * 8192 % 65536 < 2 ^ 16 := Nat.mod_lt _ (by decide)
  have h2 : t.n < 2 ^ 16 := h.n
  have h3 : (if t.d then 4096 else 0) < 2 ^ 16 := by split <;> decide
  exact Nat.or_lt_two_pow (Nat.or_lt_two_pow h1 h2) h3
theorem wordM_may (t : Tg) (h1 : t.p ≤ 7) (h2 : t.n ≤ 4095) : wordM t = t.p * 8192 + (if t.d then 4096 else 0) + t.n := by
  unfold wordM
  have e1 : t.p * 8192 % 65536 = t.p <<< 13 := by rw [Nat.shiftLeft_eq]; omega
  rw [e1]
  cases t.d
  · simp only [Bool.false_eq_true, ↓reduceIte, Nat.or_zero, Nat.add_zero]
    rw [← Nat.shiftLeft_add_eq_or_of_lt (show t.n < 2 ^ 13 by omega), Nat.shiftLeft_eq]
  · simp only [↓reduceIte]
    rw [Nat.or_assoc, Nat.or_comm t.n 4096, show (4096 : Nat) = 1 <<< 12 from rfl, ← Nat.shiftLeft_add_eq_or_of_lt (show t.n < 2 ^ 12 by omega), ← Nat.shiftLeft_add_eq_or_of_lt (show 1 <<< 12 + t.n < 2 ^ 13 by simp only [Nat.shiftLeft_eq]; omega)]
    simp only [Nat.shiftLeft_eq]
    omega
theorem and_4095 (x : Nat) : x &&& 4095 = x % 4096 := Nat.and_two_pow_sub_one_eq_mod x 12
theorem and_4096 (x : Nat) : decide (x &&& 4096 ≠ 0) = (x / 4096 % 2 == 1) := by
  have ht : x.testBit 12 = decide (x / 4096 % 2 = 1) := by rw [Nat.testBit_eq_decide_div_mod_eq]
  rcases Nat.mod_two_eq_zero_or_one (x / 4096) with h0 | h0
  · rw [h0] at ht ⊢
    have : x &&& 4096 = 0 := by
      apply Nat.eq_of_testBit_eq
      intro i
      rw [Nat.testBit_and, show (4096 : Nat) = 2 ^ 12 from rfl, Nat.testBit_two_pow, Nat.zero_testBit]
      by_cases hi : 12 = i
      · subst hi; rw [ht]; rfl
      · simp [hi]
    rw [this]; rfl
  · rw [h0] at ht ⊢
    have : x &&& 4096 ≠ 0 := by
      intro h
      have h1 : (x &&& 4096).testBit 12 = true := by
        rw [Nat.testBit_and, show (4096 : Nat) = 2 ^ 12 from rfl, Nat.testBit_two_pow, ht]; rfl
      rw [h, Nat.zero_testBit] at h1
      cases h1
    simp [this]
/-- What is laid is told again. -/
theorem tagOf_word (t : Tg) (h1 : t.p ≤ 7) (h2 : t.n ≤ 4095) : tagOfM t.k (wordM t) = t := by
  rcases t with ⟨k, p, d, n⟩
  simp only at h1 h2
  rw [wordM_may _ h1 h2]
  unfold tagOfM
  rw [and_4096, and_4095]
  cases d
  · simp only [Bool.false_eq_true, ↓reduceIte, Tg.mk.injEq, true_and]
    refine ⟨by omega, ?_, by omega⟩
    rw [show (p * 8192 + 0 + n) / 4096 % 2 = 0 by omega]
    rfl
  · simp only [↓reduceIte, Tg.mk.injEq, true_and]
    refine ⟨by omega, ?_, by omega⟩
    rw [show (p * 8192 + 4096 + n) / 4096 % 2 = 1 by omega]
    rfl
theorem tagOf_eq (t : Tg) (h : t.ok) : decide (t = tagOfM t.k (wordM t)) = (decide (t.p ≤ 7) && decide (t.n ≤ 4095)) := by
  rw [Bool.eq_iff_iff]
  simp only [decide_eq_true_eq, Bool.and_eq_true]
  constructor
  · intro he
    have hw := wordM_lt t h
    have e1 : t.p = wordM t / 8192 := congrArg Tg.p he
    have e2 : t.n = wordM t &&& 4095 := congrArg Tg.n he
    rw [and_4095] at e2
    omega
  · intro ⟨h1, h2⟩
    exact (tagOf_word t h1 h2).symm

theorem mayT_iff (t : Tg) : mayT t = true ↔ ((t.k = 34984 ∨ t.k = 33024) ∧ t.p ≤ 7 ∧ t.n ≤ 4095) := by
  simp [mayT]
theorem stand0 (k : Nat) : standM k 0 = (k == 34984 || k == 33024) := rfl
theorem stand1 (k : Nat) : standM k 1 = (k == 33024) := rfl

theorem stand_yes (k : Nat) (i : Int) (w : World) : Calls Try.prog 70 #[.int .u16 (k : Int), .int .i64 i] w fun e w' => e = .returned (.bool (standM k i)) ∧ w = w' := by
  by_cases h0 : i = 0
  · subst h0
    rw [stand0]
    have e1 : ((k : Int) == 34984) = (k == 34984) := by rw [Bool.eq_iff_iff]; simp; omega
    have e2 : ((k : Int) == 33024) = (k == 33024) := by rw [Bool.eq_iff_iff]; simp; omega
    cases h1 : (k == 34984) <;> cases h2 : (k == 33024) <;>
    · rw [h1] at e1
      rw [h2] at e2
      clear h1 h2
      go_enter Try.func70, Try.ntmps70
      go_wp2
      go_ret
      exact ⟨rfl, rfl⟩
  · have e0 : (i == 0) = false := by simpa using h0
    by_cases h1 : i = 1
    · subst h1
      rw [stand1]
      have e2 : ((k : Int) == 33024) = (k == 33024) := by rw [Bool.eq_iff_iff]; simp; omega
      cases h2 : (k == 33024) <;>
      · rw [h2] at e2
        clear h2
        go_enter Try.func70, Try.ntmps70
        go_wp2
        go_ret
        exact ⟨rfl, rfl⟩
    · have e1 : (i == 1) = false := by simpa using h1
      have hs : standM k i = false := by unfold standM; rw [if_neg h0, if_neg h1]
      rw [hs]
      clear hs h0 h1
      go_enter Try.func70, Try.ntmps70
      go_wp2
      go_ret
      exact ⟨rfl, rfl⟩

theorem ret_num {k : IntKind} {a b : Int} (h : a = b) : Ending.returned (.int k a) = .returned (.int k b) := by rw [h]
theorem word_yes (t : Tg) (h : t.ok) (w : World) : Calls Try.prog 82 #[tgv t] w fun e w' => e = .returned (.int .u16 (wordM t : Int)) ∧ Kept Nil w w' := by
  obtain ⟨k, p, d, n⟩ := t
  obtain ⟨hk, hp, hn⟩ := h
  simp only at hk hp hn
  have e1 : bits .or .u16 (IntKind.u16.wrap ((p : Int) * 8192)) (n : Int) = ((p * 8192 % 65536 ||| n : Nat) : Int) := by
    rw [← u16_or_nat _ _ (Nat.mod_lt _ (by decide)) hn, IntKind.wrap_u16]; rfl
  have hlt : p * 8192 % 65536 ||| n < 65536 := Nat.or_lt_two_pow (n := 16) (Nat.mod_lt _ (by decide)) hn
  have e2 : bits .or .u16 (bits .or .u16 (IntKind.u16.wrap ((p : Int) * 8192)) (n : Int)) 4096 = (((p * 8192 % 65536 ||| n) ||| 4096 : Nat) : Int) := by
    rw [e1, ← u16_or_nat _ _ hlt (by decide)]; rfl
  have E1 := Lib.hid e1
  have E2 := Lib.hid e2
  clear e1 e2 hlt
  cases d
  · go_enter Try.func82, Try.ntmps82
    unfold tgv
    go_wp2
    go_ret
    exact ⟨ret_num (by rw [E1.out]; simp [wordM]), (Kept.refl _ _).alloc _⟩
  · go_enter Try.func82, Try.ntmps82
    unfold tgv
    go_wp2
    go_ret
    exact ⟨ret_num (by rw [E2.out]; simp [wordM]), (Kept.refl _ _).alloc _⟩

theorem tagOf_yes (k x : Nat) (hk : k < 65536) (hx : x < 65536) (w : World) : Calls Try.prog 81 #[.int .u16 (k : Int), .int .u16 (x : Int)] w fun e w' => e = .returned (tgv (tagOfM k x)) ∧ Kept Nil w w' := by
  have e1 : IntKind.u8.wrap ((x : Int) / 8192) = ((x / 8192 : Nat) : Int) := by rw [IntKind.wrap_u8]; omega
  have e2 : bits .and .u16 (x : Int) 4095 = ((x &&& 4095 : Nat) : Int) := by rw [← u16_and_nat _ _ hx (by decide)]; rfl
  have e3 : (bits .and .u16 (x : Int) 4096 != 0) = decide (x &&& 4096 ≠ 0) := by
    rw [show bits .and .u16 (x : Int) 4096 = ((x &&& 4096 : Nat) : Int) from by rw [← u16_and_nat _ _ hx (by decide)]; rfl]
    rw [Bool.eq_iff_iff]
    simp
  have E1 := Lib.hid e1
  have E2 := Lib.hid e2
  have E3 := Lib.hid e3
  clear e1 e2 e3
  go_enter Try.func81, Try.ntmps81
  go_wp2
  refine bodyPost_ret (v := .agg #[.int .u16 (k : Int), .int .u8 ((x : Int) / 8192), .bool (bits .and .u16 (x : Int) 4096 != 0), .int .u16 (bits .and .u16 (x : Int) 4095)]) (by simp [results, Try.results81, go_sem]) rfl ⟨?_, (Kept.refl _ _).alloc _⟩
  rw [E2.out, E3.out]
  rfl

theorem plain_yes (x : Nat) (w : World) : Calls Try.prog 20 #[.int .u16 (x : Int)] w fun e w' => e = .returned (tgv ⟨33024, 0, false, x⟩) ∧ Kept Nil w w' := by
  go_enter Try.func20, Try.ntmps20
  go_wp2
  refine bodyPost_ret (v := tgv ⟨33024, 0, false, x⟩) (by simp [results, Try.results20, go_sem, tgv]) rfl ⟨rfl, (Kept.refl _ _).alloc _⟩

/-- Tags are told apart. -/
theorem eq_tag (t u : Tg) (w : World) : (Op.equalIn 10000 67 (tgv t) (tgv u)).run Try.prog w = .ok (decide (t = u)) w := by
  obtain ⟨k, p, d, n⟩ := t
  obtain ⟨k', p', d', n'⟩ := u
  unfold tgv
  rw [run_equalIn_struct w 9999 67 _ _ (by kernel_rfl) (by kernel_rfl)]
  simp only [Program.fieldsOf, Try.underlying67]
  have e1 : ((k : Int) == (k' : Int)) = decide (k = k') := by rw [Bool.eq_iff_iff]; simp; omega
  have e2 : ((p : Int) == (p' : Int)) = decide (p = p') := by rw [Bool.eq_iff_iff]; simp; omega
  have e3 : (d == d') = decide (d = d') := by cases d <;> cases d' <;> rfl
  have e4 : ((n : Int) == (n' : Int)) = decide (n = n') := by rw [Bool.eq_iff_iff]; simp; omega
  have hd : decide (({ k := k, p := p, d := d, n := n } : Tg) = { k := k', p := p', d := d', n := n' }) = (decide (k = k') && (decide (p = p') && (decide (d = d') && decide (n = n')))) := by
    rw [Bool.eq_iff_iff]; simp
  rw [hd]
  simp only [Op.eqFields, part, isAgg, Sem.run_bind, run_underlying Try.underlying23, run_underlying Try.underlying5, run_underlying Try.underlying4, go_sem]
  generalize decide (k = k') = b1 at e1 ⊢
  generalize decide (p = p') = b2 at e2 ⊢
  generalize decide (d = d') = b3 at e3 ⊢
  generalize decide (n = n') = b4 at e4 ⊢
  cases b1 <;> cases b2 <;> cases b3 <;> cases b4 <;>
    simp [run_equalIn_int _ _ _ _ _ _ _ Try.underlying23, run_equalIn_int _ _ _ _ _ _ _ Try.underlying5, run_equalIn_bool' _ _ _ _ _ Try.underlying4, e1, e2, e3, e4]

theorem tmay_yes (t : Tg) (h : t.ok) (w : World) : Calls Try.prog 69 #[tgv t] w fun e w' => e = .returned (.bool (mayT t)) ∧ Kept Nil w w' := by
  have hw := wordM_lt t h
  have he := tagOf_eq t h
  have hs := stand0 t.k
  have cs : ∀ u, Calls Try.prog _ _ u _ := stand_yes t.k 0
  have cw : ∀ u, Calls Try.prog _ _ u _ := word_yes t h
  have ct : ∀ u, Calls Try.prog _ _ u _ := tagOf_yes t.k (wordM t) h.k hw
  have Cs := Lib.hid cs
  have Cw := Lib.hid cw
  have Ct := Lib.hid ct
  obtain ⟨q, hq⟩ : ∃ q, tagOfM t.k (wordM t) = q := ⟨_, rfl⟩
  rw [hq] at he
  rw [hq] at Ct
  have HE := Lib.hid he
  clear cs cw ct hq he
  have hB := Blo.new w 67 (tgc t).toArray
  have hk := (Kept.refl Nil w).alloc (.cells (tgc t).toArray 67)
  have HB := Lib.hid hB
  have HK := Lib.hid hk
  have eqs := fun w => eq_tag t q w
  unfold tgv at eqs
  unfold tgv at Cw Ct
  clear hB hk
  cases hc : (t.k == 34984 || t.k == 33024)
  · rw [hc] at hs
    rw [hs] at Cs
    have hm : mayT t = false := by unfold mayT; rw [hc]; rfl
    rw [hm]
    clear hc hs hm
    go_enter Try.func69, Try.ntmps69
    unfold tgv
    go_wp2
    refine wp_region_quiet_below (by kernel_rfl) (by kernel_rfl) ?_
    have c0 := HB.out.gcell 0
    have c1 := HB.out.gcell 1
    have c2 := HB.out.gcell 2
    have c3 := HB.out.gcell 3
    simp [tgc] at c0 c1 c2 c3
    repeat (go_big_quiet_step (first | (with_reducible exact quietS (Cs.out _))))
    refine wpQuiet_nil ?_
    rintro wn ⟨nq, hw⟩
    have hk : Kept Nil w wn := by rw [hw]; exact HK.out.then (kept_grown _ _)
    clear hw
    have HK2 := Lib.hid hk
    clear hk
    go_wp2
    go_ret
    exact ⟨rfl, HK2.out⟩
  · rw [hc] at hs
    rw [hs] at Cs
    have hm : mayT t = decide (t = q) := by unfold mayT; rw [hc, HE.out]; rfl
    rw [hm]
    clear hc hs hm
    go_enter Try.func69, Try.ntmps69
    unfold tgv
    go_wp2
    refine wp_region_quiet_below (by kernel_rfl) (by kernel_rfl) ?_
    have c0 := HB.out.gcell 0
    have c1 := HB.out.gcell 1
    have c2 := HB.out.gcell 2
    have c3 := HB.out.gcell 3
    simp [tgc] at c0 c1 c2 c3
    repeat (go_big_quiet_step (first | (with_reducible exact quietS (Cs.out _)) | (with_reducible exact quietK (Cw.out _)) | (with_reducible exact quietK (Ct.out _))))
    refine wpQuiet_nil ?_
    rintro wn ⟨nq, hw⟩
    have hk : Kept Nil w wn := by rw [hw]; exact HK.out.then (kept_grown _ _)
    clear hw
    have HK2 := Lib.hid hk
    clear hk
    go_wp2
    go_ret
    exact ⟨rfl, HK2.out⟩
end Go.Proofs.Ythjfeanmgaidcaa
