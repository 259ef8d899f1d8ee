/- An address's text read from the left, number by number, in plain words. Nothing of the program is named here. -/
import Derived.Test.YtflhbidmjlfjkaaDoorInT
namespace Go.Proofs.YtflhbidmjlfjkaaDoor
set_option linter.unusedVariables false

/-- The digits that stand in front, four of them at most. -/
def runD (l : List UInt8) : List UInt8 := (l.take 4).takeWhile isDig
theorem run_stop (l : List UInt8) (j : Nat) (hj : j ≤ 4) (hl : j ≤ l.length) (hd : ∀ a ∈ l.take j, isDig a = true) (hs : j = l.length ∨ j = 4 ∨ ∃ x, l[j]? = some x ∧ isDig x = false) : runD l = l.take j := by
  unfold runD
  have e : l.take 4 = l.take j ++ (l.drop j).take (4 - j) := by
    conv => lhs; rw [show 4 = j + (4 - j) by omega, List.take_add]
  rw [e, List.takeWhile_append_of_pos hd]
  have : ((l.drop j).take (4 - j)).takeWhile isDig = [] := by
    rcases hs with h | h | ⟨x, h, hx⟩
    · rw [List.drop_of_length_le (by omega)]; simp
    · rw [h]; simp
    · obtain ⟨hk, rfl⟩ := List.getElem?_eq_some_iff.1 h
      rw [List.drop_eq_getElem_cons hk]
      cases 4 - j with
      | zero => simp
      | succ m => rw [List.take_succ_cons, List.takeWhile_cons, hx]; rfl
  rw [this, List.append_nil]
theorem run_pre (l : List UInt8) : l = runD l ++ l.drop (runD l).length := by
  have h1 : runD l <+: l := (List.takeWhile_prefix _).trans (List.take_prefix _ _)
  obtain ⟨r, hr⟩ := h1
  have h2 := congrArg (List.drop (runD l).length) hr
  rw [List.drop_left] at h2
  rw [← h2, hr]
theorem run_dig (l : List UInt8) : ∀ a ∈ runD l, isDig a = true := by
  intro a ha
  have := List.all_takeWhile (p := isDig) (l := l.take 4)
  rw [List.all_eq_true] at this
  exact this a ha
theorem run_len (l : List UInt8) : (runD l).length ≤ 4 := by
  have h : (runD l).length ≤ (l.take 4).length := (List.takeWhile_prefix isDig).length_le
  rw [List.length_take] at h
  omega
theorem run_lay (a r : List UInt8) (ha : ∀ x ∈ a, isDig x = true) (hl : a.length ≤ 4) (hr : ∀ x, r.head? = some x → isDig x = false) : runD (a ++ r) = a := by
  have h := run_stop (a ++ r) a.length hl (by simp) (by simpa using ha) (by
    cases r with
    | nil => left; simp
    | cons x r => right; right; exact ⟨x, by simp, hr x rfl⟩)
  simpa using h
theorem num_dig_all {l : List UInt8} {n : Nat} (h : numT l = some n) : (∀ x ∈ l, isDig x = true) ∧ l.length ≤ 3 := by
  unfold numT at h
  split at h
  · rename_i hc
    exact ⟨List.all_eq_true.1 hc.2.2.1, hc.2.1⟩
  · cases h
/-- What stands behind a point in front. -/
def afterDot : List UInt8 → Option (List UInt8)
  | [] => none
  | a :: r => if a = dot then some r else none
/-- A number in front and a point, and what stands behind. -/
def headN (l : List UInt8) : Option (Nat × List UInt8) :=
  match numT (runD l) with
  | none => none
  | some n => match afterDot (l.drop (runD l).length) with
    | none => none
    | some r => some (n, r)
theorem dot_dig : isDig dot = false := by decide
theorem after_some {l r : List UInt8} (h : afterDot l = some r) : l = dot :: r := by
  cases l with
  | nil => cases h
  | cons a l =>
    simp only [afterDot] at h
    by_cases ha : a = dot
    · rw [if_pos ha] at h; simp at h; rw [ha, h]
    · rw [if_neg ha] at h; cases h
theorem head_upTo (l : List UInt8) : headN l = match upTo dot l with
    | (a, some r) => match numT a with
      | some n => some (n, r)
      | none => none
    | (a, none) => none := by
  have key1 : ∀ n r, headN l = some (n, r) → upTo dot l = (runD l, some r) ∧ numT (runD l) = some n := by
    intro n r h
    unfold headN at h
    split at h
    · cases h
    · rename_i m hm
      split at h
      · cases h
      · rename_i r' hr
        simp only [Option.some.injEq, Prod.mk.injEq] at h
        obtain ⟨rfl, rfl⟩ := h
        refine ⟨?_, hm⟩
        have e := run_pre l
        rw [after_some hr] at e
        have := upTo_app dot (runD l) r' (fun a ha he => by
          have := run_dig l a ha
          rw [he, dot_dig] at this
          cases this)
        rw [← e] at this
        exact this
  have key2 : ∀ a n r, upTo dot l = (a, some r) → numT a = some n → headN l = some (n, r) := by
    intro a n r hu hn
    have e := upTo_some hu
    obtain ⟨hd, hl⟩ := num_dig_all hn
    have hr : runD l = a := by
      rw [e]
      exact run_lay a _ hd (by omega) (fun x hx => by simp at hx; rw [← hx]; exact dot_dig)
    unfold headN
    rw [hr, hn]
    simp only
    have : l.drop a.length = dot :: r := by rw [e]; simp
    rw [this]
    simp [afterDot]
  rcases hu : upTo dot l with ⟨a, _ | r⟩
  · simp only
    cases hh : headN l with
    | none => rfl
    | some p =>
      obtain ⟨n, r⟩ := p
      have := (key1 n r hh).1
      rw [hu] at this
      simp at this
  · simp only
    cases hn : numT a with
    | some n => simp only; exact key2 a n r hu hn
    | none =>
      simp only
      cases hh : headN l with
      | none => rfl
      | some p =>
        obtain ⟨n, r'⟩ := p
        obtain ⟨h1, h2⟩ := key1 n r' hh
        rw [hu] at h1
        simp only [Prod.mk.injEq] at h1
        rw [← h1.1, hn] at h2
        cases h2
theorem end_num (l : List UInt8) : numT l = match numT (runD l) with
    | none => none
    | some n => if l.drop (runD l).length = [] then some n else none := by
  have key : ∀ n, numT l = some n → runD l = l := by
    intro n hn
    obtain ⟨hd, hl⟩ := num_dig_all hn
    have := run_lay l [] hd (by omega) (fun x hx => by simp at hx)
    simpa using this
  by_cases he : l.drop (runD l).length = []
  · have e := run_pre l
    rw [he, List.append_nil] at e
    rw [← e]
    cases numT l with
    | none => rfl
    | some n => simp
  · have hn : numT l = none := by
      cases hn : numT l with
      | none => rfl
      | some n =>
        rw [key n hn] at he
        simp at he
    rw [hn]
    cases numT (runD l) with
    | none => rfl
    | some n => simp only [if_neg he]
/-- How many numbers are left, what was read, what is left to read. -/
def partsM : Nat → Nat → List UInt8 → Option Nat
  | 0, ip, r => if r = [] then some ip else none
  | k + 1, ip, r => match (if k = 3 then some r else afterDot r) with
    | none => none
    | some r => match numT (runD r) with
      | none => none
      | some n => partsM k (256 * ip + n) (r.drop (runD r).length)
theorem four_parts (s : List UInt8) : fourT s = partsM 4 0 s := by
  have hf : fourT s = match headN s with
      | some (a, s1) => match headN s1 with
        | some (b, s2) => match headN s2 with
          | some (c, s3) => match numT s3 with
            | some d => some (a * 16777216 + b * 65536 + c * 256 + d)
            | none => none
          | none => none
        | none => none
      | none => none := by
    unfold fourT
    rw [head_upTo s]
    rcases upTo dot s with ⟨a, _ | s1⟩
    · rfl
    · simp only
      rcases hb : upTo dot s1 with ⟨b, _ | s2⟩
      · simp only
        cases numT a with
        | none => rfl
        | some n => simp only; rw [head_upTo s1, hb]
      · simp only
        rcases hc : upTo dot s2 with ⟨c, _ | s3⟩
        · simp only
          cases numT a with
          | none => rfl
          | some n =>
            simp only; rw [head_upTo s1, hb]; simp only
            cases numT b with
            | none => rfl
            | some n => simp only; rw [head_upTo s2, hc]
        · simp only
          cases numT a with
          | none => rfl
          | some n =>
            simp only; rw [head_upTo s1, hb]; simp only
            cases numT b with
            | none => rfl
            | some n =>
              simp only; rw [head_upTo s2, hc]; simp only
              cases numT c with
              | none => rfl
              | some n => simp only; cases numT s3 <;> rfl
  rw [hf]
  unfold headN
  simp only [partsM, if_true]
  cases numT (runD s) with
  | none => rfl
  | some a =>
    simp only [show ((2 : Nat) = 3) = False by simp, if_false]
    cases afterDot (s.drop (runD s).length) with
    | none => rfl
    | some s1 =>
      simp only
      cases numT (runD s1) with
      | none => rfl
      | some b =>
        simp only [show ((1 : Nat) = 3) = False by simp, if_false]
        cases afterDot (s1.drop (runD s1).length) with
        | none => rfl
        | some s2 =>
          simp only
          cases numT (runD s2) with
          | none => rfl
          | some c =>
            simp only [show ((0 : Nat) = 3) = False by simp, if_false]
            cases afterDot (s2.drop (runD s2).length) with
            | none => rfl
            | some s3 =>
              simp only
              rw [end_num s3]
              cases numT (runD s3) with
              | none => rfl
              | some d =>
                by_cases he : s3.drop (runD s3).length = []
                · simp only [if_pos he, Option.some.injEq]; omega
                · simp only [if_neg he]
theorem num_run (l : List UInt8) : numT (runD l) = if runD l = [] ∨ (1 < (runD l).length ∧ (runD l).headD 0 = 48) ∨ 255 < valD (runD l) then none else some (valD (runD l)) := by
  have h4 := run_len l
  have hd := run_dig l
  have hall : (runD l).all isDig = true := List.all_eq_true.2 hd
  generalize runD l = t at *
  unfold numT
  by_cases hc : t = [] ∨ (1 < t.length ∧ t.headD 0 = 48) ∨ 255 < valD t
  · rw [if_pos hc, if_neg]
    rintro ⟨h1, h3, -, hz, hv⟩
    rcases hc with rfl | ⟨hc, he⟩ | hc
    · simp at h1
    · rcases hz with hz | hz
      · omega
      · exact hz he
    · omega
  · rw [if_neg hc, if_pos]
    simp only [not_or, not_and] at hc
    obtain ⟨c1, c2, c3⟩ := hc
    have l0 : 1 ≤ t.length := by cases t with | nil => simp at c1 | cons a t => simp
    refine ⟨l0, ?_, hall, ?_, by omega⟩
    · by_cases hlt : t.length ≤ 3
      · exact hlt
      · exfalso
        match t, (show t.length = 4 by omega) with
        | [a, b, c, d], _ =>
          have h0 := c2 (by simp)
          have ha := hd a (by simp)
          simp only [isDig, decide_eq_true_eq] at ha
          simp only [List.headD_cons] at h0
          have hne : a.toNat ≠ 48 := fun h => h0 (UInt8.toNat_inj.1 h)
          have e : valD [a, b, c, d] = 10 * (10 * (10 * (a.toNat - 48) + (b.toNat - 48)) + (c.toNat - 48)) + (d.toNat - 48) := by simp [valD]
          rw [e] at c3
          omega
    · by_cases h1 : t.length = 1
      · exact .inl h1
      · exact .inr (c2 (by omega))
theorem val_snoc (l : List UInt8) (x : UInt8) : valD (l ++ [x]) = 10 * valD l + (x.toNat - 48) := by
  unfold valD
  rw [List.foldl_append]
  rfl
theorem val_take (l : List UInt8) (j : Nat) (x : UInt8) (h : l[j]? = some x) : valD (l.take (j + 1)) = 10 * valD (l.take j) + (x.toNat - 48) := by
  rw [List.take_add_one, h]
  exact val_snoc _ _
theorem val_lt (l : List UInt8) (k : Nat) (hl : l.length ≤ k) (hd : ∀ a ∈ l, isDig a = true) (h4 : k ≤ 4) : valD l < 10000 := by
  match l, hl, hd with
  | [], _, _ => simp [valD]
  | [a], _, hd => simp [isDig] at hd; simp [valD]; omega
  | [a, b], _, hd => simp [isDig] at hd; simp [valD]; omega
  | [a, b, c], _, hd => simp [isDig] at hd; simp [valD]; omega
  | [a, b, c, d], _, hd => simp [isDig] at hd; simp [valD]; omega
  | a :: b :: c :: d :: e :: r, hl, _ => simp at hl; omega
end Go.Proofs.YtflhbidmjlfjkaaDoor
