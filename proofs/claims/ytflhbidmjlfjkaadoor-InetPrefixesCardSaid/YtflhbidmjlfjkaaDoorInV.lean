/- Texts of addresses, as the program takes them apart: numbers by strconv.ParseUint, parts by strings.SplitN. Nothing of the program is named here. -/
import Derived.Test.YtflhbidmjlfjkaaDoorInP
import Derived.Lib.ParseIntB
import Derived.Lib.ItoaNum
import Derived.Lib.Split
namespace Go.Proofs.YtflhbidmjlfjkaaDoor
set_option linter.unusedVariables false

theorem itoa_dig : ∀ v : Fin 256, Lib.itoa (v.val : Int) = digM v.val := by decide +kernel
theorem pu_stop (acc : Nat) (h : 26 ≤ acc) (l : List UInt8) (u : Nat) (hl : l ≠ []) : Lib.parseUintM 255 acc l ≠ .ok u := by
  cases l with
  | nil => exact absurd rfl hl
  | cons c r =>
    unfold Lib.parseUintM
    split
    · split
      · intro e; cases e
      · rw [if_pos (by omega)]; intro e; cases e
    · intro e; cases e
theorem pu_cons (acc : Nat) (c : UInt8) (r : List UInt8) (u : Nat) (ha : acc < 1000) (h : Lib.parseUintM 255 acc (c :: r) = .ok u) : isDig c = true ∧ acc * 10 + (c.toNat - 48) ≤ 255 ∧ Lib.parseUintM 255 (acc * 10 + (c.toNat - 48)) r = .ok u := by
  unfold Lib.parseUintM at h
  split at h
  · rename_i hd
    rw [if_neg (by omega)] at h
    split at h
    · cases h
    · exact ⟨by simp [isDig]; omega, by omega, h⟩
  · cases h
theorem pu_of (acc : Nat) (c : UInt8) (r : List UInt8) (ha : acc < 1000) (hd : isDig c = true) (hb : acc * 10 + (c.toNat - 48) ≤ 255) : Lib.parseUintM 255 acc (c :: r) = Lib.parseUintM 255 (acc * 10 + (c.toNat - 48)) r := by
  simp only [isDig, decide_eq_true_eq] at hd
  conv => lhs; unfold Lib.parseUintM
  rw [if_pos hd, if_neg (by omega), if_neg (by omega)]
/-- A text that ParseUint takes, without noughts in front, is a number's. -/
theorem num_of_pu {l : List UInt8} {u : Nat} (h : Lib.parseUintB 8 l = .ok u) (hz : l.length ≤ 1 ∨ l.headD 0 ≠ 48) : numT l = some u := by
  unfold Lib.parseUintB at h
  split at h
  · cases h
  · rename_i hne
    rw [show 2 ^ 8 - 1 = 255 from rfl] at h
    match l, hne, h, hz with
    | [], hne, _, _ => exact absurd rfl hne
    | [a], _, h, _ =>
      obtain ⟨d1, b1, h1⟩ := pu_cons 0 a [] u (by omega) h
      simp only [Lib.parseUintM] at h1
      cases h1
      unfold numT
      have e : valD [a] = 0 * 10 + (a.toNat - 48) := by simp [valD]
      rw [if_pos ⟨by simp, by simp, by simp [d1], .inl rfl, by rw [e]; exact b1⟩, e]
    | [a, b], _, h, hz =>
      obtain ⟨d1, b1, h1⟩ := pu_cons 0 a [b] u (by omega) h
      obtain ⟨d2, b2, h2⟩ := pu_cons _ b [] u (by omega) h1
      simp only [Lib.parseUintM] at h2
      cases h2
      unfold numT
      have e : valD [a, b] = (0 * 10 + (a.toNat - 48)) * 10 + (b.toNat - 48) := by simp [valD]; omega
      rw [if_pos ⟨by simp, by simp, by simp [d1, d2], .inr (by rcases hz with hz | hz; simp at hz; exact hz), by rw [e]; exact b2⟩, e]
    | [a, b, c], _, h, hz =>
      obtain ⟨d1, b1, h1⟩ := pu_cons 0 a [b, c] u (by omega) h
      obtain ⟨d2, b2, h2⟩ := pu_cons _ b [c] u (by omega) h1
      obtain ⟨d3, b3, h3⟩ := pu_cons _ c [] u (by omega) h2
      simp only [Lib.parseUintM] at h3
      cases h3
      unfold numT
      have e : valD [a, b, c] = ((0 * 10 + (a.toNat - 48)) * 10 + (b.toNat - 48)) * 10 + (c.toNat - 48) := by simp [valD]; omega
      rw [if_pos ⟨by simp, by simp, by simp [d1, d2, d3], .inr (by rcases hz with hz | hz; simp at hz; exact hz), by rw [e]; exact b3⟩, e]
    | a :: b :: c :: d :: r, _, h, hz =>
      exfalso
      obtain ⟨d1, b1, h1⟩ := pu_cons 0 a _ u (by omega) h
      obtain ⟨d2, b2, h2⟩ := pu_cons _ b _ u (by omega) h1
      obtain ⟨d3, b3, h3⟩ := pu_cons _ c _ u (by omega) h2
      have ha : a.toNat ≠ 48 := fun e => by
        rcases hz with hz | hz
        · simp at hz
        · exact hz (UInt8.toNat_inj.1 e)
      simp only [isDig, decide_eq_true_eq] at d1
      exact pu_stop _ (by omega) (d :: r) u (by simp) h3
/-- And a number's text is taken. -/
theorem pu_of_num {l : List UInt8} {u : Nat} (h : numT l = some u) : Lib.parseUintB 8 l = .ok u ∧ u ≤ 255 ∧ 1 ≤ l.length ∧ (l.length ≤ 1 ∨ l.headD 0 ≠ 48) := by
  unfold numT at h
  split at h
  · rename_i hc
    obtain ⟨h1, h3, hd, hz, hv⟩ := hc
    simp only [Option.some.injEq] at h
    subst h
    refine ⟨?_, hv, h1, by rcases hz with hz | hz; exact .inl (by omega); exact .inr hz⟩
    unfold Lib.parseUintB
    rw [show 2 ^ 8 - 1 = 255 from rfl]
    match l, h1, h3, hd, hv with
    | [a], _, _, hd, hv =>
      simp only [List.all_cons, List.all_nil, Bool.and_true] at hd
      have e : valD [a] = 0 * 10 + (a.toNat - 48) := by simp [valD]
      rw [e] at hv ⊢
      rw [if_neg (by simp), pu_of 0 a [] (by omega) hd hv]
      rfl
    | [a, b], _, _, hd, hv =>
      simp only [List.all_cons, List.all_nil, Bool.and_true, Bool.and_eq_true] at hd
      have e : valD [a, b] = (0 * 10 + (a.toNat - 48)) * 10 + (b.toNat - 48) := by simp [valD]; omega
      rw [e] at hv ⊢
      rw [if_neg (by simp), pu_of 0 a [b] (by omega) hd.1 (by omega), pu_of _ b [] (by omega) hd.2 hv]
      rfl
    | [a, b, c], _, _, hd, hv =>
      simp only [List.all_cons, List.all_nil, Bool.and_true, Bool.and_eq_true] at hd
      have e : valD [a, b, c] = ((0 * 10 + (a.toNat - 48)) * 10 + (b.toNat - 48)) * 10 + (c.toNat - 48) := by simp [valD]; omega
      rw [e] at hv ⊢
      rw [if_neg (by simp), pu_of 0 a [b, c] (by omega) hd.1 (by omega), pu_of _ b [c] (by omega) hd.2.1 (by omega), pu_of _ c [] (by omega) hd.2.2 hv]
      rfl
  · cases h
theorem num_nope {l : List UInt8} (h : (∀ u, Lib.parseUintB 8 l ≠ .ok u) ∨ (2 ≤ l.length ∧ l.headD 0 = 48)) : numT l = none := by
  cases hn : numT l with
  | none => rfl
  | some u =>
    obtain ⟨h1, _, _, h4⟩ := pu_of_num hn
    rcases h with h | ⟨h, h0⟩
    · exact absurd h1 (h u)
    · rcases h4 with h4 | h4
      · omega
      · exact absurd h0 h4
/-- Cut at the first k points at most. -/
def splitM : Nat → List UInt8 → List (List UInt8)
  | 0, s => [s]
  | k + 1, s => match upTo dot s with
    | (a, some r) => a :: splitM k r
    | (_, none) => [s]
theorem upTo_len {c : UInt8} {l a r : List UInt8} (h : upTo c l = (a, some r)) : a.length + r.length + 1 = l.length := by
  have := congrArg List.length (upTo_some h)
  simp at this
  omega
theorem index_dot (s : List UInt8) : Lib.index s [dot] = match upTo dot s with | (a, some _) => (a.length : Int) | (_, none) => -1 := by
  induction s with
  | nil => rfl
  | cons b l ih =>
    unfold Lib.index upTo
    by_cases hb : b = dot
    · subst hb
      simp
    · have : List.isPrefixOf [dot] (b :: l) = false := by simp [List.isPrefixOf]; intro e; exact hb e.symm
      rw [this, ih, if_neg hb]
      rcases h : upTo dot l with ⟨a, _ | r⟩
      · simp
      · have h0 : (((a.length : Nat) : Int) == -1) = false := by rw [beq_eq_false_iff_ne]; omega
        simp [h0]
theorem split_eq : ∀ (k : Nat) (s : List UInt8), Lib.splitK [dot] 0 k s = splitM k s
  | 0, _ => rfl
  | k + 1, s => by
    unfold Lib.splitK splitM
    rw [index_dot]
    rcases h : upTo dot s with ⟨a, _ | r⟩
    · simp
    · have h0 : (((a.length : Nat) : Int) == -1) = false := by rw [beq_eq_false_iff_ne]; omega
      have hs := upTo_some h
      simp only [h0, Bool.false_eq_true, if_false, Int.toNat_natCast, List.length_singleton, Nat.add_zero, List.cons.injEq]
      refine ⟨?_, ?_⟩
      · rw [hs]; simp
      · rw [split_eq k]
        congr 1
        rw [hs]
        simp [List.drop_append]
theorem split_more : ∀ (k : Nat) (s : List UInt8), s.length ≤ k → splitM (k + 1) s = splitM k s
  | 0, s, h => by
    have : s = [] := List.eq_nil_of_length_eq_zero (by omega)
    subst this
    rfl
  | k + 1, s, h => by
    rw [splitM]
    conv => rhs; rw [splitM]
    rcases hu : upTo dot s with ⟨a, _ | r⟩
    · rfl
    · have := upTo_len hu
      simp only
      rw [split_more k r (by omega)]
theorem split_four (s : List UInt8) : splitM (min 5 (s.length + 1) - 1) s = splitM 4 s := by
  by_cases h : 4 ≤ s.length
  · rw [show min 5 (s.length + 1) - 1 = 4 by omega]
  · rcases (show s.length = 0 ∨ s.length = 1 ∨ s.length = 2 ∨ s.length = 3 by omega) with h | h | h | h
    · rw [h, show min 5 (0 + 1) - 1 = 0 from rfl, split_more 3 s (by omega), split_more 2 s (by omega), split_more 1 s (by omega), split_more 0 s (by omega)]
    · rw [h, show min 5 (1 + 1) - 1 = 1 from rfl, split_more 3 s (by omega), split_more 2 s (by omega), split_more 1 s (by omega)]
    · rw [h, show min 5 (2 + 1) - 1 = 2 from rfl, split_more 3 s (by omega), split_more 2 s (by omega)]
    · rw [h, show min 5 (3 + 1) - 1 = 3 from rfl, split_more 3 s (by omega)]
/-- Numbers read one behind the other. -/
def evalM : Nat → List (List UInt8) → Option Nat
  | acc, [] => some acc
  | acc, p :: r => match numT p with
    | some v => evalM (acc * 256 + v) r
    | none => none
theorem num_dot {a r : List UInt8} : numT (a ++ dot :: r) = none := by
  cases h : numT (a ++ dot :: r) with
  | none => rfl
  | some v =>
    have := (num_dig_all h).1 dot (by simp)
    rw [dot_dig] at this
    cases this
/-- Parse, by parts. -/
theorem four_split (s : List UInt8) : fourT s = if (splitM 4 s).length = 4 then evalM 0 (splitM 4 s) else none := by
  unfold fourT
  rw [splitM]
  rcases h1 : upTo dot s with ⟨a, _ | s1⟩
  · simp
  simp only
  rw [splitM]
  rcases h2 : upTo dot s1 with ⟨b, _ | s2⟩
  · simp
  simp only
  rw [splitM]
  rcases h3 : upTo dot s2 with ⟨c, _ | s3⟩
  · simp
  simp only
  rw [splitM]
  rcases h4 : upTo dot s3 with ⟨d, _ | s4⟩
  · simp only [List.length_cons, List.length_nil, if_true, Nat.reduceAdd, evalM]
    rcases numT a with _ | va
    · rfl
    rcases numT b with _ | vb
    · rfl
    rcases numT c with _ | vc
    · rfl
    rcases numT s3 with _ | vd
    · rfl
    simp only [Option.some.injEq]
    omega
  · have hne : ¬ (a :: b :: c :: (match (upTo dot s3) with | (x, some r) => x :: splitM 0 r | (_, none) => [s3])).length = 4 := by rw [h4]; simp [splitM]
    rw [h4] at hne
    rw [if_neg hne, upTo_some h4, num_dot]
    rcases numT a with _ | va
    · rfl
    rcases numT b with _ | vb
    · rfl
    rcases numT c with _ | vc
    · rfl
    rfl
end Go.Proofs.YtflhbidmjlfjkaaDoor
