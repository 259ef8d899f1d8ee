/- Addresses' and prefixes' texts in plain words. Nothing of the program is named here. An address's text read from the left, number by number, in plain words. Nothing of the program is named here. Texts of addresses, as the program takes them apart: numbers by strconv.ParseUint, parts by strings.SplitN. Nothing of the program is named here. -/
import Derived.Test.YtkpelaojjfcpfaaMem
import Derived.Lib.ParseIntB
import Derived.Lib.ItoaNum
import Derived.Lib.Split
namespace Go.Proofs.Ytkpelaojjfcpfaa
set_option linter.unusedVariables false

/-- A number's digits. -/
def digM (n : Nat) : List UInt8 :=
  if n < 10 then [UInt8.ofNat (48 + n)] else if n < 100 then [UInt8.ofNat (48 + n / 10), UInt8.ofNat (48 + n % 10)] else [UInt8.ofNat (48 + n / 100), UInt8.ofNat (48 + n / 10 % 10), UInt8.ofNat (48 + n % 10)]
def isDig (c : UInt8) : Bool := decide (48 ≤ c.toNat ∧ c.toNat ≤ 57)
def valD (l : List UInt8) : Nat := l.foldl (fun n c => 10 * n + (c.toNat - 48)) 0
/-- A number from 0 to 255, without noughts in front. -/
def numT (l : List UInt8) : Option Nat :=
  if 1 ≤ l.length ∧ l.length ≤ 3 ∧ l.all isDig = true ∧ (l.length = 1 ∨ l.headD 0 ≠ 48) ∧ valD l ≤ 255 then some (valD l) else none
theorem num_dig : ∀ v : Fin 256, numT (digM v.val) = some v.val ∧ (digM v.val).all isDig = true := by decide +kernel
theorem dig_num {l : List UInt8} {v : Nat} (h : numT l = some v) : digM v = l ∧ v ≤ 255 := by
  unfold numT at h
  split at h
  · rename_i hc
    obtain ⟨h1, h3, hd, hz, hv⟩ := hc
    simp only [Option.some.injEq] at h
    subst h
    refine ⟨?_, hv⟩
    match l, h1, h3, hd, hz, hv with
    | [a], _, _, hd, _, _ =>
      simp only [List.all_cons, List.all_nil, Bool.and_true, isDig, decide_eq_true_eq] at hd
      have e : valD [a] = a.toNat - 48 := by simp [valD]
      rw [e]
      unfold digM
      rw [if_pos (by omega), show 48 + (a.toNat - 48) = a.toNat by omega, UInt8.ofNat_toNat]
    | [a, b], _, _, hd, hz, _ =>
      simp only [List.all_cons, List.all_nil, Bool.and_true, isDig, Bool.and_eq_true, decide_eq_true_eq] at hd
      have e : valD [a, b] = 10 * (a.toNat - 48) + (b.toNat - 48) := by simp [valD]
      have hz : a ≠ 48 := by rcases hz with hz | hz; simp at hz; exact hz
      have ha : a.toNat ≠ 48 := fun h => hz (UInt8.toNat_inj.1 h)
      rw [e]
      unfold digM
      rw [if_neg (by omega), if_pos (by omega), show 48 + (10 * (a.toNat - 48) + (b.toNat - 48)) / 10 = a.toNat by omega, show 48 + (10 * (a.toNat - 48) + (b.toNat - 48)) % 10 = b.toNat by omega, UInt8.ofNat_toNat, UInt8.ofNat_toNat]
    | [a, b, c], _, _, hd, hz, _ =>
      simp only [List.all_cons, List.all_nil, Bool.and_true, isDig, Bool.and_eq_true, decide_eq_true_eq] at hd
      have e : valD [a, b, c] = 10 * (10 * (a.toNat - 48) + (b.toNat - 48)) + (c.toNat - 48) := by simp [valD]
      have hz : a ≠ 48 := by rcases hz with hz | hz; simp at hz; exact hz
      have ha : a.toNat ≠ 48 := fun h => hz (UInt8.toNat_inj.1 h)
      rw [e]
      unfold digM
      rw [if_neg (by omega), if_neg (by omega), show 48 + (10 * (10 * (a.toNat - 48) + (b.toNat - 48)) + (c.toNat - 48)) / 100 = a.toNat by omega, show 48 + (10 * (10 * (a.toNat - 48) + (b.toNat - 48)) + (c.toNat - 48)) / 10 % 10 = b.toNat by omega, show 48 + (10 * (10 * (a.toNat - 48) + (b.toNat - 48)) + (c.toNat - 48)) % 10 = c.toNat by omega, UInt8.ofNat_toNat, UInt8.ofNat_toNat, UInt8.ofNat_toNat]
  · cases h
/-- What stands ahead of the first c, and behind it (none, if there is none). -/
def upTo (c : UInt8) : List UInt8 → List UInt8 × Option (List UInt8)
  | [] => ([], none)
  | a :: r => if a = c then ([], some r) else (a :: (upTo c r).1, (upTo c r).2)
theorem upTo_app (c : UInt8) (l r : List UInt8) (h : ∀ a ∈ l, a ≠ c) : upTo c (l ++ c :: r) = (l, some r) := by
  induction l with
  | nil => simp [upTo]
  | cons a l ih =>
    have := ih (fun x hx => h x (by simp [hx]))
    simp only [List.cons_append, upTo, if_neg (h a (by simp)), this]
theorem upTo_none (c : UInt8) (l : List UInt8) (h : ∀ a ∈ l, a ≠ c) : upTo c l = (l, none) := by
  induction l with
  | nil => rfl
  | cons a l ih =>
    have := ih (fun x hx => h x (by simp [hx]))
    simp only [upTo, if_neg (h a (by simp)), this]
theorem upTo_some {c : UInt8} {l a r : List UInt8} (h : upTo c l = (a, some r)) : l = a ++ c :: r := by
  induction l generalizing a with
  | nil => simp [upTo] at h
  | cons x l ih =>
    unfold upTo at h
    split at h
    · rename_i hx
      simp at h
      obtain ⟨rfl, rfl⟩ := h
      rw [hx]; rfl
    · simp only [Prod.mk.injEq] at h
      obtain ⟨rfl, h2⟩ := h
      have := ih (a := (upTo c l).1) (by rw [← h2])
      rw [List.cons_append, ← this]
theorem upTo_no {c : UInt8} {l a : List UInt8} (h : upTo c l = (a, none)) : l = a ∧ ∀ x ∈ l, x ≠ c := by
  induction l generalizing a with
  | nil => simp [upTo] at h; exact ⟨h.symm ▸ rfl, fun x hx => by cases hx⟩
  | cons x l ih =>
    unfold upTo at h
    split at h
    · simp at h
    · rename_i hx
      simp only [Prod.mk.injEq] at h
      obtain ⟨rfl, h2⟩ := h
      obtain ⟨i1, i2⟩ := ih (a := (upTo c l).1) (by rw [← h2])
      exact ⟨by rw [← i1], fun y hy => by rcases List.mem_cons.1 hy with rfl | hy; exact hx; exact i2 y hy⟩
def dot : UInt8 := 46
def slash : UInt8 := 47
/-- Four numbers, points between. -/
def fourT (s : List UInt8) : Option Nat :=
  match upTo dot s with
  | (a, some s1) => match upTo dot s1 with
    | (b, some s2) => match upTo dot s2 with
      | (c, some s3) => match numT a, numT b, numT c, numT s3 with
        | some a, some b, some c, some d => some (a * 16777216 + b * 65536 + c * 256 + d)
        | _, _, _, _ => none
      | _ => none
    | _ => none
  | _ => none
def parseM (s : List UInt8) : Nat × Int := match fourT s with | some n => (n, 0) | none => (0, 5)
def textM (ip : Nat) : List UInt8 := digM (ip / 16777216) ++ dot :: (digM (ip / 65536 % 256) ++ dot :: (digM (ip / 256 % 256) ++ dot :: digM (ip % 256)))
theorem dig_no (v : Nat) (hv : v < 256) (c : UInt8) (hc : isDig c = false) : ∀ a ∈ digM v, a ≠ c := by
  intro a ha e
  subst e
  have := (num_dig ⟨v, hv⟩).2
  rw [List.all_eq_true] at this
  rw [this a ha] at hc
  cases hc
theorem four_text (ip : Nat) (h : ip < 4294967296) : fourT (textM ip) = some ip := by
  have hd : isDig dot = false := by decide
  have n1 := (num_dig ⟨ip / 16777216, by omega⟩).1
  have n2 := (num_dig ⟨ip / 65536 % 256, by omega⟩).1
  have n3 := (num_dig ⟨ip / 256 % 256, by omega⟩).1
  have n4 := (num_dig ⟨ip % 256, by omega⟩).1
  simp only at n1 n2 n3 n4
  unfold fourT textM
  rw [upTo_app dot _ _ (dig_no _ (by omega) dot hd)]
  simp only
  rw [upTo_app dot _ _ (dig_no _ (by omega) dot hd)]
  simp only
  rw [upTo_app dot _ _ (dig_no _ (by omega) dot hd)]
  simp only
  rw [n1, n2, n3, n4]
  simp only [Option.some.injEq]
  omega
theorem text_four {s : List UInt8} {n : Nat} (h : fourT s = some n) : textM n = s ∧ n < 4294967296 := by
  unfold fourT at h
  split at h
  · rename_i a s1 e1
    split at h
    · rename_i b s2 e2
      split at h
      · rename_i c s3 e3
        split at h
        · rename_i va vb vc vd h1 h2 h3 h4
          simp only [Option.some.injEq] at h
          obtain ⟨d1, v1⟩ := dig_num h1
          obtain ⟨d2, v2⟩ := dig_num h2
          obtain ⟨d3, v3⟩ := dig_num h3
          obtain ⟨d4, v4⟩ := dig_num h4
          rw [upTo_some e1, upTo_some e2, upTo_some e3, ← d1, ← d2, ← d3, ← d4]
          subst h
          refine ⟨?_, by omega⟩
          unfold textM
          rw [show (va * 16777216 + vb * 65536 + vc * 256 + vd) / 16777216 = va by omega, show (va * 16777216 + vb * 65536 + vc * 256 + vd) / 65536 % 256 = vb by omega, show (va * 16777216 + vb * 65536 + vc * 256 + vd) / 256 % 256 = vc by omega, show (va * 16777216 + vb * 65536 + vc * 256 + vd) % 256 = vd by omega]
        · cases h
      · cases h
    · cases h
  · cases h
/-- An address's first bits. -/
def maskM (ip bits : Nat) : Nat := ip / 2 ^ (32 - bits) * 2 ^ (32 - bits)
theorem mask_le (ip bits : Nat) : maskM ip bits ≤ ip := Nat.div_mul_le_self _ _
theorem mask_mask (ip bits : Nat) : maskM (maskM ip bits) bits = maskM ip bits := by
  unfold maskM
  rw [Nat.mul_div_cancel _ (Nat.two_pow_pos _)]
theorem mask_32 (ip : Nat) : maskM ip 32 = ip := by unfold maskM; simp
theorem mask_eq (a b bits : Nat) : maskM a bits = maskM b bits ↔ a / 2 ^ (32 - bits) = b / 2 ^ (32 - bits) := by
  unfold maskM
  constructor
  · intro h
    have := congrArg (· / 2 ^ (32 - bits)) h
    simpa [Nat.mul_div_cancel _ (Nat.two_pow_pos _)] using this
  · intro h; rw [h]
theorem mask_less (a b bits : Nat) (h : maskM a (bits + 1) = maskM b (bits + 1)) : maskM a bits = maskM b bits := by
  rw [mask_eq] at h ⊢
  by_cases hb : bits < 32
  · have e : 2 ^ (32 - bits) = 2 ^ (32 - (bits + 1)) * 2 := by rw [← Nat.pow_succ]; congr 1; omega
    rw [e, ← Nat.div_div_eq_div_mul, ← Nat.div_div_eq_div_mul, h]
  · rw [show 32 - (bits + 1) = 32 - bits by omega] at h
    exact h
theorem xor_zero (x y : Nat) : x ^^^ y = 0 ↔ x = y := by
  constructor
  · intro h
    apply Nat.eq_of_testBit_eq
    intro i
    have h1 := congrArg (fun z => z.testBit i) h
    simp only [Nat.testBit_xor, Nat.zero_testBit] at h1
    cases hx : x.testBit i <;> cases hy : y.testBit i <;> simp [hx, hy] at h1 ⊢
  · rintro rfl
    exact Nat.xor_self x
theorem xor_div (a b k : Nat) : (a ^^^ b) / 2 ^ k = 0 ↔ a / 2 ^ k = b / 2 ^ k := by
  rw [← Nat.shiftRight_eq_div_pow, ← Nat.shiftRight_eq_div_pow, ← Nat.shiftRight_eq_div_pow, Nat.shiftRight_xor_distrib, xor_zero]
/-- How many bits, brought there. -/
def clipM (bits : Int) : Nat := if bits < 0 then 0 else if 32 < bits then 32 else bits.toNat
theorem clip_le (b : Int) : clipM b ≤ 32 := by unfold clipM; split; omega; split <;> omega
theorem clip_nat (k : Nat) (h : k ≤ 32) : clipM (k : Int) = k := by unfold clipM; rw [if_neg (by omega), if_neg (by omega)]; rfl
def ptextM (ip : Nat) (bits : Int) : List UInt8 := if clipM bits = 32 then textM ip else textM (maskM ip (clipM bits)) ++ slash :: digM (clipM bits)
/-- One or two digits, the first of two no nought. -/
def bitsT (l : List UInt8) : Option Nat := if 1 ≤ l.length ∧ l.length ≤ 2 ∧ l.all isDig = true ∧ (l.length = 1 ∨ l.headD 0 ≠ 48) then some (valD l) else none
def pparseM (s : List UInt8) : Nat × Nat × Int :=
  match upTo slash s with
  | (a, none) => match fourT a with | some n => (n, 32, 0) | none => (0, 0, 5)
  | (a, some r) => match fourT a with
    | none => (0, 0, 5)
    | some n => match bitsT r with
      | none => (0, 0, 5)
      | some k => if 32 < k then (0, 0, 24) else (maskM n k, k, 0)
theorem bits_dig : ∀ v : Fin 33, bitsT (digM v.val) = some v.val := by decide +kernel
theorem text_no_slash (ip : Nat) (h : ip < 4294967296) : ∀ a ∈ textM ip, a ≠ slash := by
  have hs : isDig slash = false := by decide
  intro a ha
  unfold textM at ha
  simp only [List.mem_append, List.mem_cons] at ha
  rcases ha with ha | rfl | ha | rfl | ha | rfl | ha
  · exact dig_no _ (by omega) slash hs a ha
  · decide
  · exact dig_no _ (by omega) slash hs a ha
  · decide
  · exact dig_no _ (by omega) slash hs a ha
  · decide
  · exact dig_no _ (by omega) slash hs a ha
/-- THERE AND BACK: a prefix's text. -/
theorem pparse_text (ip : Nat) (h : ip < 4294967296) (bits : Int) : pparseM (ptextM ip bits) = (maskM ip (clipM bits), clipM bits, 0) := by
  have hc := clip_le bits
  unfold ptextM
  split
  · rename_i h32
    unfold pparseM
    rw [upTo_none slash _ (text_no_slash ip h)]
    simp only [four_text ip h, h32, mask_32]
  · rename_i h32
    have hm : maskM ip (clipM bits) < 4294967296 := Nat.lt_of_le_of_lt (mask_le _ _) h
    have hb := bits_dig ⟨clipM bits, by omega⟩
    simp only at hb
    unfold pparseM
    rw [upTo_app slash _ _ (text_no_slash _ hm)]
    simp only [four_text _ hm, hb, if_neg (show ¬ 32 < clipM bits by omega), mask_mask]
theorem pparse_ok (s : List UInt8) : (pparseM s).1 < 4294967296 ∧ (pparseM s).2.1 ≤ 32 ∧ maskM (pparseM s).1 (pparseM s).2.1 = (pparseM s).1 ∧ ((pparseM s).2.2 ≠ 0 → (pparseM s).1 = 0 ∧ (pparseM s).2.1 = 0) := by
  have hz : maskM 0 0 = 0 := by decide
  unfold pparseM
  split
  · split
    · rename_i n hn
      exact ⟨(text_four hn).2, Nat.le_refl 32, mask_32 n, fun h => absurd rfl h⟩
    · exact ⟨by decide, by decide, hz, fun _ => ⟨rfl, rfl⟩⟩
  · split
    · exact ⟨by decide, by decide, hz, fun _ => ⟨rfl, rfl⟩⟩
    · rename_i n hn
      split
      · exact ⟨by decide, by decide, hz, fun _ => ⟨rfl, rfl⟩⟩
      · rename_i k hk
        split
        · exact ⟨by decide, by decide, hz, fun _ => ⟨rfl, rfl⟩⟩
        · rename_i h32
          exact ⟨Nat.lt_of_le_of_lt (mask_le _ _) (text_four hn).2, by simp only; omega, mask_mask _ _, fun h => absurd rfl h⟩
end Go.Proofs.Ytkpelaojjfcpfaa
namespace Go.Proofs.Ytkpelaojjfcpfaa
set_option linter.unusedVariables false

/-- The digits that stand in front, four of them at most. -/
def runD (l : List UInt8) : List UInt8 := (l.take 4).takeWhile isDig
theorem run_stop (l : List UInt8) (j : Nat) (hj : j ≤ 4) (hl : j ≤ l.length) (hd : ∀ a ∈ l.take j, isDig a = true) (hs : j = l.length ∨ j = 4 ∨ ∃ x, l[j]? = some x ∧ isDig x = false) : runD l = l.take j := by
  unfold runD
  have e : l.take 4 = l.take j ++ (l.drop j).take (4 - j) := by
    conv => lhs; rw [show 4 = j + (4 - j) by omega, List.take_add]
  rw [e, List.takeWhile_append_of_pos hd]
  have : ((l.drop j).take (4 - j)).takeWhile isDig = [] := by
    rcases hs with h | h | ⟨x, h, hx⟩
    · rw [List.drop_of_length_le (by omega)]; simp
    · rw [h]; simp
    · obtain ⟨hk, rfl⟩ := List.getElem?_eq_some_iff.1 h
      rw [List.drop_eq_getElem_cons hk]
      cases 4 - j with
      | zero => simp
      | succ m => rw [List.take_succ_cons, List.takeWhile_cons, hx]; rfl
  rw [this, List.append_nil]
theorem run_pre (l : List UInt8) : l = runD l ++ l.drop (runD l).length := by
  have h1 : runD l <+: l := (List.takeWhile_prefix _).trans (List.take_prefix _ _)
  obtain ⟨r, hr⟩ := h1
  have h2 := congrArg (List.drop (runD l).length) hr
  rw [List.drop_left] at h2
  rw [← h2, hr]
theorem run_dig (l : List UInt8) : ∀ a ∈ runD l, isDig a = true := by
  intro a ha
  have := List.all_takeWhile (p := isDig) (l := l.take 4)
  rw [List.all_eq_true] at this
  exact this a ha
theorem run_len (l : List UInt8) : (runD l).length ≤ 4 := by
  have h : (runD l).length ≤ (l.take 4).length := (List.takeWhile_prefix isDig).length_le
  rw [List.length_take] at h
  omega
theorem run_lay (a r : List UInt8) (ha : ∀ x ∈ a, isDig x = true) (hl : a.length ≤ 4) (hr : ∀ x, r.head? = some x → isDig x = false) : runD (a ++ r) = a := by
  have h := run_stop (a ++ r) a.length hl (by simp) (by simpa using ha) (by
    cases r with
    | nil => left; simp
    | cons x r => right; right; exact ⟨x, by simp, hr x rfl⟩)
  simpa using h
theorem num_dig_all {l : List UInt8} {n : Nat} (h : numT l = some n) : (∀ x ∈ l, isDig x = true) ∧ l.length ≤ 3 := by
  unfold numT at h
  split at h
  · rename_i hc
    exact ⟨List.all_eq_true.1 hc.2.2.1, hc.2.1⟩
  · cases h
/-- What stands behind a point in front. -/
def afterDot : List UInt8 → Option (List UInt8)
  | [] => none
  | a :: r => if a = dot then some r else none
/-- A number in front and a point, and what stands behind. -/
def headN (l : List UInt8) : Option (Nat × List UInt8) :=
  match numT (runD l) with
  | none => none
  | some n => match afterDot (l.drop (runD l).length) with
    | none => none
    | some r => some (n, r)
theorem dot_dig : isDig dot = false := by decide
theorem after_some {l r : List UInt8} (h : afterDot l = some r) : l = dot :: r := by
  cases l with
  | nil => cases h
  | cons a l =>
    simp only [afterDot] at h
    by_cases ha : a = dot
    · rw [if_pos ha] at h; simp at h; rw [ha, h]
    · rw [if_neg ha] at h; cases h
theorem head_upTo (l : List UInt8) : headN l = match upTo dot l with
    | (a, some r) => match numT a with
      | some n => some (n, r)
      | none => none
    | (a, none) => none := by
  have key1 : ∀ n r, headN l = some (n, r) → upTo dot l = (runD l, some r) ∧ numT (runD l) = some n := by
    intro n r h
    unfold headN at h
    split at h
    · cases h
    · rename_i m hm
      split at h
      · cases h
      · rename_i r' hr
        simp only [Option.some.injEq, Prod.mk.injEq] at h
        obtain ⟨rfl, rfl⟩ := h
        refine ⟨?_, hm⟩
        have e := run_pre l
        rw [after_some hr] at e
        have := upTo_app dot (runD l) r' (fun a ha he => by
          have := run_dig l a ha
          rw [he, dot_dig] at this
          cases this)
        rw [← e] at this
        exact this
  have key2 : ∀ a n r, upTo dot l = (a, some r) → numT a = some n → headN l = some (n, r) := by
    intro a n r hu hn
    have e := upTo_some hu
    obtain ⟨hd, hl⟩ := num_dig_all hn
    have hr : runD l = a := by
      rw [e]
      exact run_lay a _ hd (by omega) (fun x hx => by simp at hx; rw [← hx]; exact dot_dig)
    unfold headN
    rw [hr, hn]
    simp only
    have : l.drop a.length = dot :: r := by rw [e]; simp
    rw [this]
    simp [afterDot]
  rcases hu : upTo dot l with ⟨a, _ | r⟩
  · simp only
    cases hh : headN l with
    | none => rfl
    | some p =>
      obtain ⟨n, r⟩ := p
      have := (key1 n r hh).1
      rw [hu] at this
      simp at this
  · simp only
    cases hn : numT a with
    | some n => simp only; exact key2 a n r hu hn
    | none =>
      simp only
      cases hh : headN l with
      | none => rfl
      | some p =>
        obtain ⟨n, r'⟩ := p
        obtain ⟨h1, h2⟩ := key1 n r' hh
        rw [hu] at h1
        simp only [Prod.mk.injEq] at h1
        rw [← h1.1, hn] at h2
        cases h2
theorem end_num (l : List UInt8) : numT l = match numT (runD l) with
    | none => none
    | some n => if l.drop (runD l).length = [] then some n else none := by
  have key : ∀ n, numT l = some n → runD l = l := by
    intro n hn
    obtain ⟨hd, hl⟩ := num_dig_all hn
    have := run_lay l [] hd (by omega) (fun x hx => by simp at hx)
    simpa using this
  by_cases he : l.drop (runD l).length = []
  · have e := run_pre l
    rw [he, List.append_nil] at e
    rw [← e]
    cases numT l with
    | none => rfl
    | some n => simp
  · have hn : numT l = none := by
      cases hn : numT l with
      | none => rfl
      | some n =>
        rw [key n hn] at he
        simp at he
    rw [hn]
    cases numT (runD l) with
    | none => rfl
    | some n => simp only [if_neg he]
/-- How many numbers are left, what was read, what is left to read. -/
def partsM : Nat → Nat → List UInt8 → Option Nat
  | 0, ip, r => if r = [] then some ip else none
  | k + 1, ip, r => match (if k = 3 then some r else afterDot r) with
    | none => none
    | some r => match numT (runD r) with
      | none => none
      | some n => partsM k (256 * ip + n) (r.drop (runD r).length)
theorem four_parts (s : List UInt8) : fourT s = partsM 4 0 s := by
  have hf : fourT s = match headN s with
      | some (a, s1) => match headN s1 with
        | some (b, s2) => match headN s2 with
          | some (c, s3) => match numT s3 with
            | some d => some (a * 16777216 + b * 65536 + c * 256 + d)
            | none => none
          | none => none
        | none => none
      | none => none := by
    unfold fourT
    rw [head_upTo s]
    rcases upTo dot s with ⟨a, _ | s1⟩
    · rfl
    · simp only
      rcases hb : upTo dot s1 with ⟨b, _ | s2⟩
      · simp only
        cases numT a with
        | none => rfl
        | some n => simp only; rw [head_upTo s1, hb]
      · simp only
        rcases hc : upTo dot s2 with ⟨c, _ | s3⟩
        · simp only
          cases numT a with
          | none => rfl
          | some n =>
            simp only; rw [head_upTo s1, hb]; simp only
            cases numT b with
            | none => rfl
            | some n => simp only; rw [head_upTo s2, hc]
        · simp only
          cases numT a with
          | none => rfl
          | some n =>
            simp only; rw [head_upTo s1, hb]; simp only
            cases numT b with
            | none => rfl
            | some n =>
              simp only; rw [head_upTo s2, hc]; simp only
              cases numT c with
              | none => rfl
              | some n => simp only; cases numT s3 <;> rfl
  rw [hf]
  unfold headN
  simp only [partsM, if_true]
  cases numT (runD s) with
  | none => rfl
  | some a =>
    simp only [show ((2 : Nat) = 3) = False by simp, if_false]
    cases afterDot (s.drop (runD s).length) with
    | none => rfl
    | some s1 =>
      simp only
      cases numT (runD s1) with
      | none => rfl
      | some b =>
        simp only [show ((1 : Nat) = 3) = False by simp, if_false]
        cases afterDot (s1.drop (runD s1).length) with
        | none => rfl
        | some s2 =>
          simp only
          cases numT (runD s2) with
          | none => rfl
          | some c =>
            simp only [show ((0 : Nat) = 3) = False by simp, if_false]
            cases afterDot (s2.drop (runD s2).length) with
            | none => rfl
            | some s3 =>
              simp only
              rw [end_num s3]
              cases numT (runD s3) with
              | none => rfl
              | some d =>
                by_cases he : s3.drop (runD s3).length = []
                · simp only [if_pos he, Option.some.injEq]; omega
                · simp only [if_neg he]
theorem num_run (l : List UInt8) : numT (runD l) = if runD l = [] ∨ (1 < (runD l).length ∧ (runD l).headD 0 = 48) ∨ 255 < valD (runD l) then none else some (valD (runD l)) := by
  have h4 := run_len l
  have hd := run_dig l
  have hall : (runD l).all isDig = true := List.all_eq_true.2 hd
  generalize runD l = t at *
  unfold numT
  by_cases hc : t = [] ∨ (1 < t.length ∧ t.headD 0 = 48) ∨ 255 < valD t
  · rw [if_pos hc, if_neg]
    rintro ⟨h1, h3, -, hz, hv⟩
    rcases hc with rfl | ⟨hc, he⟩ | hc
    · simp at h1
    · rcases hz with hz | hz
      · omega
      · exact hz he
    · omega
  · rw [if_neg hc, if_pos]
    simp only [not_or, not_and] at hc
    obtain ⟨c1, c2, c3⟩ := hc
    have l0 : 1 ≤ t.length := by cases t with | nil => simp at c1 | cons a t => simp
    refine ⟨l0, ?_, hall, ?_, by omega⟩
    · by_cases hlt : t.length ≤ 3
      · exact hlt
      · exfalso
        match t, (show t.length = 4 by omega) with
        | [a, b, c, d], _ =>
          have h0 := c2 (by simp)
          have ha := hd a (by simp)
          simp only [isDig, decide_eq_true_eq] at ha
          simp only [List.headD_cons] at h0
          have hne : a.toNat ≠ 48 := fun h => h0 (UInt8.toNat_inj.1 h)
          have e : valD [a, b, c, d] = 10 * (10 * (10 * (a.toNat - 48) + (b.toNat - 48)) + (c.toNat - 48)) + (d.toNat - 48) := by simp [valD]
          rw [e] at c3
          omega
    · by_cases h1 : t.length = 1
      · exact .inl h1
      · exact .inr (c2 (by omega))
theorem val_snoc (l : List UInt8) (x : UInt8) : valD (l ++ [x]) = 10 * valD l + (x.toNat - 48) := by
  unfold valD
  rw [List.foldl_append]
  rfl
theorem val_take (l : List UInt8) (j : Nat) (x : UInt8) (h : l[j]? = some x) : valD (l.take (j + 1)) = 10 * valD (l.take j) + (x.toNat - 48) := by
  rw [List.take_add_one, h]
  exact val_snoc _ _
theorem val_lt (l : List UInt8) (k : Nat) (hl : l.length ≤ k) (hd : ∀ a ∈ l, isDig a = true) (h4 : k ≤ 4) : valD l < 10000 := by
  match l, hl, hd with
  | [], _, _ => simp [valD]
  | [a], _, hd => simp [isDig] at hd; simp [valD]; omega
  | [a, b], _, hd => simp [isDig] at hd; simp [valD]; omega
  | [a, b, c], _, hd => simp [isDig] at hd; simp [valD]; omega
  | [a, b, c, d], _, hd => simp [isDig] at hd; simp [valD]; omega
  | a :: b :: c :: d :: e :: r, hl, _ => simp at hl; omega
end Go.Proofs.Ytkpelaojjfcpfaa
namespace Go.Proofs.Ytkpelaojjfcpfaa
set_option linter.unusedVariables false

theorem itoa_dig : ∀ v : Fin 256, Lib.itoa (v.val : Int) = digM v.val := by decide +kernel
theorem pu_stop (acc : Nat) (h : 26 ≤ acc) (l : List UInt8) (u : Nat) (hl : l ≠ []) : Lib.parseUintM 255 acc l ≠ .ok u := by
  cases l with
  | nil => exact absurd rfl hl
  | cons c r =>
    unfold Lib.parseUintM
    split
    · split
      · intro e; cases e
      · rw [if_pos (by omega)]; intro e; cases e
    · intro e; cases e
theorem pu_cons (acc : Nat) (c : UInt8) (r : List UInt8) (u : Nat) (ha : acc < 1000) (h : Lib.parseUintM 255 acc (c :: r) = .ok u) : isDig c = true ∧ acc * 10 + (c.toNat - 48) ≤ 255 ∧ Lib.parseUintM 255 (acc * 10 + (c.toNat - 48)) r = .ok u := by
  unfold Lib.parseUintM at h
  split at h
  · rename_i hd
    rw [if_neg (by omega)] at h
    split at h
    · cases h
    · exact ⟨by simp [isDig]; omega, by omega, h⟩
  · cases h
theorem pu_of (acc : Nat) (c : UInt8) (r : List UInt8) (ha : acc < 1000) (hd : isDig c = true) (hb : acc * 10 + (c.toNat - 48) ≤ 255) : Lib.parseUintM 255 acc (c :: r) = Lib.parseUintM 255 (acc * 10 + (c.toNat - 48)) r := by
  simp only [isDig, decide_eq_true_eq] at hd
  conv => lhs; unfold Lib.parseUintM
  rw [if_pos hd, if_neg (by omega), if_neg (by omega)]
/-- A text that ParseUint takes, without noughts in front, is a number's. -/
theorem num_of_pu {l : List UInt8} {u : Nat} (h : Lib.parseUintB 8 l = .ok u) (hz : l.length ≤ 1 ∨ l.headD 0 ≠ 48) : numT l = some u := by
  unfold Lib.parseUintB at h
  split at h
  · cases h
  · rename_i hne
    rw [show 2 ^ 8 - 1 = 255 from rfl] at h
    match l, hne, h, hz with
    | [], hne, _, _ => exact absurd rfl hne
    | [a], _, h, _ =>
      obtain ⟨d1, b1, h1⟩ := pu_cons 0 a [] u (by omega) h
      simp only [Lib.parseUintM] at h1
      cases h1
      unfold numT
      have e : valD [a] = 0 * 10 + (a.toNat - 48) := by simp [valD]
      rw [if_pos ⟨by simp, by simp, by simp [d1], .inl rfl, by rw [e]; exact b1⟩, e]
    | [a, b], _, h, hz =>
      obtain ⟨d1, b1, h1⟩ := pu_cons 0 a [b] u (by omega) h
      obtain ⟨d2, b2, h2⟩ := pu_cons _ b [] u (by omega) h1
      simp only [Lib.parseUintM] at h2
      cases h2
      unfold numT
      have e : valD [a, b] = (0 * 10 + (a.toNat - 48)) * 10 + (b.toNat - 48) := by simp [valD]; omega
      rw [if_pos ⟨by simp, by simp, by simp [d1, d2], .inr (by rcases hz with hz | hz; simp at hz; exact hz), by rw [e]; exact b2⟩, e]
    | [a, b, c], _, h, hz =>
      obtain ⟨d1, b1, h1⟩ := pu_cons 0 a [b, c] u (by omega) h
      obtain ⟨d2, b2, h2⟩ := pu_cons _ b [c] u (by omega) h1
      obtain ⟨d3, b3, h3⟩ := pu_cons _ c [] u (by omega) h2
      simp only [Lib.parseUintM] at h3
      cases h3
      unfold numT
      have e : valD [a, b, c] = ((0 * 10 + (a.toNat - 48)) * 10 + (b.toNat - 48)) * 10 + (c.toNat - 48) := by simp [valD]; omega
      rw [if_pos ⟨by simp, by simp, by simp [d1, d2, d3], .inr (by rcases hz with hz | hz; simp at hz; exact hz), by rw [e]; exact b3⟩, e]
    | a :: b :: c :: d :: r, _, h, hz =>
      exfalso
      obtain ⟨d1, b1, h1⟩ := pu_cons 0 a _ u (by omega) h
      obtain ⟨d2, b2, h2⟩ := pu_cons _ b _ u (by omega) h1
      obtain ⟨d3, b3, h3⟩ := pu_cons _ c _ u (by omega) h2
      have ha : a.toNat ≠ 48 := fun e => by
        rcases hz with hz | hz
        · simp at hz
        · exact hz (UInt8.toNat_inj.1 e)
      simp only [isDig, decide_eq_true_eq] at d1
      exact pu_stop _ (by omega) (d :: r) u (by simp) h3
/-- And a number's text is taken. -/
theorem pu_of_num {l : List UInt8} {u : Nat} (h : numT l = some u) : Lib.parseUintB 8 l = .ok u ∧ u ≤ 255 ∧ 1 ≤ l.length ∧ (l.length ≤ 1 ∨ l.headD 0 ≠ 48) := by
  unfold numT at h
  split at h
  · rename_i hc
    obtain ⟨h1, h3, hd, hz, hv⟩ := hc
    simp only [Option.some.injEq] at h
    subst h
    refine ⟨?_, hv, h1, by rcases hz with hz | hz; exact .inl (by omega); exact .inr hz⟩
    unfold Lib.parseUintB
    rw [show 2 ^ 8 - 1 = 255 from rfl]
    match l, h1, h3, hd, hv with
    | [a], _, _, hd, hv =>
      simp only [List.all_cons, List.all_nil, Bool.and_true] at hd
      have e : valD [a] = 0 * 10 + (a.toNat - 48) := by simp [valD]
      rw [e] at hv ⊢
      rw [if_neg (by simp), pu_of 0 a [] (by omega) hd hv]
      rfl
    | [a, b], _, _, hd, hv =>
      simp only [List.all_cons, List.all_nil, Bool.and_true, Bool.and_eq_true] at hd
      have e : valD [a, b] = (0 * 10 + (a.toNat - 48)) * 10 + (b.toNat - 48) := by simp [valD]; omega
      rw [e] at hv ⊢
      rw [if_neg (by simp), pu_of 0 a [b] (by omega) hd.1 (by omega), pu_of _ b [] (by omega) hd.2 hv]
      rfl
    | [a, b, c], _, _, hd, hv =>
      simp only [List.all_cons, List.all_nil, Bool.and_true, Bool.and_eq_true] at hd
      have e : valD [a, b, c] = ((0 * 10 + (a.toNat - 48)) * 10 + (b.toNat - 48)) * 10 + (c.toNat - 48) := by simp [valD]; omega
      rw [e] at hv ⊢
      rw [if_neg (by simp), pu_of 0 a [b, c] (by omega) hd.1 (by omega), pu_of _ b [c] (by omega) hd.2.1 (by omega), pu_of _ c [] (by omega) hd.2.2 hv]
      rfl
  · cases h
theorem num_nope {l : List UInt8} (h : (∀ u, Lib.parseUintB 8 l ≠ .ok u) ∨ (2 ≤ l.length ∧ l.headD 0 = 48)) : numT l = none := by
  cases hn : numT l with
  | none => rfl
  | some u =>
    obtain ⟨h1, _, _, h4⟩ := pu_of_num hn
    rcases h with h | ⟨h, h0⟩
    · exact absurd h1 (h u)
    · rcases h4 with h4 | h4
      · omega
      · exact absurd h0 h4
/-- Cut at the first k points at most. -/
def splitM : Nat → List UInt8 → List (List UInt8)
  | 0, s => [s]
  | k + 1, s => match upTo dot s with
    | (a, some r) => a :: splitM k r
    | (_, none) => [s]
theorem upTo_len {c : UInt8} {l a r : List UInt8} (h : upTo c l = (a, some r)) : a.length + r.length + 1 = l.length := by
  have := congrArg List.length (upTo_some h)
  simp at this
  omega
theorem index_dot (s : List UInt8) : Lib.index s [dot] = match upTo dot s with | (a, some _) => (a.length : Int) | (_, none) => -1 := by
  induction s with
  | nil => rfl
  | cons b l ih =>
    unfold Lib.index upTo
    by_cases hb : b = dot
    · subst hb
      simp
    · have : List.isPrefixOf [dot] (b :: l) = false := by simp [List.isPrefixOf]; intro e; exact hb e.symm
      rw [this, ih, if_neg hb]
      rcases h : upTo dot l with ⟨a, _ | r⟩
      · simp
      · have h0 : (((a.length : Nat) : Int) == -1) = false := by rw [beq_eq_false_iff_ne]; omega
        simp [h0]
theorem split_eq : ∀ (k : Nat) (s : List UInt8), Lib.splitK [dot] 0 k s = splitM k s
  | 0, _ => rfl
  | k + 1, s => by
    unfold Lib.splitK splitM
    rw [index_dot]
    rcases h : upTo dot s with ⟨a, _ | r⟩
    · simp
    · have h0 : (((a.length : Nat) : Int) == -1) = false := by rw [beq_eq_false_iff_ne]; omega
      have hs := upTo_some h
      simp only [h0, Bool.false_eq_true, if_false, Int.toNat_natCast, List.length_singleton, Nat.add_zero, List.cons.injEq]
      refine ⟨?_, ?_⟩
      · rw [hs]; simp
      · rw [split_eq k]
        congr 1
        rw [hs]
        simp [List.drop_append]
theorem split_more : ∀ (k : Nat) (s : List UInt8), s.length ≤ k → splitM (k + 1) s = splitM k s
  | 0, s, h => by
    have : s = [] := List.eq_nil_of_length_eq_zero (by omega)
    subst this
    rfl
  | k + 1, s, h => by
    rw [splitM]
    conv => rhs; rw [splitM]
    rcases hu : upTo dot s with ⟨a, _ | r⟩
    · rfl
    · have := upTo_len hu
      simp only
      rw [split_more k r (by omega)]
theorem split_four (s : List UInt8) : splitM (min 5 (s.length + 1) - 1) s = splitM 4 s := by
  by_cases h : 4 ≤ s.length
  · rw [show min 5 (s.length + 1) - 1 = 4 by omega]
  · rcases (show s.length = 0 ∨ s.length = 1 ∨ s.length = 2 ∨ s.length = 3 by omega) with h | h | h | h
    · rw [h, show min 5 (0 + 1) - 1 = 0 from rfl, split_more 3 s (by omega), split_more 2 s (by omega), split_more 1 s (by omega), split_more 0 s (by omega)]
    · rw [h, show min 5 (1 + 1) - 1 = 1 from rfl, split_more 3 s (by omega), split_more 2 s (by omega), split_more 1 s (by omega)]
    · rw [h, show min 5 (2 + 1) - 1 = 2 from rfl, split_more 3 s (by omega), split_more 2 s (by omega)]
    · rw [h, show min 5 (3 + 1) - 1 = 3 from rfl, split_more 3 s (by omega)]
/-- Numbers read one behind the other. -/
def evalM : Nat → List (List UInt8) → Option Nat
  | acc, [] => some acc
  | acc, p :: r => match numT p with
    | some v => evalM (acc * 256 + v) r
    | none => none
theorem num_dot {a r : List UInt8} : numT (a ++ dot :: r) = none := by
  cases h : numT (a ++ dot :: r) with
  | none => rfl
  | some v =>
    have := (num_dig_all h).1 dot (by simp)
    rw [dot_dig] at this
    cases this
/-- Parse, by parts. -/
theorem four_split (s : List UInt8) : fourT s = if (splitM 4 s).length = 4 then evalM 0 (splitM 4 s) else none := by
  unfold fourT
  rw [splitM]
  rcases h1 : upTo dot s with ⟨a, _ | s1⟩
  · simp
  simp only
  rw [splitM]
  rcases h2 : upTo dot s1 with ⟨b, _ | s2⟩
  · simp
  simp only
  rw [splitM]
  rcases h3 : upTo dot s2 with ⟨c, _ | s3⟩
  · simp
  simp only
  rw [splitM]
  rcases h4 : upTo dot s3 with ⟨d, _ | s4⟩
  · simp only [List.length_cons, List.length_nil, if_true, Nat.reduceAdd, evalM]
    rcases numT a with _ | va
    · rfl
    rcases numT b with _ | vb
    · rfl
    rcases numT c with _ | vc
    · rfl
    rcases numT s3 with _ | vd
    · rfl
    simp only [Option.some.injEq]
    omega
  · have hne : ¬ (a :: b :: c :: (match (upTo dot s3) with | (x, some r) => x :: splitM 0 r | (_, none) => [s3])).length = 4 := by rw [h4]; simp [splitM]
    rw [h4] at hne
    rw [if_neg hne, upTo_some h4, num_dot]
    rcases numT a with _ | va
    · rfl
    rcases numT b with _ | vb
    · rfl
    rcases numT c with _ | vc
    · rfl
    rfl
end Go.Proofs.Ytkpelaojjfcpfaa
