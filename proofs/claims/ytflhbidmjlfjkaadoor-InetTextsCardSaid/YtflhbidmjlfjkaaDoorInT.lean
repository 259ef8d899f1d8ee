/- Addresses' and prefixes' texts in plain words. Nothing of the program is named here. -/
import Derived.Test.YtflhbidmjlfjkaaDoorMem
namespace Go.Proofs.YtflhbidmjlfjkaaDoor
set_option linter.unusedVariables false

/-- A number's digits. -/
def digM (n : Nat) : List UInt8 :=
  if n < 10 then [UInt8.ofNat (48 + n)] else if n < 100 then [UInt8.ofNat (48 + n / 10), UInt8.ofNat (48 + n % 10)] else [UInt8.ofNat (48 + n / 100), UInt8.ofNat (48 + n / 10 % 10), UInt8.ofNat (48 + n % 10)]
def isDig (c : UInt8) : Bool := decide (48 ≤ c.toNat ∧ c.toNat ≤ 57)
def valD (l : List UInt8) : Nat := l.foldl (fun n c => 10 * n + (c.toNat - 48)) 0
/-- A number from 0 to 255, without noughts in front. -/
def numT (l : List UInt8) : Option Nat :=
  if 1 ≤ l.length ∧ l.length ≤ 3 ∧ l.all isDig = true ∧ (l.length = 1 ∨ l.headD 0 ≠ 48) ∧ valD l ≤ 255 then some (valD l) else none
theorem num_dig : ∀ v : Fin 256, numT (digM v.val) = some v.val ∧ (digM v.val).all isDig = true := by decide +kernel
theorem dig_num {l : List UInt8} {v : Nat} (h : numT l = some v) : digM v = l ∧ v ≤ 255 := by
  unfold numT at h
  split at h
  · rename_i hc
    obtain ⟨h1, h3, hd, hz, hv⟩ := hc
    simp only [Option.some.injEq] at h
    subst h
    refine ⟨?_, hv⟩
    match l, h1, h3, hd, hz, hv with
    | [a], _, _, hd, _, _ =>
      simp only [List.all_cons, List.all_nil, Bool.and_true, isDig, decide_eq_true_eq] at hd
      have e : valD [a] = a.toNat - 48 := by simp [valD]
      rw [e]
      unfold digM
      rw [if_pos (by omega), show 48 + (a.toNat - 48) = a.toNat by omega, UInt8.ofNat_toNat]
    | [a, b], _, _, hd, hz, _ =>
      simp only [List.all_cons, List.all_nil, Bool.and_true, isDig, Bool.and_eq_true, decide_eq_true_eq] at hd
      have e : valD [a, b] = 10 * (a.toNat - 48) + (b.toNat - 48) := by simp [valD]
      have hz : a ≠ 48 := by rcases hz with hz | hz; simp at hz; exact hz
      have ha : a.toNat ≠ 48 := fun h => hz (UInt8.toNat_inj.1 h)
      rw [e]
      unfold digM
      rw [if_neg (by omega), if_pos (by omega), show 48 + (10 * (a.toNat - 48) + (b.toNat - 48)) / 10 = a.toNat by omega, show 48 + (10 * (a.toNat - 48) + (b.toNat - 48)) % 10 = b.toNat by omega, UInt8.ofNat_toNat, UInt8.ofNat_toNat]
    | [a, b, c], _, _, hd, hz, _ =>
      simp only [List.all_cons, List.all_nil, Bool.and_true, isDig, Bool.and_eq_true, decide_eq_true_eq] at hd
      have e : valD [a, b, c] = 10 * (10 * (a.toNat - 48) + (b.toNat - 48)) + (c.toNat - 48) := by simp [valD]
      have hz : a ≠ 48 := by rcases hz with hz | hz; simp at hz; exact hz
      have ha : a.toNat ≠ 48 := fun h => hz (UInt8.toNat_inj.1 h)
      rw [e]
      unfold digM
      rw [if_neg (by omega), if_neg (by omega), show 48 + (10 * (10 * (a.toNat - 48) + (b.toNat - 48)) + (c.toNat - 48)) / 100 = a.toNat by omega, show 48 + (10 * (10 * (a.toNat - 48) + (b.toNat - 48)) + (c.toNat - 48)) / 10 % 10 = b.toNat by omega, show 48 + (10 * (10 * (a.toNat - 48) + (b.toNat - 48)) + (c.toNat - 48)) % 10 = c.toNat by omega, UInt8.ofNat_toNat, UInt8.ofNat_toNat, UInt8.ofNat_toNat]
  · cases h
/-- What stands ahead of the first c, and behind it (none, if there is none). -/
def upTo (c : UInt8) : List UInt8 → List UInt8 × Option (List UInt8)
  | [] => ([], none)
  | a :: r => if a = c then ([], some r) else (a :: (upTo c r).1, (upTo c r).2)
theorem upTo_app (c : UInt8) (l r : List UInt8) (h : ∀ a ∈ l, a ≠ c) : upTo c (l ++ c :: r) = (l, some r) := by
  induction l with
  | nil => simp [upTo]
  | cons a l ih =>
    have := ih (fun x hx => h x (by simp [hx]))
    simp only [List.cons_append, upTo, if_neg (h a (by simp)), this]
theorem upTo_none (c : UInt8) (l : List UInt8) (h : ∀ a ∈ l, a ≠ c) : upTo c l = (l, none) := by
  induction l with
  | nil => rfl
  | cons a l ih =>
    have := ih (fun x hx => h x (by simp [hx]))
    simp only [upTo, if_neg (h a (by simp)), this]
theorem upTo_some {c : UInt8} {l a r : List UInt8} (h : upTo c l = (a, some r)) : l = a ++ c :: r := by
  induction l generalizing a with
  | nil => simp [upTo] at h
  | cons x l ih =>
    unfold upTo at h
    split at h
    · rename_i hx
      simp at h
      obtain ⟨rfl, rfl⟩ := h
      rw [hx]; rfl
    · simp only [Prod.mk.injEq] at h
      obtain ⟨rfl, h2⟩ := h
      have := ih (a := (upTo c l).1) (by rw [← h2])
      rw [List.cons_append, ← this]
theorem upTo_no {c : UInt8} {l a : List UInt8} (h : upTo c l = (a, none)) : l = a ∧ ∀ x ∈ l, x ≠ c := by
  induction l generalizing a with
  | nil => simp [upTo] at h; exact ⟨h.symm ▸ rfl, fun x hx => by cases hx⟩
  | cons x l ih =>
    unfold upTo at h
    split at h
    · simp at h
    · rename_i hx
      simp only [Prod.mk.injEq] at h
      obtain ⟨rfl, h2⟩ := h
      obtain ⟨i1, i2⟩ := ih (a := (upTo c l).1) (by rw [← h2])
      exact ⟨by rw [← i1], fun y hy => by rcases List.mem_cons.1 hy with rfl | hy; exact hx; exact i2 y hy⟩
def dot : UInt8 := 46
def slash : UInt8 := 47
/-- Four numbers, points between. -/
def fourT (s : List UInt8) : Option Nat :=
  match upTo dot s with
  | (a, some s1) => match upTo dot s1 with
    | (b, some s2) => match upTo dot s2 with
      | (c, some s3) => match numT a, numT b, numT c, numT s3 with
        | some a, some b, some c, some d => some (a * 16777216 + b * 65536 + c * 256 + d)
        | _, _, _, _ => none
      | _ => none
    | _ => none
  | _ => none
def parseM (s : List UInt8) : Nat × Int := match fourT s with | some n => (n, 0) | none => (0, 5)
def textM (ip : Nat) : List UInt8 := digM (ip / 16777216) ++ dot :: (digM (ip / 65536 % 256) ++ dot :: (digM (ip / 256 % 256) ++ dot :: digM (ip % 256)))
theorem dig_no (v : Nat) (hv : v < 256) (c : UInt8) (hc : isDig c = false) : ∀ a ∈ digM v, a ≠ c := by
  intro a ha e
  subst e
  have := (num_dig ⟨v, hv⟩).2
  rw [List.all_eq_true] at this
  rw [this a ha] at hc
  cases hc
theorem four_text (ip : Nat) (h : ip < 4294967296) : fourT (textM ip) = some ip := by
  have hd : isDig dot = false := by decide
  have n1 := (num_dig ⟨ip / 16777216, by omega⟩).1
  have n2 := (num_dig ⟨ip / 65536 % 256, by omega⟩).1
  have n3 := (num_dig ⟨ip / 256 % 256, by omega⟩).1
  have n4 := (num_dig ⟨ip % 256, by omega⟩).1
  simp only at n1 n2 n3 n4
  unfold fourT textM
  rw [upTo_app dot _ _ (dig_no _ (by omega) dot hd)]
  simp only
  rw [upTo_app dot _ _ (dig_no _ (by omega) dot hd)]
  simp only
  rw [upTo_app dot _ _ (dig_no _ (by omega) dot hd)]
  simp only
  rw [n1, n2, n3, n4]
  simp only [Option.some.injEq]
  omega
theorem text_four {s : List UInt8} {n : Nat} (h : fourT s = some n) : textM n = s ∧ n < 4294967296 := by
  unfold fourT at h
  split at h
  · rename_i a s1 e1
    split at h
    · rename_i b s2 e2
      split at h
      · rename_i c s3 e3
        split at h
        · rename_i va vb vc vd h1 h2 h3 h4
          simp only [Option.some.injEq] at h
          obtain ⟨d1, v1⟩ := dig_num h1
          obtain ⟨d2, v2⟩ := dig_num h2
          obtain ⟨d3, v3⟩ := dig_num h3
          obtain ⟨d4, v4⟩ := dig_num h4
          rw [upTo_some e1, upTo_some e2, upTo_some e3, ← d1, ← d2, ← d3, ← d4]
          subst h
          refine ⟨?_, by omega⟩
          unfold textM
          rw [show (va * 16777216 + vb * 65536 + vc * 256 + vd) / 16777216 = va by omega, show (va * 16777216 + vb * 65536 + vc * 256 + vd) / 65536 % 256 = vb by omega, show (va * 16777216 + vb * 65536 + vc * 256 + vd) / 256 % 256 = vc by omega, show (va * 16777216 + vb * 65536 + vc * 256 + vd) % 256 = vd by omega]
        · cases h
      · cases h
    · cases h
  · cases h
/-- An address's first bits. -/
def maskM (ip bits : Nat) : Nat := ip / 2 ^ (32 - bits) * 2 ^ (32 - bits)
theorem mask_le (ip bits : Nat) : maskM ip bits ≤ ip := Nat.div_mul_le_self _ _
theorem mask_mask (ip bits : Nat) : maskM (maskM ip bits) bits = maskM ip bits := by
  unfold maskM
  rw [Nat.mul_div_cancel _ (Nat.two_pow_pos _)]
theorem mask_32 (ip : Nat) : maskM ip 32 = ip := by unfold maskM; simp
theorem mask_eq (a b bits : Nat) : maskM a bits = maskM b bits ↔ a / 2 ^ (32 - bits) = b / 2 ^ (32 - bits) := by
  unfold maskM
  constructor
  · intro h
    have := congrArg (· / 2 ^ (32 - bits)) h
    simpa [Nat.mul_div_cancel _ (Nat.two_pow_pos _)] using this
  · intro h; rw [h]
theorem mask_less (a b bits : Nat) (h : maskM a (bits + 1) = maskM b (bits + 1)) : maskM a bits = maskM b bits := by
  rw [mask_eq] at h ⊢
  by_cases hb : bits < 32
  · have e : 2 ^ (32 - bits) = 2 ^ (32 - (bits + 1)) * 2 := by rw [← Nat.pow_succ]; congr 1; omega
    rw [e, ← Nat.div_div_eq_div_mul, ← Nat.div_div_eq_div_mul, h]
  · rw [show 32 - (bits + 1) = 32 - bits by omega] at h
    exact h
theorem xor_zero (x y : Nat) : x ^^^ y = 0 ↔ x = y := by
  constructor
  · intro h
    apply Nat.eq_of_testBit_eq
    intro i
    have h1 := congrArg (fun z => z.testBit i) h
    simp only [Nat.testBit_xor, Nat.zero_testBit] at h1
    cases hx : x.testBit i <;> cases hy : y.testBit i <;> simp [hx, hy] at h1 ⊢
  · rintro rfl
    exact Nat.xor_self x
theorem xor_div (a b k : Nat) : (a ^^^ b) / 2 ^ k = 0 ↔ a / 2 ^ k = b / 2 ^ k := by
  rw [← Nat.shiftRight_eq_div_pow, ← Nat.shiftRight_eq_div_pow, ← Nat.shiftRight_eq_div_pow, Nat.shiftRight_xor_distrib, xor_zero]
/-- How many bits, brought there. -/
def clipM (bits : Int) : Nat := if bits < 0 then 0 else if 32 < bits then 32 else bits.toNat
theorem clip_le (b : Int) : clipM b ≤ 32 := by unfold clipM; split; omega; split <;> omega
theorem clip_nat (k : Nat) (h : k ≤ 32) : clipM (k : Int) = k := by unfold clipM; rw [if_neg (by omega), if_neg (by omega)]; rfl
def ptextM (ip : Nat) (bits : Int) : List UInt8 := if clipM bits = 32 then textM ip else textM (maskM ip (clipM bits)) ++ slash :: digM (clipM bits)
/-- One or two digits, the first of two no nought. -/
def bitsT (l : List UInt8) : Option Nat := if 1 ≤ l.length ∧ l.length ≤ 2 ∧ l.all isDig = true ∧ (l.length = 1 ∨ l.headD 0 ≠ 48) then some (valD l) else none
def pparseM (s : List UInt8) : Nat × Nat × Int :=
  match upTo slash s with
  | (a, none) => match fourT a with | some n => (n, 32, 0) | none => (0, 0, 5)
  | (a, some r) => match fourT a with
    | none => (0, 0, 5)
    | some n => match bitsT r with
      | none => (0, 0, 5)
      | some k => if 32 < k then (0, 0, 24) else (maskM n k, k, 0)
theorem bits_dig : ∀ v : Fin 33, bitsT (digM v.val) = some v.val := by decide +kernel
theorem text_no_slash (ip : Nat) (h : ip < 4294967296) : ∀ a ∈ textM ip, a ≠ slash := by
  have hs : isDig slash = false := by decide
  intro a ha
  unfold textM at ha
  simp only [List.mem_append, List.mem_cons] at ha
  rcases ha with ha | rfl | ha | rfl | ha | rfl | ha
  · exact dig_no _ (by omega) slash hs a ha
  · decide
  · exact dig_no _ (by omega) slash hs a ha
  · decide
  · exact dig_no _ (by omega) slash hs a ha
  · decide
  · exact dig_no _ (by omega) slash hs a ha
/-- THERE AND BACK: a prefix's text. -/
theorem pparse_text (ip : Nat) (h : ip < 4294967296) (bits : Int) : pparseM (ptextM ip bits) = (maskM ip (clipM bits), clipM bits, 0) := by
  have hc := clip_le bits
  unfold ptextM
  split
  · rename_i h32
    unfold pparseM
    rw [upTo_none slash _ (text_no_slash ip h)]
    simp only [four_text ip h, h32, mask_32]
  · rename_i h32
    have hm : maskM ip (clipM bits) < 4294967296 := Nat.lt_of_le_of_lt (mask_le _ _) h
    have hb := bits_dig ⟨clipM bits, by omega⟩
    simp only at hb
    unfold pparseM
    rw [upTo_app slash _ _ (text_no_slash _ hm)]
    simp only [four_text _ hm, hb, if_neg (show ¬ 32 < clipM bits by omega), mask_mask]
theorem pparse_ok (s : List UInt8) : (pparseM s).1 < 4294967296 ∧ (pparseM s).2.1 ≤ 32 ∧ maskM (pparseM s).1 (pparseM s).2.1 = (pparseM s).1 ∧ ((pparseM s).2.2 ≠ 0 → (pparseM s).1 = 0 ∧ (pparseM s).2.1 = 0) := by
  have hz : maskM 0 0 = 0 := by decide
  unfold pparseM
  split
  · split
    · rename_i n hn
      exact ⟨(text_four hn).2, Nat.le_refl 32, mask_32 n, fun h => absurd rfl h⟩
    · exact ⟨by decide, by decide, hz, fun _ => ⟨rfl, rfl⟩⟩
  · split
    · exact ⟨by decide, by decide, hz, fun _ => ⟨rfl, rfl⟩⟩
    · rename_i n hn
      split
      · exact ⟨by decide, by decide, hz, fun _ => ⟨rfl, rfl⟩⟩
      · rename_i k hk
        split
        · exact ⟨by decide, by decide, hz, fun _ => ⟨rfl, rfl⟩⟩
        · rename_i h32
          exact ⟨Nat.lt_of_le_of_lt (mask_le _ _) (text_four hn).2, by simp only; omega, mask_mask _ _, fun h => absurd rfl h⟩
end Go.Proofs.YtflhbidmjlfjkaaDoor
