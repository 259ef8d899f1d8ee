/- Sums of TCP and UDP in plain words: sealed, right, one byte changed, another address. Nothing of the program is named here. -/
import Derived.Test.YtkpelaojjfcpfaaInD
namespace Go.Proofs.Ytkpelaojjfcpfaa
set_option linter.unusedVariables false

/-- Bytes one by one: a word's first byte counts 256 times. -/
def halfM : Nat → List UInt8 → List Nat
  | _, [] => []
  | k, a :: r => (if k % 2 = 0 then 256 * a.toNat else a.toNat) :: halfM (k + 1) r
/-- The sum of words, made byte by byte. -/
def byteM (l : List UInt8) : Nat := (halfM 0 l).foldl addM 0
theorem half_le (l : List UInt8) : ∀ k, ∀ w ∈ halfM k l, w ≤ 65535 := by
  induction l with
  | nil => intro k w hw; cases hw
  | cons a l ih =>
    intro k w hw
    simp only [halfM, List.mem_cons] at hw
    rcases hw with rfl | hw
    · have := a.toNat_lt; split <;> omega
    · exact ih _ w hw
theorem half_snoc (l : List UInt8) (a : UInt8) : ∀ k, halfM k (l ++ [a]) = halfM k l ++ [if (k + l.length) % 2 = 0 then 256 * a.toNat else a.toNat] := by
  induction l with
  | nil => intro k; simp [halfM]
  | cons x l ih => intro k; simp only [List.cons_append, halfM, ih, List.length_cons]; rw [show k + 1 + l.length = k + (l.length + 1) by omega]
theorem half_two (l : List UInt8) : ∀ k, halfM (k + 2) l = halfM k l := by
  induction l with
  | nil => intro k; rfl
  | cons x l ih => intro k; simp only [halfM]; rw [show k + 2 + 1 = k + 1 + 2 by omega, ih, show (k + 2) % 2 = k % 2 by omega]
theorem half_tot (l : List UInt8) : (halfM 0 l).foldl (· + ·) 0 = totM l := by
  match l with
  | [] => rfl
  | [a] => simp [halfM, totM, wordsM]
  | a :: b :: r =>
    rw [totM_cons2, ← half_tot r]
    simp only [halfM, List.foldl_cons]
    rw [foldl_plus, show 0 + 1 + 1 = 0 + 2 by omega, half_two]
    simp
theorem byte_acc (l : List UInt8) : byteM l = accM l := by
  unfold byteM
  rw [accM_eq, ← half_tot]
  exact foldl_norm _ (half_le l 0) 0
theorem byte_snoc (l : List UInt8) (a : UInt8) : byteM (l ++ [a]) = addM (byteM l) (if l.length % 2 = 0 then 256 * a.toNat else a.toNat) := by
  unfold byteM
  rw [half_snoc, List.foldl_append]
  simp
theorem byte_le (l : List UInt8) : byteM l ≤ 65535 := by rw [byte_acc]; exact accM_le l
theorem norm_full (T : Nat) (h : 0 < T) : normM T = 65535 ↔ T % 65535 = 0 := by
  have h1 := norm_mod T
  have h2 := normM_le T
  have h3 : normM T ≠ 0 := fun e => by have := h1.2.1 e; omega
  have h4 := h1.1
  generalize normM T = N at *
  omega
/-- One byte counts. -/
def wtM (k : Nat) : Nat := if k % 2 = 0 then 256 else 1
theorem wt_0 : wtM 0 = 256 := rfl
theorem wt_1 : wtM 1 = 1 := rfl
theorem tot_set (l : List UInt8) (k : Nat) (hk : k < l.length) (x : UInt8) : totM (l.set k x) + wtM k * l[k].toNat = totM l + wtM k * x.toNat := by
  match l, k, hk with
  | [a], 0, _ => simp [totM, wordsM, wtM]; omega
  | a :: b :: r, 0, _ => simp only [List.set_cons_zero, totM_cons2, List.getElem_cons_zero, wt_0]; omega
  | a :: b :: r, 1, _ => simp only [List.set_cons_succ, List.set_cons_zero, totM_cons2, List.getElem_cons_succ, List.getElem_cons_zero, wt_1]; omega
  | a :: b :: r, k + 2, hk =>
    have h := tot_set r k (by simpa using hk) x
    simp only [List.set_cons_succ, totM_cons2, List.getElem_cons_succ]
    rw [show wtM (k + 2) = wtM k by unfold wtM; rw [show (k + 2) % 2 = k % 2 by omega]]
    omega
/-- What stands ahead of a protocol's bytes. -/
def pseuM (s d p n : Nat) : List UInt8 := beM 4 s ++ (beM 4 d ++ ([0, UInt8.ofNat p] ++ beM 2 n))
theorem pseu_len (s d p n : Nat) : (pseuM s d p n).length = 12 := by simp [pseuM, beM_len]
theorem tot_be4 (x : Nat) (h : x < 4294967296) : totM (beM 4 x) = x / 65536 + x % 65536 := by
  have e : beM 4 x = [UInt8.ofNat (x / 16777216), UInt8.ofNat (x / 65536), UInt8.ofNat (x / 256), UInt8.ofNat x] := by simp [beM, List.range_succ]
  rw [e, totM_cons2, totM_cons2, totM_nil]
  simp only [UInt8.toNat_ofNat']
  omega
theorem tot_be2 (x : Nat) (h : x < 65536) : totM (beM 2 x) = x := by
  rw [beM_two, totM_cons2, totM_nil]
  simp only [UInt8.toNat_ofNat']
  omega
theorem tot_pseu (s d p n : Nat) (hs : s < 4294967296) (hd : d < 4294967296) (hp : p < 256) (hn : n < 65536) : totM (pseuM s d p n) = s / 65536 + s % 65536 + (d / 65536 + d % 65536) + p + n := by
  unfold pseuM
  rw [totM_app _ _ (by rw [beM_len]), totM_app _ _ (by rw [beM_len]), totM_app _ _ (by simp), tot_be4 s hs, tot_be4 d hd, tot_be2 n hn, totM_cons2, totM_nil]
  simp only [UInt8.toNat_ofNat', UInt8.toNat_zero]
  omega
def allB (s d p : Nat) (l : List UInt8) : List UInt8 := pseuM s d p l.length ++ l
theorem tot_all (s d p : Nat) (l : List UInt8) (hs : s < 4294967296) (hd : d < 4294967296) (hp : p < 256) (hn : l.length < 65536) : totM (allB s d p l) = s / 65536 + s % 65536 + (d / 65536 + d % 65536) + p + l.length + totM l := by
  unfold allB
  rw [totM_app _ _ (by rw [pseu_len]), tot_pseu s d p _ hs hd hp hn]
/-- UDP's sum is not made. -/
def nosM (p : Nat) (l : List UInt8) : Bool := decide (p = 17) && (decide (8 ≤ l.length) && (l.getD 6 0 == 0 && l.getD 7 0 == 0))
def rightM (s d p : Nat) (l : List UInt8) : Bool := decide (l.length ≤ 65535) && (nosM p l || accM (allB s d p l) == 65535)
def atM (p : Nat) : Nat := if p = 17 then 6 else 16
/-- The sum that is laid. -/
def laidM (p n : Nat) : Nat := if p = 17 ∧ n = 0 then 65535 else n
def bareM (p : Nat) (l : List UInt8) : List UInt8 := l.take (atM p) ++ 0 :: 0 :: l.drop (atM p + 2)
def sealM (s d p : Nat) (l : List UInt8) : List UInt8 × Int :=
  if p ≠ 6 ∧ p ≠ 17 ∨ 65535 < l.length then ([], 1) else if l.length < atM p + 2 then ([], 4) else
    (l.take (atM p) ++ (beM 2 (laidM p (sumM (allB s d p (bareM p l)))) ++ l.drop (atM p + 2)), 0)
/-- What is sealed, whole. -/
structure Sealed (s d p : Nat) (l r : List UInt8) : Prop where
  len : r.length = l.length
  head : r.take (atM p) = l.take (atM p)
  tail : r.drop (atM p + 2) = l.drop (atM p + 2)
  right : totM (allB s d p r) % 65535 = 0
  udp : p = 17 → ¬ (r.getD (atM p) 0 = 0 ∧ r.getD (atM p + 1) 0 = 0)
  again : sealM s d p r = (r, 0)
theorem seal_is (s d p : Nat) (l : List UInt8) (hs : s < 4294967296) (hd : d < 4294967296) (hp : p = 6 ∨ p = 17) (hl : l.length ≤ 65535) (ha : atM p + 2 ≤ l.length) : ∃ r, sealM s d p l = (r, 0) ∧ Sealed s d p l r := by
  have hat : atM p % 2 = 0 ∧ atM p + 2 ≤ 18 := by unfold atM; split <;> omega
  obtain ⟨A, hA⟩ : ∃ A, l.take (atM p) = A := ⟨_, rfl⟩
  obtain ⟨R, hR⟩ : ∃ R, l.drop (atM p + 2) = R := ⟨_, rfl⟩
  have hAl : A.length = atM p := by rw [← hA, List.length_take]; omega
  have hRl : R.length = l.length - (atM p + 2) := by rw [← hR, List.length_drop]
  obtain ⟨n, hn⟩ : ∃ n, laidM p (sumM (allB s d p (bareM p l))) = n := ⟨_, rfl⟩
  have hn0 : n < 65536 := by rw [← hn]; unfold laidM sumM; split <;> omega
  have hbe : bareM p l = A ++ 0 :: 0 :: R := by unfold bareM; rw [hA, hR]
  have hbl : (A ++ 0 :: 0 :: R).length = l.length := by simp only [List.length_append, List.length_cons]; omega
  have hsl : (A ++ (beM 2 n ++ R)).length = l.length := by simp only [List.length_append, beM_len]; omega
  have ht : (A ++ (beM 2 n ++ R)).take (atM p) = A := take_eq _ _ _ hAl
  have hd2 : (A ++ (beM 2 n ++ R)).drop (atM p + 2) = R := by
    rw [← List.append_assoc]
    exact drop_eq _ _ _ (by rw [List.length_append, beM_len, hAl])
  have hT0 := tot_all s d p (A ++ 0 :: 0 :: R) hs hd (by omega) (by omega)
  rw [totM_app _ _ (by omega), totM_cons2, hbl] at hT0
  have hT1 := tot_all s d p (A ++ (beM 2 n ++ R)) hs hd (by omega) (by omega)
  rw [totM_app _ _ (by omega), totM_app _ _ (by rw [beM_len]), tot_be2 n hn0, hsl] at hT1
  have hpos : 0 < totM (allB s d p (A ++ 0 :: 0 :: R)) := by omega
  have hsum : totM (allB s d p (A ++ (beM 2 n ++ R))) = totM (allB s d p (A ++ 0 :: 0 :: R)) + n := by
    rw [hT0, hT1]
    simp
    omega
  rw [hbe] at hn
  have hright : totM (allB s d p (A ++ (beM 2 n ++ R))) % 65535 = 0 := by
    rw [hsum, ← hn]
    unfold laidM sumM
    rw [accM_eq]
    have h1 := (norm_mod (totM (allB s d p (A ++ 0 :: 0 :: R)))).1
    have h2 := normM_le (totM (allB s d p (A ++ 0 :: 0 :: R)))
    generalize normM _ = N at *
    split <;> omega
  refine ⟨A ++ (beM 2 n ++ R), ?_, hsl, ht.trans hA.symm, hd2.trans hR.symm, hright, ?_, ?_⟩
  · unfold sealM
    rw [if_neg (by omega), if_neg (by omega), hA, hR, hbe, hn]
  · intro h17 ⟨h1, h2⟩
    have hnz : n ≠ 0 := by
      rw [← hn]
      unfold laidM
      split
      · decide
      · omega
    rw [beM_two] at h1 h2
    rw [List.getD_eq_getElem?_getD, List.getElem?_append_right (by omega), hAl, Nat.sub_self] at h1
    rw [List.getD_eq_getElem?_getD, List.getElem?_append_right (by omega), hAl, show atM p + 1 - atM p = 1 by omega] at h2
    simp at h1 h2
    have e1 := congrArg UInt8.toNat h1
    have e2 := congrArg UInt8.toNat h2
    simp only [UInt8.toNat_ofNat', UInt8.toNat_zero] at e1 e2
    omega
  · unfold sealM
    rw [if_neg (by omega), if_neg (by omega)]
    unfold bareM
    rw [ht, hd2, hn]
/-- Right, by the whole's sum. -/
theorem right_iff (s d p : Nat) (l : List UInt8) (hs : s < 4294967296) (hd : d < 4294967296) (hp : p = 6 ∨ p = 17) (hl : l.length ≤ 65535) : rightM s d p l = (nosM p l || decide (totM (allB s d p l) % 65535 = 0)) := by
  unfold rightM
  rw [decide_eq_true hl, Bool.true_and, accM_eq]
  have hT := tot_all s d p l hs hd (by omega) (by omega)
  have := norm_full (totM (allB s d p l)) (by omega)
  congr 1
  by_cases h : totM (allB s d p l) % 65535 = 0
  · rw [decide_eq_true h, this.2 h]; rfl
  · rw [decide_eq_false h]
    simp only [beq_eq_false_iff_ne]
    exact fun e => h (this.1 e)
/-- One byte changed: the sum is not right. -/
theorem right_other (s d p : Nat) (l : List UInt8) (hs : s < 4294967296) (hd : d < 4294967296) (hp : p = 6 ∨ p = 17) (hl : l.length ≤ 65535) (hr : totM (allB s d p l) % 65535 = 0) (k : Nat) (hk : k < l.length) (x : UInt8) (hx : x ≠ l[k]) : rightM s d p (l.set k x) = nosM p (l.set k x) := by
  rw [right_iff s d p _ hs hd hp (by rw [List.length_set]; exact hl)]
  have h1 := tot_all s d p l hs hd (by omega) (by omega)
  have h2 := tot_all s d p (l.set k x) hs hd (by omega) (by rw [List.length_set]; omega)
  have h3 := tot_set l k hk x
  rw [List.length_set] at h2
  have hne : x.toNat ≠ l[k].toNat := fun e => hx (UInt8.toNat_inj.1 e)
  have b1 := x.toNat_lt
  have b2 := l[k].toNat_lt
  generalize l[k].toNat = y at *
  generalize x.toNat = z at *
  rw [decide_eq_false, Bool.or_false]
  have hw : wtM k = 256 ∨ wtM k = 1 := by unfold wtM; split <;> simp
  rcases hw with e | e <;> rw [e] at h3 <;> omega
theorem xor_ne (x c : UInt8) (h : c ≠ 0) : x ^^^ c ≠ x := fun e => h (by
  have : x ^^^ (x ^^^ c) = c := by rw [← UInt8.xor_assoc, UInt8.xor_self, UInt8.zero_xor]
  rw [e, UInt8.xor_self] at this
  exact this.symm)
theorem right_swap (s d p : Nat) (l : List UInt8) (hs : s < 4294967296) (hd : d < 4294967296) (hp : p = 6 ∨ p = 17) (hl : l.length ≤ 65535) : rightM d s p l = rightM s d p l := by
  rw [right_iff s d p l hs hd hp hl, right_iff d s p l hd hs hp hl, tot_all s d p l hs hd (by omega) (by omega), tot_all d s p l hd hs (by omega) (by omega)]
  rw [show d / 65536 + d % 65536 + (s / 65536 + s % 65536) = s / 65536 + s % 65536 + (d / 65536 + d % 65536) by omega]
theorem xor_mod2 (a b : Nat) : (a ^^^ b) % 2 = (a + b) % 2 := by
  have h := Nat.xor_mod_two_pow (a := a) (b := b) (n := 1)
  rw [Nat.pow_one] at h
  rw [h]
  rcases Nat.mod_two_eq_zero_or_one a with h1 | h1 <;> rcases Nat.mod_two_eq_zero_or_one b with h2 | h2 <;> rw [h1, h2] <;> simp <;> omega
/-- One bit turned. -/
theorem flip_bit (k : Nat) : ∀ s : Nat, s ^^^ 2 ^ k = s + 2 ^ k ∨ (s ^^^ 2 ^ k) + 2 ^ k = s := by
  induction k with
  | zero =>
    intro s
    have h1 := Nat.xor_div_two (a := s) (b := 1)
    have h2 : (s ^^^ 1) % 2 = (s + 1) % 2 := xor_mod2 _ _
    simp only [Nat.pow_zero]
    rw [show 1 / 2 = 0 from rfl, Nat.xor_zero] at h1
    omega
  | succ k ih =>
    intro s
    have h1 := Nat.xor_div_two (a := s) (b := 2 ^ (k + 1))
    have h2 : (s ^^^ 2 ^ (k + 1)) % 2 = (s + 2 ^ (k + 1)) % 2 := xor_mod2 _ _
    have h3 : 2 ^ (k + 1) = 2 * 2 ^ k := by rw [Nat.pow_succ]; omega
    rw [h3] at h1 h2 ⊢
    rw [show 2 * 2 ^ k / 2 = 2 ^ k by omega] at h1
    have h4 := ih (s / 2)
    generalize 2 ^ k = P at *
    generalize s ^^^ 2 * P = X at *
    generalize s / 2 ^^^ P = Y at *
    omega
theorem pow_mod (k : Nat) (h : k < 32) : 2 ^ k % 65535 ≠ 0 ∧ 2 ^ k < 4294967296 := by
  have : ∀ k, k < 32 → 2 ^ k % 65535 ≠ 0 ∧ 2 ^ k < 4294967296 := by decide
  exact this k h
theorem right_addr (s d p : Nat) (l : List UInt8) (hs : s < 4294967296) (hd : d < 4294967296) (hp : p = 6 ∨ p = 17) (hl : l.length ≤ 65535) (hr : totM (allB s d p l) % 65535 = 0) (hz : nosM p l = false) (k : Nat) (hk : k < 32) : rightM (s ^^^ 2 ^ k) d p l = false := by
  have hx : s ^^^ 2 ^ k < 4294967296 := Nat.xor_lt_two_pow (n := 32) hs (pow_mod k hk).2
  rw [right_iff _ d p l hx hd hp hl, hz, Bool.false_or]
  rw [tot_all _ d p l hx hd (by omega) (by omega)]
  rw [tot_all s d p l hs hd (by omega) (by omega)] at hr
  have h1 := (pow_mod k hk).1
  have h2 := flip_bit k s
  generalize s ^^^ 2 ^ k = X at *
  generalize 2 ^ k = P at *
  rw [decide_eq_false]
  intro h
  have e1 : X / 65536 + X % 65536 + 65535 * (X / 65536) = X := by omega
  have e2 : s / 65536 + s % 65536 + 65535 * (s / 65536) = s := by omega
  generalize X / 65536 + X % 65536 = x0 at *
  generalize s / 65536 + s % 65536 = s0 at *
  generalize X / 65536 = x1 at *
  generalize s / 65536 = s1 at *
  omega
theorem none_sealed (s d p : Nat) (l r : List UInt8) (h : Sealed s d p l r) : nosM p r = false := by
  unfold nosM
  by_cases h17 : p = 17
  · have := h.udp h17
    subst h17
    simp only [atM, if_pos] at this
    by_cases h6 : r.getD 6 0 = 0
    · have h7 : ¬ r.getD 7 0 = 0 := fun e => this ⟨h6, e⟩
      have h7' : (r.getD 7 0 == 0) = false := by simpa using h7
      rw [h7']
      simp
    · have h6' : (r.getD 6 0 == 0) = false := by simpa using h6
      rw [h6']
      simp
  · simp [h17]
theorem set_two (l : List UInt8) (k : Nat) (a b : UInt8) (h : k + 2 ≤ l.length) : (l.set k a).set (k + 1) b = l.take k ++ a :: b :: l.drop (k + 2) := by
  have h1 := (List.take_append_drop k l).symm
  have h2 : l.drop k = l[k] :: l[k + 1] :: l.drop (k + 2) := by rw [List.drop_eq_getElem_cons (by omega), List.drop_eq_getElem_cons (by omega)]
  rw [h2] at h1
  have hl : (l.take k).length = k := by rw [List.length_take]; omega
  conv => lhs; rw [h1]
  rw [List.set_append_right _ _ (by omega), hl, Nat.sub_self, List.set_cons_zero, List.set_append_right _ _ (by omega), hl, show k + 1 - k = 1 by omega]
  rfl
theorem bare_is (p : Nat) (l : List UInt8) (h : atM p + 2 ≤ l.length) : (l.set (atM p) (UInt8.ofNat (0 / 256))).set (atM p + 1) (UInt8.ofNat 0) = bareM p l := set_two l _ _ _ h
theorem bare_len (p : Nat) (l : List UInt8) (h : atM p + 2 ≤ l.length) : (bareM p l).length = l.length := by
  rw [← bare_is p l h, List.length_set, List.length_set]
theorem laid_is (p : Nat) (l : List UInt8) (x : Nat) (h : atM p + 2 ≤ l.length) : ((bareM p l).set (atM p) (UInt8.ofNat (x / 256))).set (atM p + 1) (UInt8.ofNat x) = l.take (atM p) ++ (beM 2 x ++ l.drop (atM p + 2)) := by
  rw [set_two _ _ _ _ (by rw [bare_len p l h]; exact h)]
  have hl : (l.take (atM p)).length = atM p := by rw [List.length_take]; omega
  have h1 : (bareM p l).take (atM p) = l.take (atM p) := by
    unfold bareM
    rw [List.take_append_of_le_length (by omega), List.take_of_length_le (by omega)]
  have h2 : (bareM p l).drop (atM p + 2) = l.drop (atM p + 2) := by
    unfold bareM
    rw [List.drop_append, List.drop_eq_nil_of_le (by omega), hl, show atM p + 2 - atM p = 2 by omega]
    rfl
  rw [h1, h2, beM_two]
  rfl
theorem laid_lt (p x : Nat) (h : x < 65536) : laidM p x < 65536 := by unfold laidM; split <;> omega
end Go.Proofs.Ytkpelaojjfcpfaa
