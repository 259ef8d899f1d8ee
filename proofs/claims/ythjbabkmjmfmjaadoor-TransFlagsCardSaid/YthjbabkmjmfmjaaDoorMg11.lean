/- Texts that belong together, one behind the other: TrF, TrL. Conditions: those of each. -/
import Derived.Test.YthjbabkmjmfmjaaDoorMg1
import Derived.Lib.Bytealg
/- Flags as text in plain words: told, read, one to one. Nothing of the program is named here. -/
namespace Go.Proofs.YthjbabkmjmfmjaaDoor
set_option linter.unusedVariables false

/-- Cut at each byte c. -/
def splitC (c : UInt8) : List UInt8 → List (List UInt8)
  | [] => [[]]
  | a :: l => if a = c then [] :: splitC c l else match splitC c l with
    | [] => [[a]]
    | h :: t => (a :: h) :: t
def joinC (c : UInt8) : List (List UInt8) → List UInt8
  | [] => []
  | [x] => x
  | x :: y :: r => x ++ c :: joinC c (y :: r)
theorem split_ne (c : UInt8) (l : List UInt8) : splitC c l ≠ [] := by
  cases l with
  | nil => simp [splitC]
  | cons a l =>
    unfold splitC
    split
    · simp
    · split <;> simp
/-- A piece with no c in it, then c. -/
theorem split_piece (c : UInt8) (x r : List UInt8) (h : c ∉ x) : splitC c (x ++ c :: r) = x :: splitC c r := by
  induction x with
  | nil => simp [splitC]
  | cons a x ih =>
    simp only [List.mem_cons, not_or] at h
    simp only [List.cons_append, splitC]
    rw [if_neg (Ne.symm h.1), ih h.2]
theorem split_last (c : UInt8) (x : List UInt8) (h : c ∉ x) : splitC c x = [x] := by
  induction x with
  | nil => rfl
  | cons a x ih =>
    simp only [List.mem_cons, not_or] at h
    unfold splitC
    rw [if_neg (Ne.symm h.1), ih h.2]
theorem split_join (c : UInt8) (l : List UInt8) : joinC c (splitC c l) = l := by
  induction l with
  | nil => rfl
  | cons a l ih =>
    unfold splitC
    have hne := split_ne c l
    split
    · rename_i h
      subst h
      cases hs : splitC a l with
      | nil => exact absurd hs hne
      | cons x t => rw [hs] at ih; simp [joinC, ih]
    · cases hs : splitC c l with
      | nil => exact absurd hs hne
      | cons x t =>
        rw [hs] at ih
        cases t with
        | nil => simp only [joinC] at ih ⊢; rw [ih]
        | cons y t => simp only [joinC] at ih ⊢; rw [List.cons_append, ih]
/-- As many as all pieces have, and one between two. -/
theorem split_len (c : UInt8) (l : List UInt8) : l.length + 1 = ((splitC c l).map (fun x => x.length + 1)).sum := by
  induction l with
  | nil => simp [splitC]
  | cons a l ih =>
    unfold splitC
    have hne := split_ne c l
    split
    · simp only [List.map_cons, List.sum_cons, List.length_nil, List.length_cons, ← ih]; omega
    · cases hs : splitC c l with
      | nil => exact absurd hs hne
      | cons x t =>
        rw [hs] at ih
        simp only [List.map_cons, List.sum_cons, List.length_cons] at ih ⊢
        omega
/-- The flags' names. -/
def flagL : List (List UInt8) := [[102, 105, 110], [115, 121, 110], [114, 115, 116], [112, 115, 104], [97, 99, 107], [117, 114, 103], [101, 99, 101], [99, 119, 114]]
theorem flagL_len : flagL.length = 8 := rfl
/-- Every name has three bytes. -/
theorem flag_three : ∀ x ∈ flagL, x.length = 3 := by decide
def flagAt (k : Nat) : List UInt8 := flagL.getD k []
theorem flag_len (k : Nat) (h : k < 8) : (flagAt k).length = 3 := by
  have : ∀ k, k < 8 → (flagAt k).length = 3 := by decide
  exact this k h
/-- A text so far, with the flags from the k-th on. -/
def tellGo (f k : Nat) (s : List UInt8) : List UInt8 := if f % 2 = 1 then (if s = [] then s else s ++ [44]) ++ flagAt k else s
def tellF (f : Nat) : Nat → List UInt8
  | 0 => []
  | k + 1 => tellGo (f / 2 ^ k) k (tellF f k)
def flagT (f : Nat) : List UInt8 := if tellF f 8 = [] then [45] else tellF f 8
/-- Which flag it is. -/
def findF (p : List UInt8) : Option Nat := (List.range 8).findSome? fun k => if flagAt k = p then some k else none
theorem find_at (p : List UInt8) (k : Nat) (h : findF p = some k) : k < 8 ∧ flagAt k = p := by
  obtain ⟨j, hj, hj2⟩ := List.exists_of_findSome?_eq_some h
  split at hj2
  · rename_i e
    cases hj2
    exact ⟨List.mem_range.1 hj, e⟩
  · cases hj2
def cntF (ix : List Nat) : Nat := ((List.range 8).map fun k => 2 ^ k * ix.count k).sum
def manyF (ix : List Nat) : Bool := (List.range 8).any fun k => decide (1 < ix.count k)
def flagIx (l : List (List UInt8)) : Option (List Nat) := l.mapM findF
def flagP (s : List UInt8) : Nat × Int := if s = [45] then (0, 0) else match flagIx (splitC 44 s) with
  | none => (0, 23)
  | some ix => if manyF ix then (0, 9) else (cntF ix, 0)
set_option maxRecDepth 100000 in
/-- Told, and read again: as it stands, the other way round, one told twice, and with what is none. -/
theorem flags_back : ∀ f : Fin 256, flagP (flagT f) = (f.val, 0) ∧ flagP (joinC 44 (splitC 44 (flagT f)).reverse) = (f.val, 0) ∧ flagP (flagT f ++ 44 :: ((splitC 44 (flagT f)).reverse.headD [])) = (0, if f.val = 0 then 23 else 9) ∧ flagP (flagT f ++ [44, 83, 89, 78]) = (0, 23) := by decide +kernel
/-- How long a text is. -/
theorem flagT_len : ∀ f : Fin 256, (flagT f).length + 1 = (if f.val = 0 then 2 else ((List.range 8).map fun k => 4 * (f.val / 2 ^ k % 2)).sum) := by decide +kernel
theorem ix_len (l : List (List UInt8)) : ∀ ix, flagIx l = some ix → (l.map (fun x => x.length + 1)).sum = 4 * ix.length ∧ ∀ k ∈ ix, k < 8 := by
  induction l with
  | nil =>
    intro ix h
    have : ([] : List Nat) = ix := by simpa [flagIx] using h
    subst this
    simp
  | cons x l ih =>
    intro ix h
    unfold flagIx at h
    rw [List.mapM_cons] at h
    cases hx : findF x with
    | none => rw [hx] at h; cases h
    | some k =>
      rw [hx] at h
      cases hl : List.mapM findF l with
      | none => rw [hl] at h; cases h
      | some iy =>
        rw [hl] at h
        have h' : k :: iy = ix := by simpa using h
        subst h'
        obtain ⟨h1, h2⟩ := ih iy hl
        obtain ⟨hk, hf⟩ := find_at x k hx
        have h3 := flag_len k hk
        rw [hf] at h3
        refine ⟨by simp only [List.map_cons, List.sum_cons, List.length_cons, h1, h3]; omega, ?_⟩
        intro j hj
        rcases List.mem_cons.1 hj with rfl | hj
        · exact hk
        · exact h2 j hj
theorem cnt_len (ix : List Nat) (h : ∀ k ∈ ix, k < 8) : ((List.range 8).map fun k => ix.count k).sum = ix.length := by
  induction ix with
  | nil => rfl
  | cons a ix ih =>
    have h1 := ih (fun k hk => h k (by simp [hk]))
    have ha := h a (by simp)
    simp only [List.range_succ, List.range_zero, List.nil_append, List.cons_append, List.map_cons, List.map_nil, List.sum_cons, List.sum_nil, List.count_cons, List.length_cons, beq_iff_eq] at h1 ⊢
    have : a = 0 ∨ a = 1 ∨ a = 2 ∨ a = 3 ∨ a = 4 ∨ a = 5 ∨ a = 6 ∨ a = 7 := by omega
    rcases this with rfl | rfl | rfl | rfl | rfl | rfl | rfl | rfl <;> simp <;> omega
theorem bits8 (F d0 d1 d2 d3 d4 d5 d6 d7 : Nat) (c0 : d0 ≤ 1) (c1 : d1 ≤ 1) (c2 : d2 ≤ 1) (c3 : d3 ≤ 1) (c4 : d4 ≤ 1) (c5 : d5 ≤ 1) (c6 : d6 ≤ 1) (c7 : d7 ≤ 1) (hf : F = d0 + 2 * d1 + 4 * d2 + 8 * d3 + 16 * d4 + 32 * d5 + 64 * d6 + 128 * d7) :
    F < 256 ∧ F / 2 ^ 0 % 2 = d0 ∧ F / 2 ^ 1 % 2 = d1 ∧ F / 2 ^ 2 % 2 = d2 ∧ F / 2 ^ 3 % 2 = d3 ∧ F / 2 ^ 4 % 2 = d4 ∧ F / 2 ^ 5 % 2 = d5 ∧ F / 2 ^ 6 % 2 = d6 ∧ F / 2 ^ 7 % 2 = d7 := by
  have hd : ∀ d r : Nat, d ≤ 1 → (d + 2 * r) % 2 = d ∧ (d + 2 * r) / 2 = r := fun d r h => by omega
  have hp : ∀ k : Nat, F / 2 ^ (k + 1) = F / 2 ^ k / 2 := fun k => by rw [Nat.pow_succ, Nat.div_div_eq_div_mul]
  have r0 : F / 2 ^ 0 = d0 + 2 * (d1 + 2 * (d2 + 2 * (d3 + 2 * (d4 + 2 * (d5 + 2 * (d6 + 2 * d7)))))) := by rw [Nat.pow_zero, Nat.div_one]; omega
  have r1 := hp 0
  rw [r0, (hd _ _ c0).2] at r1
  have r2 := hp 1
  rw [r1, (hd _ _ c1).2] at r2
  have r3 := hp 2
  rw [r2, (hd _ _ c2).2] at r3
  have r4 := hp 3
  rw [r3, (hd _ _ c3).2] at r4
  have r5 := hp 4
  rw [r4, (hd _ _ c4).2] at r5
  have r6 := hp 5
  rw [r5, (hd _ _ c5).2] at r6
  have r7 := hp 6
  rw [r6, (hd _ _ c6).2] at r7
  refine ⟨by omega, ?_, ?_, ?_, ?_, ?_, ?_, ?_, ?_⟩
  · rw [r0]; exact (hd _ _ c0).1
  · rw [r1]; exact (hd _ _ c1).1
  · rw [r2]; exact (hd _ _ c2).1
  · rw [r3]; exact (hd _ _ c3).1
  · rw [r4]; exact (hd _ _ c4).1
  · rw [r5]; exact (hd _ _ c5).1
  · rw [r6]; exact (hd _ _ c6).1
  · rw [r7]; omega
/-- What is read as flags is as long as they are told; else it is none. -/
theorem flagP_len (s : List UInt8) : ((flagP s).2 = 0 → (flagP s).1 < 256 ∧ (flagT (flagP s).1).length = s.length) ∧ ((flagP s).2 ≠ 0 → (flagP s).1 = 0) := by
  unfold flagP
  by_cases h0 : s = [45]
  · rw [if_pos h0, h0]
    exact ⟨fun _ => by decide, fun h => absurd rfl h⟩
  · rw [if_neg h0]
    cases hi : flagIx (splitC 44 s) with
    | none => exact ⟨fun h => (by cases h), fun _ => rfl⟩
    | some ix =>
      simp only
      by_cases hm : manyF ix = true
      · rw [if_pos hm]
        exact ⟨fun h => (by cases h), fun _ => rfl⟩
      · rw [if_neg hm]
        refine ⟨fun _ => ?_, fun h => absurd rfl h⟩
        obtain ⟨h1, h2⟩ := ix_len _ ix hi
        have h3 := cnt_len ix h2
        have h4 := split_len 44 s
        have h5 : ix ≠ [] := by
          intro e
          subst e
          have := split_ne 44 s
          cases hs : splitC 44 s with
          | nil => exact this hs
          | cons x t => rw [hs] at h1; simp at h1
        have h6 : 0 < ix.length := by cases ix with | nil => exact absurd rfl h5 | cons a t => simp
        have hc : ∀ k, k < 8 → ix.count k ≤ 1 := by
          intro k hk
          have : ¬ (1 < ix.count k) := by
            intro h
            exact hm (List.any_eq_true.2 ⟨k, List.mem_range.2 hk, by simpa using h⟩)
          omega
        have c0 := hc 0 (by decide)
        have c1 := hc 1 (by decide)
        have c2 := hc 2 (by decide)
        have c3 := hc 3 (by decide)
        have c4 := hc 4 (by decide)
        have c5 := hc 5 (by decide)
        have c6 := hc 6 (by decide)
        have c7 := hc 7 (by decide)
        have hf : cntF ix = ix.count 0 + 2 * ix.count 1 + 4 * ix.count 2 + 8 * ix.count 3 + 16 * ix.count 4 + 32 * ix.count 5 + 64 * ix.count 6 + 128 * ix.count 7 := by
          simp [cntF, List.range_succ]
          omega
        simp only [List.range_succ, List.range_zero, List.nil_append, List.cons_append, List.map_cons, List.map_nil, List.sum_cons, List.sum_nil] at h3
        generalize ix.count 0 = d0 at *
        generalize ix.count 1 = d1 at *
        generalize ix.count 2 = d2 at *
        generalize ix.count 3 = d3 at *
        generalize ix.count 4 = d4 at *
        generalize ix.count 5 = d5 at *
        generalize ix.count 6 = d6 at *
        generalize ix.count 7 = d7 at *
        obtain ⟨hlt, e0, e1, e2, e3, e4, e5, e6, e7⟩ := bits8 (cntF ix) d0 d1 d2 d3 d4 d5 d6 d7 c0 c1 c2 c3 c4 c5 c6 c7 hf
        refine ⟨hlt, ?_⟩
        have h7 := flagT_len ⟨cntF ix, hlt⟩
        dsimp only at h7 ⊢
        have hz : cntF ix ≠ 0 := by rw [hf]; omega
        simp only [List.range_succ, List.range_zero, List.nil_append, List.cons_append, List.map_cons, List.map_nil, List.sum_cons, List.sum_nil] at h7
        rw [if_neg hz, e0, e1, e2, e3, e4, e5, e6, e7] at h7
        clear hf e0 e1 e2 e3 e4 e5 e6 e7 hlt hz c0 c1 c2 c3 c4 c5 c6 c7 hc hm h2
        omega
end Go.Proofs.YthjbabkmjmfmjaaDoor
/- Flags read piece by piece, in plain words. Nothing of the program is named here. -/
namespace Go.Proofs.YthjbabkmjmfmjaaDoor
set_option linter.unusedVariables false

theorem idx_none (l : List UInt8) (c : UInt8) (h : Lib.indexByte l c = -1) : c ∉ l := by
  induction l with
  | nil => simp
  | cons b l ih =>
    simp only [Lib.indexByte] at h
    split at h
    · cases h
    · rename_i hb
      split at h
      · rename_i h1
        have := ih (by simpa using h1)
        simp only [List.mem_cons, not_or]
        exact ⟨fun e => hb (by simp [e]), this⟩
      · rename_i h1
        have h2 : ∀ l : List UInt8, -1 ≤ Lib.indexByte l c := by
          intro l
          induction l with
          | nil => simp [Lib.indexByte]
          | cons b l ih => simp only [Lib.indexByte]; split <;> (try split) <;> omega
        have := h2 l
        have h3 : Lib.indexByte l c ≠ -1 := by simpa using h1
        omega
theorem idx_some (l : List UInt8) (c : UInt8) : ∀ i : Nat, Lib.indexByte l c = (i : Int) → i < l.length ∧ l = l.take i ++ c :: l.drop (i + 1) ∧ c ∉ l.take i := by
  induction l with
  | nil => intro i h; simp only [Lib.indexByte] at h; omega
  | cons b l ih =>
    intro i h
    simp only [Lib.indexByte] at h
    split at h
    · rename_i hb
      have : i = 0 := by omega
      subst this
      have hb' : b = c := by simpa using hb
      subst hb'
      simp
    · rename_i hb
      split at h
      · omega
      · match i with
        | 0 =>
          exfalso
          have h2 : ∀ l : List UInt8, -1 ≤ Lib.indexByte l c := by
            intro l
            induction l with
            | nil => simp [Lib.indexByte]
            | cons b l ih => simp only [Lib.indexByte]; split <;> (try split) <;> omega
          have := h2 l
          rename_i h1
          have h3 : Lib.indexByte l c ≠ -1 := by simpa using h1
          omega
        | j + 1 =>
          obtain ⟨h1, h2, h3⟩ := ih j (by omega)
          refine ⟨by simp; omega, ?_, ?_⟩
          · simp only [List.take_succ_cons, List.drop_succ_cons, List.cons_append]
            rw [← h2]
          · simp only [List.take_succ_cons, List.mem_cons, not_or]
            exact ⟨fun e => hb (by simp [e]), h3⟩
theorem flag_inj (j k : Nat) (hj : j < 8) (hk : k < 8) (h : flagAt j = flagAt k) : j = k := by
  have : ∀ j, j < 8 → ∀ k, k < 8 → flagAt j = flagAt k → j = k := by decide
  exact this j hj k hk h
theorem find_none (p : List UInt8) (h : findF p = none) (k : Nat) (hk : k < 8) : flagAt k ≠ p := by
  unfold findF at h
  rw [List.findSome?_eq_none_iff] at h
  have := h k (List.mem_range.2 hk)
  intro e
  rw [if_pos e] at this
  cases this
theorem find_is (k : Nat) (hk : k < 8) : findF (flagAt k) = some k := by
  have : ∀ k, k < 8 → findF (flagAt k) = some k := by decide
  exact this k hk
theorem flagIx_cons (x : List UInt8) (l : List (List UInt8)) : flagIx (x :: l) = (findF x).bind fun k => (flagIx l).map (k :: ·) := by
  unfold flagIx
  rw [List.mapM_cons]
  cases findF x with
  | none => rfl
  | some k => cases List.mapM findF l <;> rfl
theorem flagIx_nil : flagIx [] = some [] := rfl
/-- Which flags have been told. -/
structure BitsOf (F : Nat) (ix : List Nat) : Prop where
  lt : F < 256
  bit : ∀ k, k < 8 → (F / 2 ^ k % 2 = 1 ↔ 0 < ix.count k)
theorem bits_nil : BitsOf 0 [] := ⟨by decide, fun k hk => by simp⟩
set_option maxRecDepth 100000 in
theorem bit_or : ∀ F : Fin 256, ∀ k : Fin 8, (F.val ||| 2 ^ k.val) < 256 ∧ (∀ j : Fin 8, (F.val ||| 2 ^ k.val) / 2 ^ j.val % 2 = if j.val = k.val then 1 else F.val / 2 ^ j.val % 2) ∧ ((F.val &&& 2 ^ k.val) = 0 ↔ F.val / 2 ^ k.val % 2 = 0) := by decide +kernel
theorem BitsOf.step {F : Nat} {ix : List Nat} (h : BitsOf F ix) (k : Nat) (hk : k < 8) : BitsOf (F ||| 2 ^ k) (ix ++ [k]) ∧ ((F &&& 2 ^ k) = 0 ↔ ¬ 0 < ix.count k) := by
  obtain ⟨h1, h2, h3⟩ := bit_or ⟨F, h.lt⟩ ⟨k, hk⟩
  simp only at h1 h2 h3
  refine ⟨⟨h1, fun j hj => ?_⟩, ?_⟩
  · have h4 := h2 ⟨j, hj⟩
    simp only at h4
    rw [h4, List.count_append]
    by_cases e : j = k
    · subst e
      simp
    · rw [if_neg e, h.bit j hj]
      have : List.count j [k] = 0 := by rw [List.count_singleton]; simp; exact fun h => e h.symm
      omega
  · rw [h3]
    have := h.bit k hk
    rcases Nat.mod_two_eq_zero_or_one (F / 2 ^ k) with h5 | h5 <;> rw [h5] at this ⊢ <;> simp at this ⊢ <;> omega
theorem many_step (ix : List Nat) (k : Nat) (hk : k < 8) : manyF (ix ++ [k]) = (manyF ix || decide (0 < ix.count k)) := by
  unfold manyF
  rw [Bool.eq_iff_iff]
  simp only [List.any_eq_true, List.mem_range, decide_eq_true_eq, Bool.or_eq_true, List.count_append, List.count_singleton]
  constructor
  · rintro ⟨j, hj, h⟩
    by_cases e : k = j
    · subst e
      rw [show (k == k) = true by simp] at h
      exact .inr (by simpa using h)
    · have : (k == j) = false := by simpa using e
      rw [this] at h
      exact .inl ⟨j, hj, by simpa using h⟩
  · rintro (⟨j, hj, h⟩ | h)
    · exact ⟨j, hj, by omega⟩
    · exact ⟨k, hk, by rw [show (k == k) = true by simp, if_pos rfl]; omega⟩
set_option maxRecDepth 100000 in
theorem bit_sum : ∀ F : Fin 256, F.val = ((List.range 8).map fun k => 2 ^ k * (F.val / 2 ^ k % 2)).sum := by decide +kernel
theorem BitsOf.done {F : Nat} {ix : List Nat} (h : BitsOf F ix) (hm : manyF ix = false) : F = cntF ix := by
  have h1 := bit_sum ⟨F, h.lt⟩
  simp only at h1
  rw [h1]
  unfold cntF
  congr 1
  apply List.map_congr_left
  intro k hk
  have hk8 := List.mem_range.1 hk
  have h2 := h.bit k hk8
  have h3 : ¬ 1 < ix.count k := fun h => by
    have : manyF ix = true := List.any_eq_true.2 ⟨k, hk, by simpa using h⟩
    rw [hm] at this
    cases this
  rcases Nat.mod_two_eq_zero_or_one (F / 2 ^ k) with h5 | h5
  · rw [h5] at h2 ⊢
    have : ix.count k = 0 := by
      have := h2.mpr
      rcases Nat.eq_zero_or_pos (ix.count k) with h6 | h6
      · exact h6
      · have := h2.2 h6; omega
    rw [this]
  · rw [h5] at h2 ⊢
    have := h2.1 rfl
    rw [show ix.count k = 1 by omega]
/-- What a text of flags reads as, once its pieces are known. -/
theorem flagP_done (s : List UInt8) (h0 : s ≠ [45]) (ix : List Nat) (h : flagIx (splitC 44 s) = some ix) : flagP s = if manyF ix then (0, 9) else (cntF ix, 0) := by
  unfold flagP
  rw [if_neg h0, h]
theorem flagP_bad (s : List UInt8) (h0 : s ≠ [45]) (h : flagIx (splitC 44 s) = none) : flagP s = (0, 23) := by
  unfold flagP
  rw [if_neg h0, h]
/-- One piece more. -/
theorem ix_piece (S x r : List UInt8) (ix : List Nat) (h : flagIx (splitC 44 S) = (flagIx (splitC 44 (x ++ 44 :: r))).map (ix ++ ·)) (hx : (44 : UInt8) ∉ x) :
    (findF x = none → flagIx (splitC 44 S) = none) ∧ ∀ k, findF x = some k → flagIx (splitC 44 S) = (flagIx (splitC 44 r)).map ((ix ++ [k]) ++ ·) := by
  rw [split_piece 44 x r hx, flagIx_cons] at h
  refine ⟨fun e => ?_, fun k e => ?_⟩
  · rw [h, e]; rfl
  · rw [h, e]
    cases flagIx (splitC 44 r) with
    | none => rfl
    | some iy => simp
theorem ix_last (S x : List UInt8) (ix : List Nat) (h : flagIx (splitC 44 S) = (flagIx (splitC 44 x)).map (ix ++ ·)) (hx : (44 : UInt8) ∉ x) :
    (findF x = none → flagIx (splitC 44 S) = none) ∧ ∀ k, findF x = some k → flagIx (splitC 44 S) = some (ix ++ [k]) := by
  rw [split_last 44 x hx, flagIx_cons] at h
  refine ⟨fun e => ?_, fun k e => ?_⟩
  · rw [h, e]; rfl
  · rw [h, e]
    simp [flagIx_nil]
end Go.Proofs.YthjbabkmjmfmjaaDoor
