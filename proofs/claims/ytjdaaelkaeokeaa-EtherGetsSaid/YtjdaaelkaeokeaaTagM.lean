/- Tags read and laid: plain facts. -/
import Derived.Test.YtjdaaelkaeokeaaTagD
namespace Go.Proofs.Ytjdaaelkaeokeaa
set_option linter.unusedVariables false

theorem bytT_eq (t : Tg) : bytT t = [UInt8.ofNat (t.k / 256), UInt8.ofNat t.k, UInt8.ofNat (wordM t / 256), UInt8.ofNat (wordM t)] := by
  have : bytT t = beAll 2 [t.k] ++ beAll 2 [wordM t] := by simp [bytT, beAll]
  rw [this, beAll_two, beAll_two]
  rfl
theorem numM_of (x : Nat) (h : x < 65536) : numM [UInt8.ofNat (x / 256), UInt8.ofNat x] = x := by
  simp only [numM, List.foldl_cons, List.foldl_nil, UInt8.toNat_ofNat']
  omega
theorem of_numM (a b : UInt8) : UInt8.ofNat (numM [a, b] / 256) = a ∧ UInt8.ofNat (numM [a, b]) = b := by
  have ha := a.toNat_lt
  have hb := b.toNat_lt
  have e : numM [a, b] = a.toNat * 256 + b.toNat := by simp [numM]
  rw [e]
  constructor
  · rw [← UInt8.toNat_inj, UInt8.toNat_ofNat']; omega
  · rw [← UInt8.toNat_inj, UInt8.toNat_ofNat']; omega
theorem word_tagOf (k x : Nat) (hx : x < 65536) : wordM (tagOfM k x) = x := by
  have h1 : (tagOfM k x).p ≤ 7 := by show x / 8192 ≤ 7; omega
  have h2 : (tagOfM k x).n ≤ 4095 := by show x &&& 4095 ≤ 4095; rw [and_4095]; omega
  rw [wordM_may _ h1 h2]
  show x / 8192 * 8192 + (if decide (x &&& 4096 ≠ 0) then 4096 else 0) + (x &&& 4095) = x
  rw [and_4096, and_4095]
  rcases Nat.mod_two_eq_zero_or_one (x / 4096) with h | h <;> simp [h] <;> omega
theorem may_tagOf (k x : Nat) (hk : (k == 34984 || k == 33024) = true) (hx : x < 65536) : mayT (tagOfM k x) = true := by
  unfold mayT
  rw [show (tagOfM k x).k = k from rfl, hk]
  have h1 : (tagOfM k x).p ≤ 7 := by show x / 8192 ≤ 7; omega
  have h2 : (tagOfM k x).n ≤ 4095 := by show x &&& 4095 ≤ 4095; rw [and_4095]; omega
  simp [h1, h2]
theorem stand_kind {k : Nat} {n : Nat} (h : standM k (n : Int) = true) : (k == 34984 || k == 33024) = true := by
  unfold standM at h
  split at h
  · exact h
  · split at h
    · simp at h; simp [h]
    · cases h
theorem may_take2 (t : Tg) (h : mayT t = true) (r : List UInt8) : nextM (bytT t ++ r) = t.k ∧ tagOfM (numM ((bytT t ++ r).take 2)) (numM (((bytT t ++ r).drop 2).take 2)) = t ∧ (bytT t ++ r).drop 4 = r ∧ ¬ (bytT t ++ r).length < 4 := by
  obtain ⟨hk, hp, hn⟩ := (mayT_iff t).1 h
  have hkl : t.k < 65536 := by omega
  have hwl : wordM t < 65536 := by rw [wordM_may t hp hn]; split <;> omega
  rw [bytT_eq]
  refine ⟨?_, ?_, rfl, by simp⟩
  · unfold nextM
    rw [if_pos (by simp)]
    exact numM_of _ hkl
  · show tagOfM (numM [_, _]) (numM [_, _]) = t
    rw [numM_of _ hkl, numM_of _ hwl]
    exact tagOf_word t hp hn
/-- One tag more is read. -/
theorem read_tag (f : Nat) (acc : List Tg) (t : Tg) (h : mayT t = true) (hs : standM t.k (acc.length : Int) = true) (r : List UInt8) : readGo (f + 1) acc (bytT t ++ r) = readGo f (acc ++ [t]) r := by
  obtain ⟨h1, h2, h3, h4⟩ := may_take2 t h r
  rw [show readGo (f + 1) acc (bytT t ++ r) = (if standM (nextM (bytT t ++ r)) (acc.length : Int) then (if (bytT t ++ r).length < 4 then ([], [], 4) else readGo f (acc ++ [tagOfM (numM ((bytT t ++ r).take 2)) (numM (((bytT t ++ r).drop 2).take 2))]) ((bytT t ++ r).drop 4)) else (acc, bytT t ++ r, 0)) from rfl, h1, hs, if_pos rfl, if_neg h4, h2, h3]
theorem stand_may0 {t : Tg} (h : mayT t = true) : standM t.k ((0 : Nat) : Int) = true := by
  have := ((mayT_iff t).1 h).1
  show standM t.k 0 = true
  rw [stand0]
  simpa using this
theorem stand_inner {t : Tg} (h : t.k = 33024) : standM t.k ((1 : Nat) : Int) = true := by
  show standM t.k 1 = true
  rw [stand1]
  simpa using h

/-- Whether bytes begin with a kind that may stand behind so many tags. -/
def begM (b : List UInt8) (n : Nat) : Bool := decide (2 ≤ b.length) && ((b.headD 0 == 129 && (b.drop 1).headD 0 == 0) || (b.headD 0 == 136 && (b.drop 1).headD 0 == 168 && n == 0))
theorem beg_stand (b : List UInt8) (n : Nat) (hn : n < 2) : begM b n = standM (nextM b) (n : Int) := by
  by_cases h2 : 2 ≤ b.length
  · match b, h2 with
    | a :: c :: r, _ =>
      have ha := a.toNat_lt
      have hc := c.toNat_lt
      have e : nextM (a :: c :: r) = a.toNat * 256 + c.toNat := by simp [nextM, numM]
      rw [e]
      unfold begM standM
      rcases (show n = 0 ∨ n = 1 by omega) with rfl | rfl
      · rw [Bool.eq_iff_iff]
        simp [← UInt8.toNat_inj]
        omega
      · rw [Bool.eq_iff_iff]
        simp [← UInt8.toNat_inj]
        omega
  · rw [next_short _ (by omega), stand_zero]
    unfold begM
    simp [h2]
/-- The stacks that the theorem lays. -/
def Stk (l : List Tg) : Prop := l = [] ∨ (∃ t, l = [t] ∧ mayT t = true) ∨ (∃ t u, l = [t, u] ∧ mayT t = true ∧ mayT u = true ∧ u.k = 33024)
theorem Stk.may {l : List Tg} (h : Stk l) : mayL l = true := (mayL_iff l).2 h
theorem Stk.bytes {l : List Tg} (h : Stk l) : bytesM l = bytTs l := by
  unfold bytesM
  rcases h with rfl | ⟨t, rfl, h1⟩ | ⟨t, u, rfl, h1, h2, _⟩
  · rfl
  · simp [h1]
  · simp [h1, h2]
theorem Stk.read {l : List Tg} (h : Stk l) (b : List UInt8) (hb : l.length = 2 ∨ begM b l.length = false) : readM (bytTs l ++ b) = (l, b, 0) := by
  unfold readM
  rcases h with rfl | ⟨t, rfl, h1⟩ | ⟨t, u, rfl, h1, h2, h3⟩
  · rcases hb with hb | hb
    · simp at hb
    · rw [beg_stand _ _ (by simp)] at hb
      show readGo 2 [] b = _
      unfold readGo
      rw [hb]
      rfl
  · rcases hb with hb | hb
    · simp at hb
    · rw [beg_stand _ _ (by simp)] at hb
      rw [show bytTs [t] ++ b = bytT t ++ b by simp [bytTs], read_tag 1 [] t h1 (stand_may0 h1)]
      unfold readGo
      show (if standM (nextM b) (([t] : List Tg).length : Int) = true then _ else _) = _
      rw [hb]
      rfl
  · rw [show bytTs [t, u] ++ b = bytT t ++ (bytT u ++ b) by simp [bytTs], read_tag 1 [] t h1 (stand_may0 h1), read_tag 0 ([] ++ [t]) u h2 (show standM u.k ((([] ++ [t] : List Tg).length : Nat) : Int) = true from stand_inner h3)]
    rfl
/-- Cut within a tag. -/
theorem read_part (f : Nat) (acc : List Tg) (t : Tg) (h : mayT t = true) (hs : standM t.k (acc.length : Int) = true) (j : Nat) (hj : j < 4) : (readGo (f + 1) acc ((bytT t).take j)).2.2 = if 2 ≤ j then 4 else 0 := by
  obtain ⟨hk, hp, hn⟩ := (mayT_iff t).1 h
  have hkl : t.k < 65536 := by omega
  have hl : ((bytT t).take j).length = j := by rw [List.length_take, bytT_len]; omega
  unfold readGo
  by_cases h2 : 2 ≤ j
  · have hn : nextM ((bytT t).take j) = t.k := by
      unfold nextM
      rw [if_pos (by rw [hl]; exact h2), List.take_take, Nat.min_eq_left h2, bytT_eq]
      exact numM_of _ hkl
    rw [hn, hs, if_pos rfl, if_pos (by rw [hl]; exact hj), if_pos h2]
  · rw [next_short _ (by rw [hl]; omega), stand_zero, if_neg (by simp), if_neg h2]
theorem Stk.cut {l : List Tg} (h : Stk l) (k : Nat) (hk : k < 4 * l.length) : (readM ((bytTs l).take k)).2.2 = if 2 ≤ k % 4 then 4 else 0 := by
  unfold readM
  rcases h with rfl | ⟨t, rfl, h1⟩ | ⟨t, u, rfl, h1, h2, h3⟩
  · simp at hk
  · simp at hk
    rw [show bytTs [t] = bytT t by simp [bytTs], read_part 1 [] t h1 (stand_may0 h1) k hk, Nat.mod_eq_of_lt hk]
  · simp at hk
    rw [show bytTs [t, u] = bytT t ++ bytT u by simp [bytTs]]
    by_cases h4 : k < 4
    · rw [List.take_append_of_le_length (by rw [bytT_len]; omega), read_part 1 [] t h1 (stand_may0 h1) k h4, Nat.mod_eq_of_lt h4]
    · rw [List.take_append, List.take_of_length_le (by rw [bytT_len]; omega), bytT_len, read_tag 1 [] t h1 (stand_may0 h1), read_part 0 ([] ++ [t]) u h2 (show standM u.k ((([] ++ [t] : List Tg).length : Nat) : Int) = true from stand_inner h3) (k - 4) (by omega), show k % 4 = k - 4 by omega]
/-- Whatever is read, lays what was read. -/
theorem read_back (f : Nat) : ∀ (acc : List Tg) (b : List UInt8), acc.length + f = 2 → mayFrom 0 acc = true →
    ((readGo f acc b).2.2 = 4 ∧ (readGo f acc b).1 = [] ∧ (readGo f acc b).2.1 = []) ∨ ((readGo f acc b).2.2 = 0 ∧ mayFrom 0 (readGo f acc b).1 = true ∧ bytTs (readGo f acc b).1 ++ (readGo f acc b).2.1 = bytTs acc ++ b) := by
  induction f with
  | zero => intro acc b hl hm; exact .inr ⟨rfl, hm, rfl⟩
  | succ f ih =>
    intro acc b hl hm
    unfold readGo
    cases hs : standM (nextM b) (acc.length : Int)
    · rw [if_neg (by simp)]
      exact .inr ⟨rfl, hm, rfl⟩
    · rw [if_pos rfl]
      by_cases h4 : b.length < 4
      · rw [if_pos h4]
        exact .inl ⟨rfl, rfl, rfl⟩
      · rw [if_neg h4]
        obtain ⟨b0, b1, b2, b3, r, rfl⟩ : ∃ b0 b1 b2 b3 r, b = b0 :: b1 :: b2 :: b3 :: r := by
          match b, h4 with
          | [], h => simp at h
          | [_], h => simp at h
          | [_, _], h => simp at h
          | [_, _, _], h => simp at h
          | b0 :: b1 :: b2 :: b3 :: r, _ => exact ⟨b0, b1, b2, b3, r, rfl⟩
        have hnx : nextM (b0 :: b1 :: b2 :: b3 :: r) = numM [b0, b1] := by unfold nextM; rw [if_pos (by simp)]; rfl
        rw [hnx] at hs
        have hk : numM [b0, b1] < 65536 := by have := numM_take2 [b0, b1]; simpa using this
        have hx : numM [b2, b3] < 65536 := by have := numM_take2 [b2, b3]; simpa using this
        have hmt := may_tagOf _ _ (stand_kind hs) hx
        have hby : bytT (tagOfM (numM [b0, b1]) (numM [b2, b3])) = [b0, b1, b2, b3] := by
          rw [bytT_eq, word_tagOf _ _ hx, show (tagOfM (numM [b0, b1]) (numM [b2, b3])).k = numM [b0, b1] from rfl, (of_numM b0 b1).1, (of_numM b0 b1).2, (of_numM b2 b3).1, (of_numM b2 b3).2]
        have hnew : mayFrom 0 (acc ++ [tagOfM (numM [b0, b1]) (numM [b2, b3])]) = true := by
          have := mayFrom_take (acc ++ [tagOfM (numM [b0, b1]) (numM [b2, b3])]) 0 acc.length (by simp)
          rw [List.take_of_length_le (by simp)] at this
          rw [this]
          simp [hm, hmt]
          exact hs
        have := ih (acc ++ [tagOfM (numM [b0, b1]) (numM [b2, b3])]) r (by simp; omega) hnew
        show ((readGo f (acc ++ [tagOfM (numM [b0, b1]) (numM [b2, b3])]) r).2.2 = 4 ∧ _) ∨ _
        rcases this with h | ⟨g1, g2, g3⟩
        · exact .inl h
        · refine .inr ⟨g1, g2, ?_⟩
          show bytTs (readGo f (acc ++ [tagOfM (numM [b0, b1]) (numM [b2, b3])]) r).1 ++ (readGo f (acc ++ [tagOfM (numM [b0, b1]) (numM [b2, b3])]) r).2.1 = _
          rw [g3]
          simp [bytTs, hby]
theorem readM_back (b : List UInt8) : ((readM b).2.2 = 4 ∧ (readM b).1 = [] ∧ (readM b).2.1 = []) ∨ ((readM b).2.2 = 0 ∧ mayL (readM b).1 = true ∧ bytesM (readM b).1 ++ (readM b).2.1 = b) := by
  rcases read_back 2 [] b rfl rfl with h | ⟨h1, h2, h3⟩
  · exact .inl h
  · refine .inr ⟨h1, h2, ?_⟩
    have hs : Stk (readM b).1 := (mayL_iff _).1 h2
    rw [hs.bytes]
    exact h3
end Go.Proofs.Ytjdaaelkaeokeaa
