/- Texts that belong together, one behind the other: TagM, EthM. Conditions: those of each. -/
import Derived.Test.YthjfeanmgaidcaaMg21
/- Tags read and laid: plain facts. -/
namespace Go.Proofs.Ythjfeanmgaidcaa
set_option linter.unusedVariables false

theorem bytT_eq (t : Tg) : bytT t = [UInt8.ofNat (t.k / 256), UInt8.ofNat t.k, UInt8.ofNat (wordM t / 256), UInt8.ofNat (wordM t)] := by
  have : bytT t = beAll 2 [t.k] ++ beAll 2 [wordM t] := by simp [bytT, beAll]
  rw [this, beAll_two, beAll_two]
  rfl
theorem numM_of (x : Nat) (h : x < 65536) : numM [UInt8.ofNat (x / 256), UInt8.ofNat x] = x := by
  simp only [numM, List.foldl_cons, List.foldl_nil, UInt8.toNat_ofNat']
  omega
theorem of_numM (a b : UInt8) : UInt8.ofNat (numM [a, b] / 256) = a ∧ UInt8.ofNat (numM [a, b]) = b := by
  have ha := a.toNat_lt
  have hb := b.toNat_lt
  have e : numM [a, b] = a.toNat * 256 + b.toNat := by simp [numM]
  rw [e]
  constructor
  · rw [← UInt8.toNat_inj, UInt8.toNat_ofNat']; omega
  · rw [← UInt8.toNat_inj, UInt8.toNat_ofNat']; omega
theorem word_tagOf (k x : Nat) (hx : x < 65536) : wordM (tagOfM k x) = x := by
  have h1 : (tagOfM k x).p ≤ 7 := by show x / 8192 ≤ 7; omega
  have h2 : (tagOfM k x).n ≤ 4095 := by show x &&& 4095 ≤ 4095; rw [and_4095]; omega
  rw [wordM_may _ h1 h2]
  show x / 8192 * 8192 + (if decide (x &&& 4096 ≠ 0) then 4096 else 0) + (x &&& 4095) = x
  rw [and_4096, and_4095]
  rcases Nat.mod_two_eq_zero_or_one (x / 4096) with h | h <;> simp [h] <;> omega
theorem may_tagOf (k x : Nat) (hk : (k == 34984 || k == 33024) = true) (hx : x < 65536) : mayT (tagOfM k x) = true := by
  unfold mayT
  rw [show (tagOfM k x).k = k from rfl, hk]
  have h1 : (tagOfM k x).p ≤ 7 := by show x / 8192 ≤ 7; omega
  have h2 : (tagOfM k x).n ≤ 4095 := by show x &&& 4095 ≤ 4095; rw [and_4095]; omega
  simp [h1, h2]
theorem stand_kind {k : Nat} {n : Nat} (h : standM k (n : Int) = true) : (k == 34984 || k == 33024) = true := by
  unfold standM at h
  split at h
  · exact h
  · split at h
    · simp at h; simp [h]
    · cases h
theorem may_take2 (t : Tg) (h : mayT t = true) (r : List UInt8) : nextM (bytT t ++ r) = t.k ∧ tagOfM (numM ((bytT t ++ r).take 2)) (numM (((bytT t ++ r).drop 2).take 2)) = t ∧ (bytT t ++ r).drop 4 = r ∧ ¬ (bytT t ++ r).length < 4 := by
  obtain ⟨hk, hp, hn⟩ := (mayT_iff t).1 h
  have hkl : t.k < 65536 := by omega
  have hwl : wordM t < 65536 := by rw [wordM_may t hp hn]; split <;> omega
  rw [bytT_eq]
  refine ⟨?_, ?_, rfl, by simp⟩
  · unfold nextM
    rw [if_pos (by simp)]
    exact numM_of _ hkl
  · show tagOfM (numM [_, _]) (numM [_, _]) = t
    rw [numM_of _ hkl, numM_of _ hwl]
    exact tagOf_word t hp hn
/-- One tag more is read. -/
theorem read_tag (f : Nat) (acc : List Tg) (t : Tg) (h : mayT t = true) (hs : standM t.k (acc.length : Int) = true) (r : List UInt8) : readGo (f + 1) acc (bytT t ++ r) = readGo f (acc ++ [t]) r := by
  obtain ⟨h1, h2, h3, h4⟩ := may_take2 t h r
  rw [show readGo (f + 1) acc (bytT t ++ r) = (if standM (nextM (bytT t ++ r)) (acc.length : Int) then (if (bytT t ++ r).length < 4 then ([], [], 4) else readGo f (acc ++ [tagOfM (numM ((bytT t ++ r).take 2)) (numM (((bytT t ++ r).drop 2).take 2))]) ((bytT t ++ r).drop 4)) else (acc, bytT t ++ r, 0)) from rfl, h1, hs, if_pos rfl, if_neg h4, h2, h3]
theorem stand_may0 {t : Tg} (h : mayT t = true) : standM t.k ((0 : Nat) : Int) = true := by
  have := ((mayT_iff t).1 h).1
  show standM t.k 0 = true
  rw [stand0]
  simpa using this
theorem stand_inner {t : Tg} (h : t.k = 33024) : standM t.k ((1 : Nat) : Int) = true := by
  show standM t.k 1 = true
  rw [stand1]
  simpa using h

/-- Whether bytes begin with a kind that may stand behind so many tags. -/
def begM (b : List UInt8) (n : Nat) : Bool := decide (2 ≤ b.length) && ((b.headD 0 == 129 && (b.drop 1).headD 0 == 0) || (b.headD 0 == 136 && (b.drop 1).headD 0 == 168 && n == 0))
theorem beg_stand (b : List UInt8) (n : Nat) (hn : n < 2) : begM b n = standM (nextM b) (n : Int) := by
  by_cases h2 : 2 ≤ b.length
  · match b, h2 with
    | a :: c :: r, _ =>
      have ha := a.toNat_lt
      have hc := c.toNat_lt
      have e : nextM (a :: c :: r) = a.toNat * 256 + c.toNat := by simp [nextM, numM]
      rw [e]
      unfold begM standM
      rcases (show n = 0 ∨ n = 1 by omega) with rfl | rfl
      · rw [Bool.eq_iff_iff]
        simp [← UInt8.toNat_inj]
        omega
      · rw [Bool.eq_iff_iff]
        simp [← UInt8.toNat_inj]
        omega
  · rw [next_short _ (by omega), stand_zero]
    unfold begM
    simp [h2]
/-- The stacks that the theorem lays. -/
def Stk (l : List Tg) : Prop := l = [] ∨ (∃ t, l = [t] ∧ mayT t = true) ∨ (∃ t u, l = [t, u] ∧ mayT t = true ∧ mayT u = true ∧ u.k = 33024)
theorem Stk.may {l : List Tg} (h : Stk l) : mayL l = true := (mayL_iff l).2 h
theorem Stk.bytes {l : List Tg} (h : Stk l) : bytesM l = bytTs l := by
  unfold bytesM
  rcases h with rfl | ⟨t, rfl, h1⟩ | ⟨t, u, rfl, h1, h2, _⟩
  · rfl
  · simp [h1]
  · simp [h1, h2]
theorem Stk.read {l : List Tg} (h : Stk l) (b : List UInt8) (hb : l.length = 2 ∨ begM b l.length = false) : readM (bytTs l ++ b) = (l, b, 0) := by
  unfold readM
  rcases h with rfl | ⟨t, rfl, h1⟩ | ⟨t, u, rfl, h1, h2, h3⟩
  · rcases hb with hb | hb
    · simp at hb
    · rw [beg_stand _ _ (by simp)] at hb
      show readGo 2 [] b = _
      unfold readGo
      rw [hb]
      rfl
  · rcases hb with hb | hb
    · simp at hb
    · rw [beg_stand _ _ (by simp)] at hb
      rw [show bytTs [t] ++ b = bytT t ++ b by simp [bytTs], read_tag 1 [] t h1 (stand_may0 h1)]
      unfold readGo
      show (if standM (nextM b) (([t] : List Tg).length : Int) = true then _ else _) = _
      rw [hb]
      rfl
  · rw [show bytTs [t, u] ++ b = bytT t ++ (bytT u ++ b) by simp [bytTs], read_tag 1 [] t h1 (stand_may0 h1), read_tag 0 ([] ++ [t]) u h2 (show standM u.k ((([] ++ [t] : List Tg).length : Nat) : Int) = true from stand_inner h3)]
    rfl
/-- Cut within a tag. -/
theorem read_part (f : Nat) (acc : List Tg) (t : Tg) (h : mayT t = true) (hs : standM t.k (acc.length : Int) = true) (j : Nat) (hj : j < 4) : (readGo (f + 1) acc ((bytT t).take j)).2.2 = if 2 ≤ j then 4 else 0 := by
  obtain ⟨hk, hp, hn⟩ := (mayT_iff t).1 h
  have hkl : t.k < 65536 := by omega
  have hl : ((bytT t).take j).length = j := by rw [List.length_take, bytT_len]; omega
  unfold readGo
  by_cases h2 : 2 ≤ j
  · have hn : nextM ((bytT t).take j) = t.k := by
      unfold nextM
      rw [if_pos (by rw [hl]; exact h2), List.take_take, Nat.min_eq_left h2, bytT_eq]
      exact numM_of _ hkl
    rw [hn, hs, if_pos rfl, if_pos (by rw [hl]; exact hj), if_pos h2]
  · rw [next_short _ (by rw [hl]; omega), stand_zero, if_neg (by simp), if_neg h2]
theorem Stk.cut {l : List Tg} (h : Stk l) (k : Nat) (hk : k < 4 * l.length) : (readM ((bytTs l).take k)).2.2 = if 2 ≤ k % 4 then 4 else 0 := by
  unfold readM
  rcases h with rfl | ⟨t, rfl, h1⟩ | ⟨t, u, rfl, h1, h2, h3⟩
  · simp at hk
  · simp at hk
    rw [show bytTs [t] = bytT t by simp [bytTs], read_part 1 [] t h1 (stand_may0 h1) k hk, Nat.mod_eq_of_lt hk]
  · simp at hk
    rw [show bytTs [t, u] = bytT t ++ bytT u by simp [bytTs]]
    by_cases h4 : k < 4
    · rw [List.take_append_of_le_length (by rw [bytT_len]; omega), read_part 1 [] t h1 (stand_may0 h1) k h4, Nat.mod_eq_of_lt h4]
    · rw [List.take_append, List.take_of_length_le (by rw [bytT_len]; omega), bytT_len, read_tag 1 [] t h1 (stand_may0 h1), read_part 0 ([] ++ [t]) u h2 (show standM u.k ((([] ++ [t] : List Tg).length : Nat) : Int) = true from stand_inner h3) (k - 4) (by omega), show k % 4 = k - 4 by omega]
/-- Whatever is read, lays what was read. -/
theorem read_back (f : Nat) : ∀ (acc : List Tg) (b : List UInt8), acc.length + f = 2 → mayFrom 0 acc = true →
    ((readGo f acc b).2.2 = 4 ∧ (readGo f acc b).1 = [] ∧ (readGo f acc b).2.1 = []) ∨ ((readGo f acc b).2.2 = 0 ∧ mayFrom 0 (readGo f acc b).1 = true ∧ bytTs (readGo f acc b).1 ++ (readGo f acc b).2.1 = bytTs acc ++ b) := by
  induction f with
  | zero => intro acc b hl hm; exact .inr ⟨rfl, hm, rfl⟩
  | succ f ih =>
    intro acc b hl hm
    unfold readGo
    cases hs : standM (nextM b) (acc.length : Int)
    · rw [if_neg (by simp)]
      exact .inr ⟨rfl, hm, rfl⟩
    · rw [if_pos rfl]
      by_cases h4 : b.length < 4
      · rw [if_pos h4]
        exact .inl ⟨rfl, rfl, rfl⟩
      · rw [if_neg h4]
        obtain ⟨b0, b1, b2, b3, r, rfl⟩ : ∃ b0 b1 b2 b3 r, b = b0 :: b1 :: b2 :: b3 :: r := by
          match b, h4 with
          | [], h => simp at h
          | [_], h => simp at h
          | [_, _], h => simp at h
          | [_, _, _], h => simp at h
          | b0 :: b1 :: b2 :: b3 :: r, _ => exact ⟨b0, b1, b2, b3, r, rfl⟩
        have hnx : nextM (b0 :: b1 :: b2 :: b3 :: r) = numM [b0, b1] := by unfold nextM; rw [if_pos (by simp)]; rfl
        rw [hnx] at hs
        have hk : numM [b0, b1] < 65536 := by have := numM_take2 [b0, b1]; simpa using this
        have hx : numM [b2, b3] < 65536 := by have := numM_take2 [b2, b3]; simpa using this
        have hmt := may_tagOf _ _ (stand_kind hs) hx
        have hby : bytT (tagOfM (numM [b0, b1]) (numM [b2, b3])) = [b0, b1, b2, b3] := by
          rw [bytT_eq, word_tagOf _ _ hx, show (tagOfM (numM [b0, b1]) (numM [b2, b3])).k = numM [b0, b1] from rfl, (of_numM b0 b1).1, (of_numM b0 b1).2, (of_numM b2 b3).1, (of_numM b2 b3).2]
        have hnew : mayFrom 0 (acc ++ [tagOfM (numM [b0, b1]) (numM [b2, b3])]) = true := by
          have := mayFrom_take (acc ++ [tagOfM (numM [b0, b1]) (numM [b2, b3])]) 0 acc.length (by simp)
          rw [List.take_of_length_le (by simp)] at this
          rw [this]
          simp [hm, hmt]
          exact hs
        have := ih (acc ++ [tagOfM (numM [b0, b1]) (numM [b2, b3])]) r (by simp; omega) hnew
        show ((readGo f (acc ++ [tagOfM (numM [b0, b1]) (numM [b2, b3])]) r).2.2 = 4 ∧ _) ∨ _
        rcases this with h | ⟨g1, g2, g3⟩
        · exact .inl h
        · refine .inr ⟨g1, g2, ?_⟩
          show bytTs (readGo f (acc ++ [tagOfM (numM [b0, b1]) (numM [b2, b3])]) r).1 ++ (readGo f (acc ++ [tagOfM (numM [b0, b1]) (numM [b2, b3])]) r).2.1 = _
          rw [g3]
          simp [bytTs, hby]
theorem readM_back (b : List UInt8) : ((readM b).2.2 = 4 ∧ (readM b).1 = [] ∧ (readM b).2.1 = []) ∨ ((readM b).2.2 = 0 ∧ mayL (readM b).1 = true ∧ bytesM (readM b).1 ++ (readM b).2.1 = b) := by
  rcases read_back 2 [] b rfl rfl with h | ⟨h1, h2, h3⟩
  · exact .inl h
  · refine .inr ⟨h1, h2, ?_⟩
    have hs : Stk (readM b).1 := (mayL_iff _).1 h2
    rw [hs.bytes]
    exact h3
end Go.Proofs.Ythjfeanmgaidcaa
/- Frames of Ethernet as plain data: read, laid, there and back. -/
namespace Go.Proofs.Ythjfeanmgaidcaa
set_option linter.unusedVariables false

/-- A frame: addresses, tags, kind, type, LLC, Oui, body, rest. -/
structure Fr where
  d : List UInt8
  s : List UInt8
  t : List Tg
  k : Int
  y : Int
  l : List UInt8
  o : List UInt8
  b : List UInt8
  r : List UInt8
def z6 : List UInt8 := [0, 0, 0, 0, 0, 0]
def z3 : List UInt8 := [0, 0, 0]
def snapL : List UInt8 := [170, 170, 3]
def Fr.zero : Fr := ⟨z6, z6, [], 0, 0, z3, z3, [], []⟩
/-- What any frame of the program is. -/
structure Fr.ok (f : Fr) : Prop where
  d : f.d.length = 6
  s : f.s.length = 6
  t : ∀ x ∈ f.t, x.ok
  k : -9223372036854775808 ≤ f.k ∧ f.k ≤ 9223372036854775807
  y : -9223372036854775808 ≤ f.y ∧ f.y ≤ 9223372036854775807
  l : f.l.length = 3
  o : f.o.length = 3
/-- What LLC's bytes tell, and what is behind them. -/
def llcM (c r : List UInt8) : Fr × Int :=
  if c.length < 3 then (Fr.zero, 5) else
  if c.take 3 = snapL then (if c.length < 8 then (Fr.zero, 5) else (⟨z6, z6, [], 3, (numM ((c.drop 6).take 2) : Int), c.take 3, (c.drop 3).take 3, c.drop 8, r⟩, 0))
  else (⟨z6, z6, [], 2, 0, c.take 3, z3, c.drop 3, r⟩, 0)
/-- What stands behind the tags. -/
def carM (b : List UInt8) : Fr × Int :=
  if b.length < 2 then (Fr.zero, 4) else
  if 1536 ≤ numM (b.take 2) then (⟨z6, z6, [], 1, (numM (b.take 2) : Int), z3, z3, b.drop 2, []⟩, 0) else
  if 1500 < numM (b.take 2) then (Fr.zero, 5) else
  if b.length < 2 + numM (b.take 2) then (Fr.zero, 4) else
  llcM ((b.drop 2).take (numM (b.take 2))) (b.drop (2 + numM (b.take 2)))
def getM (b : List UInt8) : Fr × List UInt8 × Int :=
  if 65535 < b.length then (Fr.zero, [], 3) else
  if b.length < 12 then (Fr.zero, [], 4) else
  if (readM (b.drop 12)).2.2 ≠ 0 then (Fr.zero, [], (readM (b.drop 12)).2.2) else
  if (carM (readM (b.drop 12)).2.1).2 ≠ 0 then (Fr.zero, [], (carM (readM (b.drop 12)).2.1).2) else
  ({ (carM (readM (b.drop 12)).2.1).1 with d := b.take 6, s := (b.drop 6).take 6, t := (readM (b.drop 12)).1 }, b.drop 12, 0)
/-- What may be carried. -/
def carryM (f : Fr) : Bool :=
  if f.k = 1 then decide (1536 ≤ f.y) && decide (f.y ≤ 65535) && !standM f.y.toNat (f.t.length : Int) && decide (f.l = z3) && decide (f.o = z3) && decide (f.r.length = 0)
  else if f.k = 2 then decide (f.y = 0) && decide (f.o = z3) && !decide (f.l = snapL) && decide (3 + f.b.length ≤ 1500)
  else if f.k = 3 then decide (0 ≤ f.y) && decide (f.y ≤ 65535) && decide (f.l = snapL) && decide (8 + f.b.length ≤ 1500)
  else false
def twoM (n : Nat) : List UInt8 := [UInt8.ofNat (n / 256), UInt8.ofNat n]
/-- What stands between the tags and the body. -/
def headM (f : Fr) : List UInt8 :=
  if f.k = 1 then twoM f.y.toNat else if f.k = 2 then twoM (3 + f.b.length) ++ f.l else twoM (8 + f.b.length) ++ f.l ++ f.o ++ twoM f.y.toNat
def aheadM (f : Fr) : List UInt8 := f.d ++ f.s ++ bytTs f.t ++ headM f
def putM (f : Fr) : List UInt8 × Int :=
  if (mayL f.t && carryM f) = false then ([], 1) else
  if 65539 < (aheadM f).length + f.b.length + f.r.length then ([], 3) else (aheadM f ++ f.b ++ f.r, 0)
def protoM (f : Fr) : Int × List UInt8 × Bool := if f.k = 1 ∨ (f.k = 3 ∧ f.o = z3) then (f.y, f.b, true) else (0, [], false)

theorem numM_two2 (n : Nat) (h : n < 65536) (r : List UInt8) : numM ((twoM n ++ r).take 2) = n := by
  show numM [UInt8.ofNat (n / 256), UInt8.ofNat n] = n
  exact numM_of n h
theorem two_numM (b : List UInt8) (h : 2 ≤ b.length) : twoM (numM (b.take 2)) = b.take 2 := by
  match b, h with
  | a :: c :: r, _ =>
    show [UInt8.ofNat (numM [a, c] / 256), UInt8.ofNat (numM [a, c])] = [a, c]
    rw [(of_numM a c).1, (of_numM a c).2]
theorem len3 {l : List UInt8} (h : l.length = 3) : ∃ a b c, l = [a, b, c] := by
  match l, h with
  | [a, b, c], _ => exact ⟨a, b, c, rfl⟩
theorem llc_car (f : Fr) (hf : f.ok) (h : carryM f = true) (hk : f.k = 2 ∨ f.k = 3) : carM (headM f ++ f.b ++ f.r) = ({ f with d := z6, s := z6, t := [] }, 0) := by
  obtain ⟨d, s, t, k, y, l, o, b, r⟩ := f
  obtain ⟨l0, l1, l2, rfl⟩ := len3 hf.l
  obtain ⟨o0, o1, o2, rfl⟩ := len3 hf.o
  simp only at hk
  rcases hk with rfl | rfl
  · simp [carryM] at h
    obtain ⟨⟨⟨rfl, ho⟩, hl⟩, hb⟩ := h
    unfold z3 at ho
    obtain ⟨rfl, rfl, rfl⟩ : o0 = 0 ∧ o1 = 0 ∧ o2 = 0 := by simpa using ho
    have e : headM ⟨d, s, t, 2, 0, [l0, l1, l2], [0, 0, 0], b, r⟩ = twoM (3 + b.length) ++ [l0, l1, l2] := rfl
    have hn : numM ((twoM (3 + b.length) ++ [l0, l1, l2] ++ b ++ r).take 2) = 3 + b.length := by
      rw [show twoM (3 + b.length) ++ [l0, l1, l2] ++ b ++ r = twoM (3 + b.length) ++ ([l0, l1, l2] ++ b ++ r) by simp]
      exact numM_two2 _ (by omega) _
    rw [e]
    unfold carM
    have hlen : (twoM (3 + b.length) ++ [l0, l1, l2] ++ b ++ r).length = 2 + (3 + b.length) + r.length := by simp [twoM]; omega
    rw [hn, hlen, if_neg (by omega), if_neg (by omega), if_neg (by omega), if_neg (by omega)]
    have hd : (twoM (3 + b.length) ++ [l0, l1, l2] ++ b ++ r).drop 2 = l0 :: l1 :: l2 :: (b ++ r) := by simp [twoM]
    have hdr : (twoM (3 + b.length) ++ [l0, l1, l2] ++ b ++ r).drop (2 + (3 + b.length)) = r := by
      rw [← List.drop_drop, hd, Nat.add_comm 3]
      simp
    have htk : ((twoM (3 + b.length) ++ [l0, l1, l2] ++ b ++ r).drop 2).take (3 + b.length) = l0 :: l1 :: l2 :: b := by
      rw [hd, Nat.add_comm 3]
      simp
    rw [hdr, htk]
    unfold llcM
    rw [if_neg (by simp), show (l0 :: l1 :: l2 :: b).take 3 = [l0, l1, l2] from rfl, if_neg (by simpa using hl)]
    rfl
  · simp [carryM] at h
    obtain ⟨⟨⟨hy, hy2⟩, hl⟩, hb⟩ := h
    obtain ⟨n, rfl⟩ : ∃ n : Nat, y = n := ⟨y.toNat, by omega⟩
    have e : headM ⟨d, s, t, 3, (n : Int), [l0, l1, l2], [o0, o1, o2], b, r⟩ = twoM (8 + b.length) ++ [l0, l1, l2] ++ [o0, o1, o2] ++ twoM n := rfl
    have hn : numM ((twoM (8 + b.length) ++ [l0, l1, l2] ++ [o0, o1, o2] ++ twoM n ++ b ++ r).take 2) = 8 + b.length := by
      rw [show twoM (8 + b.length) ++ [l0, l1, l2] ++ [o0, o1, o2] ++ twoM n ++ b ++ r = twoM (8 + b.length) ++ ([l0, l1, l2] ++ [o0, o1, o2] ++ twoM n ++ b ++ r) by simp]
      exact numM_two2 _ (by omega) _
    rw [e]
    unfold carM
    have hlen : (twoM (8 + b.length) ++ [l0, l1, l2] ++ [o0, o1, o2] ++ twoM n ++ b ++ r).length = 2 + (8 + b.length) + r.length := by simp [twoM]; omega
    rw [hn, hlen, if_neg (by omega), if_neg (by omega), if_neg (by omega), if_neg (by omega)]
    have hd : (twoM (8 + b.length) ++ [l0, l1, l2] ++ [o0, o1, o2] ++ twoM n ++ b ++ r).drop 2 = l0 :: l1 :: l2 :: o0 :: o1 :: o2 :: UInt8.ofNat (n / 256) :: UInt8.ofNat n :: (b ++ r) := by simp [twoM]
    have hdr : (twoM (8 + b.length) ++ [l0, l1, l2] ++ [o0, o1, o2] ++ twoM n ++ b ++ r).drop (2 + (8 + b.length)) = r := by
      rw [← List.drop_drop, hd, Nat.add_comm 8]
      simp
    have htk : ((twoM (8 + b.length) ++ [l0, l1, l2] ++ [o0, o1, o2] ++ twoM n ++ b ++ r).drop 2).take (8 + b.length) = l0 :: l1 :: l2 :: o0 :: o1 :: o2 :: UInt8.ofNat (n / 256) :: UInt8.ofNat n :: b := by
      rw [hd, Nat.add_comm 8]
      simp
    rw [hdr, htk]
    unfold llcM
    rw [if_neg (by simp), show (l0 :: l1 :: l2 :: o0 :: o1 :: o2 :: UInt8.ofNat (n / 256) :: UInt8.ofNat n :: b).take 3 = [l0, l1, l2] from rfl, if_pos (by simpa using hl), if_neg (by simp)]
    show (Fr.mk z6 z6 [] 3 (numM [UInt8.ofNat (n / 256), UInt8.ofNat n] : Int) [l0, l1, l2] [o0, o1, o2] b r, (0 : Int)) = _
    rw [numM_of n (by omega)]
theorem two_car (f : Fr) (hf : f.ok) (h : carryM f = true) (hk : f.k = 1) : carM (headM f ++ f.b ++ f.r) = ({ f with d := z6, s := z6, t := [] }, 0) := by
  obtain ⟨d, s, t, k, y, l, o, b, r⟩ := f
  simp only at hk
  subst hk
  simp [carryM] at h
  obtain ⟨⟨⟨⟨⟨hy, hy2⟩, hst⟩, rfl⟩, rfl⟩, rfl⟩ := h
  obtain ⟨n, rfl⟩ : ∃ n : Nat, y = n := ⟨y.toNat, by omega⟩
  have e : headM ⟨d, s, t, 1, (n : Int), z3, z3, b, []⟩ = twoM n := rfl
  rw [e]
  simp only [List.append_nil]
  unfold carM
  rw [numM_two2 n (by omega) b, if_neg (by simp [twoM]), if_pos (by omega)]
  simp [twoM]
theorem car_put (f : Fr) (hf : f.ok) (h : carryM f = true) : carM (headM f ++ f.b ++ f.r) = ({ f with d := z6, s := z6, t := [] }, 0) := by
  by_cases h1 : f.k = 1
  · exact two_car f hf h h1
  · by_cases h2 : f.k = 2
    · exact llc_car f hf h (.inl h2)
    · by_cases h3 : f.k = 3
      · exact llc_car f hf h (.inr h3)
      · unfold carryM at h
        rw [if_neg h1, if_neg h2, if_neg h3] at h
        cases h
/-- What begins as no tag that may stand. -/
theorem head_next (f : Fr) (h : carryM f = true) (r : List UInt8) : standM (nextM (headM f ++ r)) (f.t.length : Int) = false := by
  have key : ∀ (n : Nat) (r : List UInt8), n < 65536 → nextM (twoM n ++ r) = n := by
    intro n r hn
    unfold nextM
    rw [if_pos (by simp [twoM]), numM_two2 n hn]
  unfold carryM at h
  by_cases h1 : f.k = 1
  · rw [if_pos h1] at h
    simp at h
    obtain ⟨⟨⟨⟨⟨hy, hy2⟩, hst⟩, _⟩, _⟩, _⟩ := h
    rw [show headM f = twoM f.y.toNat by unfold headM; rw [if_pos h1], key _ _ (by omega)]
    exact hst
  · have hlow : ∀ n : Nat, n < 2000 → standM n (f.t.length : Int) = false := by
      intro n hn
      unfold standM
      split
      · simp; omega
      · split
        · simp; omega
        · rfl
    rw [if_neg h1] at h
    by_cases h2 : f.k = 2
    · rw [if_pos h2] at h
      simp at h
      rw [show headM f = twoM (3 + f.b.length) ++ f.l by unfold headM; rw [if_neg h1, if_pos h2], List.append_assoc, key _ _ (by omega)]
      exact hlow _ (by omega)
    · rw [if_neg h2] at h
      by_cases h3 : f.k = 3
      · rw [if_pos h3] at h
        simp at h
        rw [show headM f = twoM (8 + f.b.length) ++ f.l ++ f.o ++ twoM f.y.toNat by unfold headM; rw [if_neg h1, if_neg h2]]
        simp only [List.append_assoc]
        rw [key _ _ (by omega)]
        exact hlow _ (by omega)
      · rw [if_neg h3] at h
        cases h
theorem Stk.read' {l : List Tg} (h : Stk l) (b : List UInt8) (hb : standM (nextM b) (l.length : Int) = false) : readM (bytTs l ++ b) = (l, b, 0) := by
  have hl : l.length ≤ 2 := by rcases h with rfl | ⟨t, rfl, _⟩ | ⟨t, u, rfl, _⟩ <;> simp
  rcases Nat.lt_or_ge l.length 2 with h2 | h2
  · exact h.read b (.inr (by rw [beg_stand b _ h2]; exact hb))
  · exact h.read b (.inl (by omega))
/-- A frame that may be put, read where it stands behind other addresses and other tags. -/
theorem get_with (f : Fr) (hf : f.ok) (d s : List UInt8) (t : List Tg) (hd : d.length = 6) (hs : s.length = 6) (ht : mayL t = true) (hc : carryM f = true) (hn : standM (nextM (headM f ++ f.b ++ f.r)) (t.length : Int) = false)
    (hl : (d ++ s ++ bytTs t ++ (headM f ++ f.b ++ f.r)).length ≤ 65535) : getM (d ++ s ++ bytTs t ++ (headM f ++ f.b ++ f.r)) = ({ f with d := d, s := s, t := t }, bytTs t ++ (headM f ++ f.b ++ f.r), 0) := by
  have hst : Stk t := (mayL_iff _).1 ht
  have e12 : (d ++ s ++ bytTs t ++ (headM f ++ f.b ++ f.r)).drop 12 = bytTs t ++ (headM f ++ f.b ++ f.r) := by
    rw [List.append_assoc (d ++ s), List.drop_left' (by simp [hd, hs])]
  have e6 : (d ++ s ++ bytTs t ++ (headM f ++ f.b ++ f.r)).take 6 = d := by
    rw [List.append_assoc, List.append_assoc, List.take_left' hd]
  have e66 : ((d ++ s ++ bytTs t ++ (headM f ++ f.b ++ f.r)).drop 6).take 6 = s := by
    rw [List.append_assoc, List.append_assoc, List.drop_left' hd, List.take_left' hs]
  unfold getM
  rw [if_neg (by omega), if_neg (by simp [hd, hs]; omega), e12, e6, e66, hst.read' _ hn]
  simp only
  rw [if_neg (by simp), car_put f hf hc]
  simp
theorem get_put (f : Fr) (hf : f.ok) (h : (putM f).2 = 0) (hl : (putM f).1.length ≤ 65535) : getM (putM f).1 = (f, bytTs f.t ++ (headM f ++ f.b ++ f.r), 0) := by
  unfold putM at h hl ⊢
  by_cases h1 : (mayL f.t && carryM f) = false
  · rw [if_pos h1] at h
    simp at h
  · rw [if_neg h1] at h hl ⊢
    by_cases h2 : 65539 < (aheadM f).length + f.b.length + f.r.length
    · rw [if_pos h2] at h
      simp at h
    · rw [if_neg h2] at hl ⊢
      simp at h1
      obtain ⟨hm, hc⟩ := h1
      have e : aheadM f ++ f.b ++ f.r = f.d ++ f.s ++ bytTs f.t ++ (headM f ++ f.b ++ f.r) := by simp [aheadM]
      simp only at hl ⊢
      rw [e] at hl ⊢
      rw [get_with f hf f.d f.s f.t hf.d hf.s hm hc (by rw [List.append_assoc]; exact head_next f hc _) hl]
/-- Whatever is behind the tags of what is read is laid again. -/
theorem car_back (b : List UInt8) (hn : standM (nextM b) (0 : Int) = false ∨ True) (h : (carM b).2 = 0) : headM (carM b).1 ++ (carM b).1.b ++ (carM b).1.r = b ∧ (carM b).1.l.length = 3 ∧ (carM b).1.o.length = 3 ∧ (carM b).1.d = z6 ∧ (carM b).1.s = z6 ∧ (carM b).1.t = [] ∧
    (((carM b).1.k = 1 ∧ (carM b).1.y = (numM (b.take 2) : Int) ∧ 1536 ≤ numM (b.take 2) ∧ (carM b).1.l = z3 ∧ (carM b).1.o = z3 ∧ (carM b).1.r = [] ∧ 2 ≤ b.length) ∨
     ((carM b).1.k = 2 ∧ (carM b).1.y = 0 ∧ (carM b).1.o = z3 ∧ (carM b).1.l ≠ snapL ∧ 3 + (carM b).1.b.length ≤ 1500) ∨
     ((carM b).1.k = 3 ∧ 0 ≤ (carM b).1.y ∧ (carM b).1.y ≤ 65535 ∧ (carM b).1.l = snapL ∧ 8 + (carM b).1.b.length ≤ 1500)) := by
  have h2 : 2 ≤ b.length := by
    rcases Nat.lt_or_ge b.length 2 with g | g
    · unfold carM at h
      rw [if_pos g] at h
      cases h
    · exact g
  have hnum : numM (b.take 2) < 65536 := numM_take2 b
  have htw := two_numM b h2
  unfold carM at h ⊢
  rw [if_neg (by omega)] at h ⊢
  generalize hN : numM (b.take 2) = N at *
  by_cases h3 : 1536 ≤ N
  · rw [if_pos h3]
    refine ⟨?_, rfl, rfl, rfl, rfl, rfl, .inl ⟨rfl, rfl, h3, rfl, rfl, rfl, h2⟩⟩
    show twoM N ++ b.drop 2 ++ [] = b
    rw [htw, List.append_nil, List.take_append_drop]
  · rw [if_neg h3] at h ⊢
    by_cases h4 : 1500 < N
    · rw [if_pos h4] at h
      cases h
    · rw [if_neg h4] at h ⊢
      by_cases h5 : b.length < 2 + N
      · rw [if_pos h5] at h
        cases h
      · rw [if_neg h5] at h ⊢
        have hcl : ((b.drop 2).take N).length = N := by simp; omega
        have hcat : (b.drop 2).take N ++ b.drop (2 + N) = b.drop 2 := by
          rw [← List.drop_drop, List.take_append_drop]
        generalize (b.drop 2).take N = c at *
        generalize b.drop (2 + N) = r at *
        unfold llcM at h ⊢
        by_cases h6 : c.length < 3
        · rw [if_pos h6] at h
          cases h
        · rw [if_neg h6] at h ⊢
          by_cases h7 : c.take 3 = snapL
          · rw [if_pos h7] at h ⊢
            by_cases h8 : c.length < 8
            · rw [if_pos h8] at h
              cases h
            · rw [if_neg h8] at h ⊢
              have hy := numM_take2 (c.drop 6)
              refine ⟨?_, by simp; omega, by simp; omega, rfl, rfl, rfl, .inr (.inr ⟨rfl, by simp, by simp only; omega, h7, by simp; omega⟩)⟩
              show twoM (8 + (c.drop 8).length) ++ c.take 3 ++ (c.drop 3).take 3 ++ twoM (numM ((c.drop 6).take 2)) ++ c.drop 8 ++ r = b
              rw [two_numM (c.drop 6) (by simp; omega), show 8 + (c.drop 8).length = N by simp; omega, htw]
              have e1 : c.take 3 ++ ((c.drop 3).take 3 ++ ((c.drop 6).take 2 ++ c.drop 8)) = c := by
                rw [show c.drop 8 = (c.drop 6).drop 2 by simp, List.take_append_drop, show c.drop 6 = (c.drop 3).drop 3 by simp, List.take_append_drop, List.take_append_drop]
              calc b.take 2 ++ c.take 3 ++ (c.drop 3).take 3 ++ (c.drop 6).take 2 ++ c.drop 8 ++ r = b.take 2 ++ ((c.take 3 ++ ((c.drop 3).take 3 ++ ((c.drop 6).take 2 ++ c.drop 8))) ++ r) := by simp
                _ = b := by rw [e1, hcat, List.take_append_drop]
          · rw [if_neg h7] at h ⊢
            refine ⟨?_, by simp; omega, rfl, rfl, rfl, rfl, .inr (.inl ⟨rfl, rfl, rfl, h7, by simp; omega⟩)⟩
            show twoM (3 + (c.drop 3).length) ++ c.take 3 ++ c.drop 3 ++ r = b
            rw [show 3 + (c.drop 3).length = N by simp; omega, htw, List.append_assoc (b.take 2), List.take_append_drop, List.append_assoc, hcat, List.take_append_drop]
/-- What was read. -/
structure Got (b : List UInt8) : Prop where
  len : b.length ≤ 65535
  twelve : 12 ≤ b.length
  read : (readM (b.drop 12)).2.2 = 0
  car : (carM (readM (b.drop 12)).2.1).2 = 0
  eq : getM b = ({ (carM (readM (b.drop 12)).2.1).1 with d := b.take 6, s := (b.drop 6).take 6, t := (readM (b.drop 12)).1 }, b.drop 12, 0)
theorem got_of (b : List UInt8) (h : (getM b).2.2 = 0) : Got b := by
  unfold getM at h
  split at h
  · cases h
  · split at h
    · cases h
    · split at h
      · next h1 => exact absurd h h1
      · split at h
        · next h1 => exact absurd h h1
        · next h1 h2 h3 h4 =>
          refine ⟨by omega, by omega, by simpa using h3, by simpa using h4, ?_⟩
          unfold getM
          rw [if_neg h1, if_neg h2, if_neg h3, if_neg h4]
theorem get_none (b : List UInt8) (h : (getM b).2.2 ≠ 0) : (getM b).1 = Fr.zero ∧ (getM b).2.1 = [] := by
  unfold getM at h ⊢
  split
  · exact ⟨rfl, rfl⟩
  · split
    · exact ⟨rfl, rfl⟩
    · split
      · exact ⟨rfl, rfl⟩
      · split
        · exact ⟨rfl, rfl⟩
        · next h1 h2 h3 h4 =>
          rw [if_neg h1, if_neg h2, if_neg h3, if_neg h4] at h
          exact absurd rfl h
theorem readGo_next (f : Nat) : ∀ (ts : List Tg) (b : List UInt8), ts.length + f = 2 → (readGo f ts b).2.2 = 0 → standM (nextM (readGo f ts b).2.1) ((readGo f ts b).1.length : Int) = false := by
  induction f with
  | zero =>
    intro ts b h _
    show standM (nextM b) (ts.length : Int) = false
    rw [show (ts.length : Int) = 2 by omega, stand_two]
  | succ f ih =>
    intro ts b h h0
    unfold readGo at h0 ⊢
    cases hs : standM (nextM b) (ts.length : Int)
    · rw [if_neg (by simp)]
      exact hs
    · rw [hs, if_pos rfl] at h0
      rw [if_pos rfl]
      by_cases h4 : b.length < 4
      · rw [if_pos h4] at h0
        cases h0
      · rw [if_neg h4] at h0 ⊢
        exact ih _ _ (by simp; omega) h0
theorem readM_next (b : List UInt8) (h : (readM b).2.2 = 0) : standM (nextM (readM b).2.1) ((readM b).1.length : Int) = false := readGo_next 2 [] b rfl h
theorem readM_ok (b : List UInt8) : ∀ t ∈ (readM b).1, t.ok := by
  rcases readM_back b with ⟨_, h, _⟩ | ⟨_, h, _⟩
  · rw [h]; intro t ht; simp at ht
  · intro t ht
    have hm : mayT t = true := by
      rcases (mayL_iff _).1 h with h | ⟨u, h, hu⟩ | ⟨u, v, h, hu, hv, _⟩
      · rw [h] at ht; simp at ht
      · rw [h] at ht; simp at ht; subst ht; exact hu
      · rw [h] at ht; simp at ht; rcases ht with rfl | rfl
        · exact hu
        · exact hv
    obtain ⟨hk, hp, hn⟩ := (mayT_iff t).1 hm
    exact ⟨by omega, by omega, by omega⟩
theorem put_get (b : List UInt8) (h : (getM b).2.2 = 0) : (getM b).1.ok ∧ putM (getM b).1 = (b, 0) := by
  obtain ⟨hl, h12, hr, hc, he⟩ := got_of b h
  have hb := readM_back (b.drop 12)
  have hx := readM_next (b.drop 12) hr
  have hok := readM_ok (b.drop 12)
  rw [he]
  simp only
  generalize hR : readM (b.drop 12) = R at *
  obtain ⟨ts, x, er⟩ := R
  simp only at hr hc hb hx hok ⊢
  subst hr
  rcases hb with ⟨hb, _⟩ | ⟨_, hm, hcat⟩
  · cases hb
  · have hst : Stk ts := (mayL_iff _).1 hm
    rw [hst.bytes] at hcat
    obtain ⟨c1, c2, c3, _, _, _, c7⟩ := car_back x (.inr trivial) hc
    have hnx : 2 ≤ x.length → nextM x = numM (x.take 2) := fun h => by unfold nextM; rw [if_pos h]
    have hnum : numM (x.take 2) < 65536 := numM_take2 x
    generalize carM x = C at *
    obtain ⟨f, e0⟩ := C
    simp only at hc c1 c2 c3 c7 ⊢
    have hkr : (-9223372036854775808 ≤ f.k ∧ f.k ≤ 9223372036854775807) ∧ (-9223372036854775808 ≤ f.y ∧ f.y ≤ 9223372036854775807) := by
      rcases c7 with ⟨h1, h2, _⟩ | ⟨h1, h2, _⟩ | ⟨h1, h2, h3, _⟩ <;> rw [h1] <;> omega
    refine ⟨⟨by simp; omega, by simp; omega, hok, hkr.1, hkr.2, c2, c3⟩, ?_⟩
    have hcar : carryM { f with d := b.take 6, s := (b.drop 6).take 6, t := ts } = true := by
      unfold carryM
      simp only
      rcases c7 with ⟨h1, h2, h3, h4, h5, h6, h7⟩ | ⟨h1, h2, h3, h4, h5⟩ | ⟨h1, h2, h3, h4, h5⟩
      · rw [hnx h7] at hx
        rw [if_pos h1, h2, h4, h5, h6]
        simp only [Int.toNat_natCast, hx]
        simp
        omega
      · rw [h1]
        simp [h2, h3, h4, h5]
      · rw [h1]
        simp [h2, h3, h4, h5]
    have hcat2 : aheadM { f with d := b.take 6, s := (b.drop 6).take 6, t := ts } ++ f.b ++ f.r = b := by
      have : aheadM { f with d := b.take 6, s := (b.drop 6).take 6, t := ts } ++ f.b ++ f.r = b.take 6 ++ ((b.drop 6).take 6 ++ (bytTs ts ++ (headM f ++ f.b ++ f.r))) := by
        simp [aheadM, headM]
      rw [this, c1, hcat, show b.drop 12 = (b.drop 6).drop 6 by simp, List.take_append_drop, List.take_append_drop]
    have hlen := congrArg List.length hcat2
    rw [List.length_append, List.length_append] at hlen
    unfold putM
    simp only
    rw [hm, hcar, if_neg (by simp), if_neg (by omega), hcat2]
theorem put_err (f : Fr) : (putM f).2 = 0 ∨ ((putM f).1 = [] ∧ ((putM f).2 = 1 ∨ (putM f).2 = 3)) := by
  unfold putM
  split
  · exact .inr ⟨rfl, .inl rfl⟩
  · split
    · exact .inr ⟨rfl, .inr rfl⟩
    · exact .inl rfl
end Go.Proofs.Ythjfeanmgaidcaa
