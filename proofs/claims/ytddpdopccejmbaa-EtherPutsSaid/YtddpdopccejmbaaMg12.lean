/- Texts that belong together, one behind the other: EthM, Agg. Conditions: those of each. -/
import Derived.Test.YtddpdopccejmbaaMg11
import Derived.Test.YtddpdopccejmbaaMg9
import Derived.Test.YtddpdopccejmbaaMg7
import Derived.Deep.WholeRow
import Derived.BigFrame
/- Frames of Ethernet as plain data: read, laid, there and back. -/
namespace Go.Proofs.Ytddpdopccejmbaa
set_option linter.unusedVariables false

/-- A frame: addresses, tags, kind, type, LLC, Oui, body, rest. -/
structure Fr where
  d : List UInt8
  s : List UInt8
  t : List Tg
  k : Int
  y : Int
  l : List UInt8
  o : List UInt8
  b : List UInt8
  r : List UInt8
def z6 : List UInt8 := [0, 0, 0, 0, 0, 0]
def z3 : List UInt8 := [0, 0, 0]
def snapL : List UInt8 := [170, 170, 3]
def Fr.zero : Fr := ⟨z6, z6, [], 0, 0, z3, z3, [], []⟩
/-- What any frame of the program is. -/
structure Fr.ok (f : Fr) : Prop where
  d : f.d.length = 6
  s : f.s.length = 6
  t : ∀ x ∈ f.t, x.ok
  k : -9223372036854775808 ≤ f.k ∧ f.k ≤ 9223372036854775807
  y : -9223372036854775808 ≤ f.y ∧ f.y ≤ 9223372036854775807
  l : f.l.length = 3
  o : f.o.length = 3
/-- What LLC's bytes tell, and what is behind them. -/
def llcM (c r : List UInt8) : Fr × Int :=
  if c.length < 3 then (Fr.zero, 5) else
  if c.take 3 = snapL then (if c.length < 8 then (Fr.zero, 5) else (⟨z6, z6, [], 3, (numM ((c.drop 6).take 2) : Int), c.take 3, (c.drop 3).take 3, c.drop 8, r⟩, 0))
  else (⟨z6, z6, [], 2, 0, c.take 3, z3, c.drop 3, r⟩, 0)
/-- What stands behind the tags. -/
def carM (b : List UInt8) : Fr × Int :=
  if b.length < 2 then (Fr.zero, 4) else
  if 1536 ≤ numM (b.take 2) then (⟨z6, z6, [], 1, (numM (b.take 2) : Int), z3, z3, b.drop 2, []⟩, 0) else
  if 1500 < numM (b.take 2) then (Fr.zero, 5) else
  if b.length < 2 + numM (b.take 2) then (Fr.zero, 4) else
  llcM ((b.drop 2).take (numM (b.take 2))) (b.drop (2 + numM (b.take 2)))
def getM (b : List UInt8) : Fr × List UInt8 × Int :=
  if 65535 < b.length then (Fr.zero, [], 3) else
  if b.length < 12 then (Fr.zero, [], 4) else
  if (readM (b.drop 12)).2.2 ≠ 0 then (Fr.zero, [], (readM (b.drop 12)).2.2) else
  if (carM (readM (b.drop 12)).2.1).2 ≠ 0 then (Fr.zero, [], (carM (readM (b.drop 12)).2.1).2) else
  ({ (carM (readM (b.drop 12)).2.1).1 with d := b.take 6, s := (b.drop 6).take 6, t := (readM (b.drop 12)).1 }, b.drop 12, 0)
/-- What may be carried. -/
def carryM (f : Fr) : Bool :=
  if f.k = 1 then decide (1536 ≤ f.y) && decide (f.y ≤ 65535) && !standM f.y.toNat (f.t.length : Int) && decide (f.l = z3) && decide (f.o = z3) && decide (f.r.length = 0)
  else if f.k = 2 then decide (f.y = 0) && decide (f.o = z3) && !decide (f.l = snapL) && decide (3 + f.b.length ≤ 1500)
  else if f.k = 3 then decide (0 ≤ f.y) && decide (f.y ≤ 65535) && decide (f.l = snapL) && decide (8 + f.b.length ≤ 1500)
  else false
def twoM (n : Nat) : List UInt8 := [UInt8.ofNat (n / 256), UInt8.ofNat n]
/-- What stands between the tags and the body. -/
def headM (f : Fr) : List UInt8 :=
  if f.k = 1 then twoM f.y.toNat else if f.k = 2 then twoM (3 + f.b.length) ++ f.l else twoM (8 + f.b.length) ++ f.l ++ f.o ++ twoM f.y.toNat
def aheadM (f : Fr) : List UInt8 := f.d ++ f.s ++ bytTs f.t ++ headM f
def putM (f : Fr) : List UInt8 × Int :=
  if (mayL f.t && carryM f) = false then ([], 1) else
  if 65539 < (aheadM f).length + f.b.length + f.r.length then ([], 3) else (aheadM f ++ f.b ++ f.r, 0)
def protoM (f : Fr) : Int × List UInt8 × Bool := if f.k = 1 ∨ (f.k = 3 ∧ f.o = z3) then (f.y, f.b, true) else (0, [], false)

theorem numM_two2 (n : Nat) (h : n < 65536) (r : List UInt8) : numM ((twoM n ++ r).take 2) = n := by
  show numM [UInt8.ofNat (n / 256), UInt8.ofNat n] = n
  exact numM_of n h
theorem two_numM (b : List UInt8) (h : 2 ≤ b.length) : twoM (numM (b.take 2)) = b.take 2 := by
  match b, h with
  | a :: c :: r, _ =>
    show [UInt8.ofNat (numM [a, c] / 256), UInt8.ofNat (numM [a, c])] = [a, c]
    rw [(of_numM a c).1, (of_numM a c).2]
theorem len3 {l : List UInt8} (h : l.length = 3) : ∃ a b c, l = [a, b, c] := by
  match l, h with
  | [a, b, c], _ => exact ⟨a, b, c, rfl⟩
theorem llc_car (f : Fr) (hf : f.ok) (h : carryM f = true) (hk : f.k = 2 ∨ f.k = 3) : carM (headM f ++ f.b ++ f.r) = ({ f with d := z6, s := z6, t := [] }, 0) := by
  obtain ⟨d, s, t, k, y, l, o, b, r⟩ := f
  obtain ⟨l0, l1, l2, rfl⟩ := len3 hf.l
  obtain ⟨o0, o1, o2, rfl⟩ := len3 hf.o
  simp only at hk
  rcases hk with rfl | rfl
  · simp [carryM] at h
    obtain ⟨⟨⟨rfl, ho⟩, hl⟩, hb⟩ := h
    unfold z3 at ho
    obtain ⟨rfl, rfl, rfl⟩ : o0 = 0 ∧ o1 = 0 ∧ o2 = 0 := by simpa using ho
    have e : headM ⟨d, s, t, 2, 0, [l0, l1, l2], [0, 0, 0], b, r⟩ = twoM (3 + b.length) ++ [l0, l1, l2] := rfl
    have hn : numM ((twoM (3 + b.length) ++ [l0, l1, l2] ++ b ++ r).take 2) = 3 + b.length := by
      rw [show twoM (3 + b.length) ++ [l0, l1, l2] ++ b ++ r = twoM (3 + b.length) ++ ([l0, l1, l2] ++ b ++ r) by simp]
      exact numM_two2 _ (by omega) _
    rw [e]
    unfold carM
    have hlen : (twoM (3 + b.length) ++ [l0, l1, l2] ++ b ++ r).length = 2 + (3 + b.length) + r.length := by simp [twoM]; omega
    rw [hn, hlen, if_neg (by omega), if_neg (by omega), if_neg (by omega), if_neg (by omega)]
    have hd : (twoM (3 + b.length) ++ [l0, l1, l2] ++ b ++ r).drop 2 = l0 :: l1 :: l2 :: (b ++ r) := by simp [twoM]
    have hdr : (twoM (3 + b.length) ++ [l0, l1, l2] ++ b ++ r).drop (2 + (3 + b.length)) = r := by
      rw [← List.drop_drop, hd, Nat.add_comm 3]
      simp
    have htk : ((twoM (3 + b.length) ++ [l0, l1, l2] ++ b ++ r).drop 2).take (3 + b.length) = l0 :: l1 :: l2 :: b := by
      rw [hd, Nat.add_comm 3]
      simp
    rw [hdr, htk]
    unfold llcM
    rw [if_neg (by simp), show (l0 :: l1 :: l2 :: b).take 3 = [l0, l1, l2] from rfl, if_neg (by simpa using hl)]
    rfl
  · simp [carryM] at h
    obtain ⟨⟨⟨hy, hy2⟩, hl⟩, hb⟩ := h
    obtain ⟨n, rfl⟩ : ∃ n : Nat, y = n := ⟨y.toNat, by omega⟩
    have e : headM ⟨d, s, t, 3, (n : Int), [l0, l1, l2], [o0, o1, o2], b, r⟩ = twoM (8 + b.length) ++ [l0, l1, l2] ++ [o0, o1, o2] ++ twoM n := rfl
    have hn : numM ((twoM (8 + b.length) ++ [l0, l1, l2] ++ [o0, o1, o2] ++ twoM n ++ b ++ r).take 2) = 8 + b.length := by
      rw [show twoM (8 + b.length) ++ [l0, l1, l2] ++ [o0, o1, o2] ++ twoM n ++ b ++ r = twoM (8 + b.length) ++ ([l0, l1, l2] ++ [o0, o1, o2] ++ twoM n ++ b ++ r) by simp]
      exact numM_two2 _ (by omega) _
    rw [e]
    unfold carM
    have hlen : (twoM (8 + b.length) ++ [l0, l1, l2] ++ [o0, o1, o2] ++ twoM n ++ b ++ r).length = 2 + (8 + b.length) + r.length := by simp [twoM]; omega
    rw [hn, hlen, if_neg (by omega), if_neg (by omega), if_neg (by omega), if_neg (by omega)]
    have hd : (twoM (8 + b.length) ++ [l0, l1, l2] ++ [o0, o1, o2] ++ twoM n ++ b ++ r).drop 2 = l0 :: l1 :: l2 :: o0 :: o1 :: o2 :: UInt8.ofNat (n / 256) :: UInt8.ofNat n :: (b ++ r) := by simp [twoM]
    have hdr : (twoM (8 + b.length) ++ [l0, l1, l2] ++ [o0, o1, o2] ++ twoM n ++ b ++ r).drop (2 + (8 + b.length)) = r := by
      rw [← List.drop_drop, hd, Nat.add_comm 8]
      simp
    have htk : ((twoM (8 + b.length) ++ [l0, l1, l2] ++ [o0, o1, o2] ++ twoM n ++ b ++ r).drop 2).take (8 + b.length) = l0 :: l1 :: l2 :: o0 :: o1 :: o2 :: UInt8.ofNat (n / 256) :: UInt8.ofNat n :: b := by
      rw [hd, Nat.add_comm 8]
      simp
    rw [hdr, htk]
    unfold llcM
    rw [if_neg (by simp), show (l0 :: l1 :: l2 :: o0 :: o1 :: o2 :: UInt8.ofNat (n / 256) :: UInt8.ofNat n :: b).take 3 = [l0, l1, l2] from rfl, if_pos (by simpa using hl), if_neg (by simp)]
    show (Fr.mk z6 z6 [] 3 (numM [UInt8.ofNat (n / 256), UInt8.ofNat n] : Int) [l0, l1, l2] [o0, o1, o2] b r, (0 : Int)) = _
    rw [numM_of n (by omega)]
theorem two_car (f : Fr) (hf : f.ok) (h : carryM f = true) (hk : f.k = 1) : carM (headM f ++ f.b ++ f.r) = ({ f with d := z6, s := z6, t := [] }, 0) := by
  obtain ⟨d, s, t, k, y, l, o, b, r⟩ := f
  simp only at hk
  subst hk
  simp [carryM] at h
  obtain ⟨⟨⟨⟨⟨hy, hy2⟩, hst⟩, rfl⟩, rfl⟩, rfl⟩ := h
  obtain ⟨n, rfl⟩ : ∃ n : Nat, y = n := ⟨y.toNat, by omega⟩
  have e : headM ⟨d, s, t, 1, (n : Int), z3, z3, b, []⟩ = twoM n := rfl
  rw [e]
  simp only [List.append_nil]
  unfold carM
  rw [numM_two2 n (by omega) b, if_neg (by simp [twoM]), if_pos (by omega)]
  simp [twoM]
theorem car_put (f : Fr) (hf : f.ok) (h : carryM f = true) : carM (headM f ++ f.b ++ f.r) = ({ f with d := z6, s := z6, t := [] }, 0) := by
  by_cases h1 : f.k = 1
  · exact two_car f hf h h1
  · by_cases h2 : f.k = 2
    · exact llc_car f hf h (.inl h2)
    · by_cases h3 : f.k = 3
      · exact llc_car f hf h (.inr h3)
      · unfold carryM at h
        rw [if_neg h1, if_neg h2, if_neg h3] at h
        cases h
/-- What begins as no tag that may stand. -/
theorem head_next (f : Fr) (h : carryM f = true) (r : List UInt8) : standM (nextM (headM f ++ r)) (f.t.length : Int) = false := by
  have key : ∀ (n : Nat) (r : List UInt8), n < 65536 → nextM (twoM n ++ r) = n := by
    intro n r hn
    unfold nextM
    rw [if_pos (by simp [twoM]), numM_two2 n hn]
  unfold carryM at h
  by_cases h1 : f.k = 1
  · rw [if_pos h1] at h
    simp at h
    obtain ⟨⟨⟨⟨⟨hy, hy2⟩, hst⟩, _⟩, _⟩, _⟩ := h
    rw [show headM f = twoM f.y.toNat by unfold headM; rw [if_pos h1], key _ _ (by omega)]
    exact hst
  · have hlow : ∀ n : Nat, n < 2000 → standM n (f.t.length : Int) = false := by
      intro n hn
      unfold standM
      split
      · simp; omega
      · split
        · simp; omega
        · rfl
    rw [if_neg h1] at h
    by_cases h2 : f.k = 2
    · rw [if_pos h2] at h
      simp at h
      rw [show headM f = twoM (3 + f.b.length) ++ f.l by unfold headM; rw [if_neg h1, if_pos h2], List.append_assoc, key _ _ (by omega)]
      exact hlow _ (by omega)
    · rw [if_neg h2] at h
      by_cases h3 : f.k = 3
      · rw [if_pos h3] at h
        simp at h
        rw [show headM f = twoM (8 + f.b.length) ++ f.l ++ f.o ++ twoM f.y.toNat by unfold headM; rw [if_neg h1, if_neg h2]]
        simp only [List.append_assoc]
        rw [key _ _ (by omega)]
        exact hlow _ (by omega)
      · rw [if_neg h3] at h
        cases h
theorem Stk.read' {l : List Tg} (h : Stk l) (b : List UInt8) (hb : standM (nextM b) (l.length : Int) = false) : readM (bytTs l ++ b) = (l, b, 0) := by
  have hl : l.length ≤ 2 := by rcases h with rfl | ⟨t, rfl, _⟩ | ⟨t, u, rfl, _⟩ <;> simp
  rcases Nat.lt_or_ge l.length 2 with h2 | h2
  · exact h.read b (.inr (by rw [beg_stand b _ h2]; exact hb))
  · exact h.read b (.inl (by omega))
/-- A frame that may be put, read where it stands behind other addresses and other tags. -/
theorem get_with (f : Fr) (hf : f.ok) (d s : List UInt8) (t : List Tg) (hd : d.length = 6) (hs : s.length = 6) (ht : mayL t = true) (hc : carryM f = true) (hn : standM (nextM (headM f ++ f.b ++ f.r)) (t.length : Int) = false)
    (hl : (d ++ s ++ bytTs t ++ (headM f ++ f.b ++ f.r)).length ≤ 65535) : getM (d ++ s ++ bytTs t ++ (headM f ++ f.b ++ f.r)) = ({ f with d := d, s := s, t := t }, bytTs t ++ (headM f ++ f.b ++ f.r), 0) := by
  have hst : Stk t := (mayL_iff _).1 ht
  have e12 : (d ++ s ++ bytTs t ++ (headM f ++ f.b ++ f.r)).drop 12 = bytTs t ++ (headM f ++ f.b ++ f.r) := by
    rw [List.append_assoc (d ++ s), List.drop_left' (by simp [hd, hs])]
  have e6 : (d ++ s ++ bytTs t ++ (headM f ++ f.b ++ f.r)).take 6 = d := by
    rw [List.append_assoc, List.append_assoc, List.take_left' hd]
  have e66 : ((d ++ s ++ bytTs t ++ (headM f ++ f.b ++ f.r)).drop 6).take 6 = s := by
    rw [List.append_assoc, List.append_assoc, List.drop_left' hd, List.take_left' hs]
  unfold getM
  rw [if_neg (by omega), if_neg (by simp [hd, hs]; omega), e12, e6, e66, hst.read' _ hn]
  simp only
  rw [if_neg (by simp), car_put f hf hc]
  simp
theorem get_put (f : Fr) (hf : f.ok) (h : (putM f).2 = 0) (hl : (putM f).1.length ≤ 65535) : getM (putM f).1 = (f, bytTs f.t ++ (headM f ++ f.b ++ f.r), 0) := by
  unfold putM at h hl ⊢
  by_cases h1 : (mayL f.t && carryM f) = false
  · rw [if_pos h1] at h
    simp at h
  · rw [if_neg h1] at h hl ⊢
    by_cases h2 : 65539 < (aheadM f).length + f.b.length + f.r.length
    · rw [if_pos h2] at h
      simp at h
    · rw [if_neg h2] at hl ⊢
      simp at h1
      obtain ⟨hm, hc⟩ := h1
      have e : aheadM f ++ f.b ++ f.r = f.d ++ f.s ++ bytTs f.t ++ (headM f ++ f.b ++ f.r) := by simp [aheadM]
      simp only at hl ⊢
      rw [e] at hl ⊢
      rw [get_with f hf f.d f.s f.t hf.d hf.s hm hc (by rw [List.append_assoc]; exact head_next f hc _) hl]
/-- Whatever is behind the tags of what is read is laid again. -/
theorem car_back (b : List UInt8) (hn : standM (nextM b) (0 : Int) = false ∨ True) (h : (carM b).2 = 0) : headM (carM b).1 ++ (carM b).1.b ++ (carM b).1.r = b ∧ (carM b).1.l.length = 3 ∧ (carM b).1.o.length = 3 ∧ (carM b).1.d = z6 ∧ (carM b).1.s = z6 ∧ (carM b).1.t = [] ∧
    (((carM b).1.k = 1 ∧ (carM b).1.y = (numM (b.take 2) : Int) ∧ 1536 ≤ numM (b.take 2) ∧ (carM b).1.l = z3 ∧ (carM b).1.o = z3 ∧ (carM b).1.r = [] ∧ 2 ≤ b.length) ∨
     ((carM b).1.k = 2 ∧ (carM b).1.y = 0 ∧ (carM b).1.o = z3 ∧ (carM b).1.l ≠ snapL ∧ 3 + (carM b).1.b.length ≤ 1500) ∨
     ((carM b).1.k = 3 ∧ 0 ≤ (carM b).1.y ∧ (carM b).1.y ≤ 65535 ∧ (carM b).1.l = snapL ∧ 8 + (carM b).1.b.length ≤ 1500)) := by
  have h2 : 2 ≤ b.length := by
    rcases Nat.lt_or_ge b.length 2 with g | g
    · unfold carM at h
      rw [if_pos g] at h
      cases h
    · exact g
  have hnum : numM (b.take 2) < 65536 := numM_take2 b
  have htw := two_numM b h2
  unfold carM at h ⊢
  rw [if_neg (by omega)] at h ⊢
  generalize hN : numM (b.take 2) = N at *
  by_cases h3 : 1536 ≤ N
  · rw [if_pos h3]
    refine ⟨?_, rfl, rfl, rfl, rfl, rfl, .inl ⟨rfl, rfl, h3, rfl, rfl, rfl, h2⟩⟩
    show twoM N ++ b.drop 2 ++ [] = b
    rw [htw, List.append_nil, List.take_append_drop]
  · rw [if_neg h3] at h ⊢
    by_cases h4 : 1500 < N
    · rw [if_pos h4] at h
      cases h
    · rw [if_neg h4] at h ⊢
      by_cases h5 : b.length < 2 + N
      · rw [if_pos h5] at h
        cases h
      · rw [if_neg h5] at h ⊢
        have hcl : ((b.drop 2).take N).length = N := by simp; omega
        have hcat : (b.drop 2).take N ++ b.drop (2 + N) = b.drop 2 := by
          rw [← List.drop_drop, List.take_append_drop]
        generalize (b.drop 2).take N = c at *
        generalize b.drop (2 + N) = r at *
        unfold llcM at h ⊢
        by_cases h6 : c.length < 3
        · rw [if_pos h6] at h
          cases h
        · rw [if_neg h6] at h ⊢
          by_cases h7 : c.take 3 = snapL
          · rw [if_pos h7] at h ⊢
            by_cases h8 : c.length < 8
            · rw [if_pos h8] at h
              cases h
            · rw [if_neg h8] at h ⊢
              have hy := numM_take2 (c.drop 6)
              refine ⟨?_, by simp; omega, by simp; omega, rfl, rfl, rfl, .inr (.inr ⟨rfl, by simp, by simp only; omega, h7, by simp; omega⟩)⟩
              show twoM (8 + (c.drop 8).length) ++ c.take 3 ++ (c.drop 3).take 3 ++ twoM (numM ((c.drop 6).take 2)) ++ c.drop 8 ++ r = b
              rw [two_numM (c.drop 6) (by simp; omega), show 8 + (c.drop 8).length = N by simp; omega, htw]
              have e1 : c.take 3 ++ ((c.drop 3).take 3 ++ ((c.drop 6).take 2 ++ c.drop 8)) = c := by
                rw [show c.drop 8 = (c.drop 6).drop 2 by simp, List.take_append_drop, show c.drop 6 = (c.drop 3).drop 3 by simp, List.take_append_drop, List.take_append_drop]
              calc b.take 2 ++ c.take 3 ++ (c.drop 3).take 3 ++ (c.drop 6).take 2 ++ c.drop 8 ++ r = b.take 2 ++ ((c.take 3 ++ ((c.drop 3).take 3 ++ ((c.drop 6).take 2 ++ c.drop 8))) ++ r) := by simp
                _ = b := by rw [e1, hcat, List.take_append_drop]
          · rw [if_neg h7] at h ⊢
            refine ⟨?_, by simp; omega, rfl, rfl, rfl, rfl, .inr (.inl ⟨rfl, rfl, rfl, h7, by simp; omega⟩)⟩
            show twoM (3 + (c.drop 3).length) ++ c.take 3 ++ c.drop 3 ++ r = b
            rw [show 3 + (c.drop 3).length = N by simp; omega, htw, List.append_assoc (b.take 2), List.take_append_drop, List.append_assoc, hcat, List.take_append_drop]
/-- What was read. -/
structure Got (b : List UInt8) : Prop where
  len : b.length ≤ 65535
  twelve : 12 ≤ b.length
  read : (readM (b.drop 12)).2.2 = 0
  car : (carM (readM (b.drop 12)).2.1).2 = 0
  eq : getM b = ({ (carM (readM (b.drop 12)).2.1).1 with d := b.take 6, s := (b.drop 6).take 6, t := (readM (b.drop 12)).1 }, b.drop 12, 0)
theorem got_of (b : List UInt8) (h : (getM b).2.2 = 0) : Got b := by
  unfold getM at h
  split at h
  · cases h
  · split at h
    · cases h
    · split at h
      · next h1 => exact absurd h h1
      · split at h
        · next h1 => exact absurd h h1
        · next h1 h2 h3 h4 =>
          refine ⟨by omega, by omega, by simpa using h3, by simpa using h4, ?_⟩
          unfold getM
          rw [if_neg h1, if_neg h2, if_neg h3, if_neg h4]
theorem get_none (b : List UInt8) (h : (getM b).2.2 ≠ 0) : (getM b).1 = Fr.zero ∧ (getM b).2.1 = [] := by
  unfold getM at h ⊢
  split
  · exact ⟨rfl, rfl⟩
  · split
    · exact ⟨rfl, rfl⟩
    · split
      · exact ⟨rfl, rfl⟩
      · split
        · exact ⟨rfl, rfl⟩
        · next h1 h2 h3 h4 =>
          rw [if_neg h1, if_neg h2, if_neg h3, if_neg h4] at h
          exact absurd rfl h
theorem readGo_next (f : Nat) : ∀ (ts : List Tg) (b : List UInt8), ts.length + f = 2 → (readGo f ts b).2.2 = 0 → standM (nextM (readGo f ts b).2.1) ((readGo f ts b).1.length : Int) = false := by
  induction f with
  | zero =>
    intro ts b h _
    show standM (nextM b) (ts.length : Int) = false
    rw [show (ts.length : Int) = 2 by omega, stand_two]
  | succ f ih =>
    intro ts b h h0
    unfold readGo at h0 ⊢
    cases hs : standM (nextM b) (ts.length : Int)
    · rw [if_neg (by simp)]
      exact hs
    · rw [hs, if_pos rfl] at h0
      rw [if_pos rfl]
      by_cases h4 : b.length < 4
      · rw [if_pos h4] at h0
        cases h0
      · rw [if_neg h4] at h0 ⊢
        exact ih _ _ (by simp; omega) h0
theorem readM_next (b : List UInt8) (h : (readM b).2.2 = 0) : standM (nextM (readM b).2.1) ((readM b).1.length : Int) = false := readGo_next 2 [] b rfl h
theorem readM_ok (b : List UInt8) : ∀ t ∈ (readM b).1, t.ok := by
  rcases readM_back b with ⟨_, h, _⟩ | ⟨_, h, _⟩
  · rw [h]; intro t ht; simp at ht
  · intro t ht
    have hm : mayT t = true := by
      rcases (mayL_iff _).1 h with h | ⟨u, h, hu⟩ | ⟨u, v, h, hu, hv, _⟩
      · rw [h] at ht; simp at ht
      · rw [h] at ht; simp at ht; subst ht; exact hu
      · rw [h] at ht; simp at ht; rcases ht with rfl | rfl
        · exact hu
        · exact hv
    obtain ⟨hk, hp, hn⟩ := (mayT_iff t).1 hm
    exact ⟨by omega, by omega, by omega⟩
theorem put_get (b : List UInt8) (h : (getM b).2.2 = 0) : (getM b).1.ok ∧ putM (getM b).1 = (b, 0) := by
  obtain ⟨hl, h12, hr, hc, he⟩ := got_of b h
  have hb := readM_back (b.drop 12)
  have hx := readM_next (b.drop 12) hr
  have hok := readM_ok (b.drop 12)
  rw [he]
  simp only
  generalize hR : readM (b.drop 12) = R at *
  obtain ⟨ts, x, er⟩ := R
  simp only at hr hc hb hx hok ⊢
  subst hr
  rcases hb with ⟨hb, _⟩ | ⟨_, hm, hcat⟩
  · cases hb
  · have hst : Stk ts := (mayL_iff _).1 hm
    rw [hst.bytes] at hcat
    obtain ⟨c1, c2, c3, _, _, _, c7⟩ := car_back x (.inr trivial) hc
    have hnx : 2 ≤ x.length → nextM x = numM (x.take 2) := fun h => by unfold nextM; rw [if_pos h]
    have hnum : numM (x.take 2) < 65536 := numM_take2 x
    generalize carM x = C at *
    obtain ⟨f, e0⟩ := C
    simp only at hc c1 c2 c3 c7 ⊢
    have hkr : (-9223372036854775808 ≤ f.k ∧ f.k ≤ 9223372036854775807) ∧ (-9223372036854775808 ≤ f.y ∧ f.y ≤ 9223372036854775807) := by
      rcases c7 with ⟨h1, h2, _⟩ | ⟨h1, h2, _⟩ | ⟨h1, h2, h3, _⟩ <;> rw [h1] <;> omega
    refine ⟨⟨by simp; omega, by simp; omega, hok, hkr.1, hkr.2, c2, c3⟩, ?_⟩
    have hcar : carryM { f with d := b.take 6, s := (b.drop 6).take 6, t := ts } = true := by
      unfold carryM
      simp only
      rcases c7 with ⟨h1, h2, h3, h4, h5, h6, h7⟩ | ⟨h1, h2, h3, h4, h5⟩ | ⟨h1, h2, h3, h4, h5⟩
      · rw [hnx h7] at hx
        rw [if_pos h1, h2, h4, h5, h6]
        simp only [Int.toNat_natCast, hx]
        simp
        omega
      · rw [h1]
        simp [h2, h3, h4, h5]
      · rw [h1]
        simp [h2, h3, h4, h5]
    have hcat2 : aheadM { f with d := b.take 6, s := (b.drop 6).take 6, t := ts } ++ f.b ++ f.r = b := by
      have : aheadM { f with d := b.take 6, s := (b.drop 6).take 6, t := ts } ++ f.b ++ f.r = b.take 6 ++ ((b.drop 6).take 6 ++ (bytTs ts ++ (headM f ++ f.b ++ f.r))) := by
        simp [aheadM, headM]
      rw [this, c1, hcat, show b.drop 12 = (b.drop 6).drop 6 by simp, List.take_append_drop, List.take_append_drop]
    have hlen := congrArg List.length hcat2
    rw [List.length_append, List.length_append] at hlen
    unfold putM
    simp only
    rw [hm, hcar, if_neg (by simp), if_neg (by omega), hcat2]
theorem put_err (f : Fr) : (putM f).2 = 0 ∨ ((putM f).1 = [] ∧ ((putM f).2 = 1 ∨ (putM f).2 = 3)) := by
  unfold putM
  split
  · exact .inr ⟨rfl, .inl rfl⟩
  · split
    · exact .inr ⟨rfl, .inr rfl⟩
    · exact .inl rfl
end Go.Proofs.Ytddpdopccejmbaa
/- Rows of many cells, loaded and stored in one step; a new name for the world. Nothing of the program is named here. -/
namespace Go.Proofs.Ytddpdopccejmbaa
open Go.RowKit Go.Sort
set_option linter.unusedVariables false

theorem addr_add (g o j : Nat) : (⟨g, o, none⟩ : Addr).add j = ⟨g, o + j, none⟩ := by unfold Addr.add; split <;> simp_all
/-- The cells of a block read, from a place on, as a list. -/
def Row (w : World) (g o : Nat) (l : List Value) : Prop := ∀ j u, l[j]? = some u → w.cell? ⟨g, o + j, none⟩ = some u
theorem Row.kept {F : Nat → Prop} {w w' : World} {g o : Nat} {l : List Value} (h : Row w g o l) (k : Kept F w w') (hg : ¬ F g) : Row w' g o l := fun j u hu => k.cell (h j u hu) hg
theorem Blo.row {w : World} {g : Nat} {t : TypeId} (a l b : List Value) (h : Blo w g t (a ++ l ++ b).toArray) : Row w g a.length l := by
  intro j u hu
  have hj : j < l.length := (List.getElem?_eq_some_iff.1 hu).1
  rw [h.cell]
  rw [List.getElem?_toArray, List.append_assoc, List.getElem?_append_right (by omega), Nat.add_sub_cancel_left, List.getElem?_append_left hj, hu]
def aggB (d : TypeDesc) : Bool := match d with | .struct _ | .array _ _ => true | _ => false
theorem run_loadRow {P : Program} {w : World} {g o : Nat} {l : List Value} {ty : TypeId} {d : TypeDesc} (hl : Row w g o l) (hu : P.underlying ty = some d) (hd : aggB d = true) (hi : (P.info? ty).map (·.size) = some l.length) :
    (loadVar ty ⟨g, o, none⟩).run P w = .ok (.agg l.toArray) w := by
  have hl : (loadCells ⟨g, o, none⟩ l.length).run P w = .ok l.toArray w :=
    run_loadCells_list (P := P) w ⟨g, o, none⟩ l (fun j v hv => by rw [addr_add]; exact hl j v hv)
  cases hq : P.info? ty with
  | none => simp [hq] at hi
  | some i =>
    have hs : i.size = l.length := by simpa [hq] using hi
    have hagg : (isAgg ty).run P w = .ok true w := by
      unfold isAgg
      rw [Sem.run_bind, run_underlying hu w]
      cases d <;> simp_all [aggB]
    simp [loadVar, Sem.run_bind, hagg, sizeOf, typeInfo, hq, hs, hl]
theorem wpList_ld {P : Program} {w : World} {ops : Array Oper} {rest : List Oper} {o : Oper} {a : Act} {Q : Exit → Act → World → Prop} (hgd : Region.wanted o (yielded ops a.tmps) = true) (ty : TypeId) (p : Operand) (ho : o.op = .load ty p)
    (g f : Nat) (hp : a.eval p = .pointer (some ⟨g, f, none⟩)) (l : List Value) (hl : Row w g f l) (d : TypeDesc) (hu : P.underlying ty = some d) (hd : aggB d = true) (hi : (P.info? ty).map (·.size) = some l.length)
    (h : wpList P ops Q rest (a.put o.dst (.agg l.toArray)) w) : wpList P ops Q (o :: rest) a w := by
  refine BigFrame.wpList_want hgd fun K hK => ?_
  unfold Oper.wp execOp
  simp only [ho, hp, Instr.loadAt, Instr.sureAddr, Sem.run_bind, Sem.run_pure, Result.andThen_ok, run_loadRow hl hu hd hi]
  exact hK _ _ h
theorem run_storeRow {P : Program} (g f : Nat) (t : TypeId) : ∀ (vs : List Value) (i : Nat) (cur : Array Value) (w : World), w.heap[g]? = some (.cells cur t (0, 0)) → f + i + vs.length ≤ cur.size → (∀ v ∈ vs, v.oneCell' = true) →
    (storeCells ⟨g, f, none⟩ vs i).run P w = .ok () (w.setRow g (cur.toList.take (f + i) ++ vs ++ cur.toList.drop (f + i + vs.length)).toArray)
  | [], i, cur, w, hg, hl, _ => by
    have hlt : g < w.heap.size := (Array.getElem?_eq_some_iff.1 hg).1
    have hv : w.heap[g] = .cells cur t (0, 0) := (Array.getElem?_eq_some_iff.1 hg).2
    simp only [storeCells, List.append_nil, List.length_nil, Nat.add_zero, List.take_append_drop, Array.toArray_toList]
    show Result.ok () w = _
    congr 1
    unfold World.setRow
    cases w with
    | mk heap tape drawn os output =>
      congr 1
      apply Array.ext
      · simp
      · intro k h1 h2
        simp only [Array.getElem_modify]
        split
        · rename_i hk; subst hk; simp at hv; simp [hv]
        · rfl
  | v :: rest, i, cur, w, hg, hl, h1 => by
    have hi : f + i < cur.size := by simp at hl; omega
    have hcell : w.cell? ⟨g, f + i, none⟩ = some cur[f + i] := by simp [World.cell?, hg, hi]
    have hfro : w.frozen? ⟨g, f + i, none⟩ = false := by simp [World.frozen?, hg]
    have hst : (store ((⟨g, f, none⟩ : Addr).add i) v).run P w = .ok () (w.setRow g (cur.setIfInBounds (f + i) v)) := by
      rw [addr_add, run_store P w _ v _ (h1 v (by simp)), hcell]
      simp [hfro, setCell_eq_setRow w g (f + i) cur t (0, 0) v hg]
    have ih := run_storeRow (P := P) g f t rest (i + 1) (cur.setIfInBounds (f + i) v) (w.setRow g (cur.setIfInBounds (f + i) v)) (setRow_heap w g cur _ t _ hg) (by simp at hl ⊢; omega) (fun x hx => h1 x (by simp [hx]))
    simp only [storeCells, Sem.run_bind, hst, Result.andThen_ok, ih, setRow_setRow]
    congr 3
    apply List.ext_getElem?
    intro k
    simp only [Array.toList_setIfInBounds, List.getElem?_append, List.length_take, List.length_append, List.length_set, Array.length_toList, List.getElem?_drop, List.getElem?_take, List.length_cons]
    rw [Nat.min_eq_left (by omega : f + (i + 1) ≤ cur.size), Nat.min_eq_left (by omega : f + i ≤ cur.size)]
    by_cases hk : k < f + i
    · simp [hk, show k < f + (i + 1) by omega, show k < f + (i + 1) + rest.length by omega, show k < f + i + (rest.length + 1) by omega, show ¬ f + i = k by omega]
    · by_cases hk2 : k = f + i
      · subst hk2
        simp [show f + i < f + (i + 1) by omega, show f + i < f + (i + 1) + rest.length by omega, hi]
      · by_cases hk3 : k < f + i + (rest.length + 1)
        · simp [hk, show ¬ k < f + (i + 1) by omega, show k < f + (i + 1) + rest.length by omega, hk3, show k - (f + i) = (k - (f + (i + 1))) + 1 by omega]
        · simp [hk, show ¬ k < f + (i + 1) by omega, show ¬ k < f + (i + 1) + rest.length by omega, hk3]
          rw [List.getElem?_set_ne (by omega), show f + (i + 1) + rest.length + (k - (f + (i + 1) + rest.length)) = f + i + (rest.length + 1) + (k - (f + i + (rest.length + 1))) by omega, Array.getElem?_toList]
theorem kept_setRow (w : World) (g : Nat) (cs : Array Value) : Kept (One g) w (w.setRow g cs) := by
  refine ⟨rfl, rfl, rfl, by simp [World.setRow], fun k hk hF => ?_⟩
  unfold World.setRow
  simp only
  rw [Array.getElem?_modify]
  rw [if_neg (fun e => hF (by unfold One; exact e.symm))]
theorem wpList_st {P : Program} {w : World} {ops : Array Oper} {rest : List Oper} {o : Oper} {a : Act} {Q : Exit → Act → World → Prop} (hgd : Region.wanted o (yielded ops a.tmps) = true) (ty : TypeId) (p x : Operand) (ho : o.op = .store ty p x)
    (g f : Nat) (hp : a.eval p = .pointer (some ⟨g, f, none⟩)) (l : List Value) (v : Value) (hx : a.eval x = v) (hv : v.cells = l.toArray) (hi : (P.info? ty).map (·.size) = some l.length) (T : TypeId) (cs : List Value) (hb : Blo w g T cs.toArray) (hf : f + l.length ≤ cs.length) (h1 : ∀ u ∈ l, u.oneCell' = true)
    (h : ∀ w', Blo w' g T (cs.take f ++ l ++ cs.drop (f + l.length)).toArray → Kept (One g) w w' → w'.heap.size = w.heap.size → wpList P ops Q rest (a.put o.dst undef) w') : wpList P ops Q (o :: rest) a w := by
  refine BigFrame.wpList_want hgd fun K hK => ?_
  have hs := run_storeRow (P := P) g f T l 0 cs.toArray w hb (by simpa using hf) h1
  have hsv : (storeVar ty ⟨g, f, none⟩ v).run P w = .ok () (w.setRow g (cs.take f ++ l ++ cs.drop (f + l.length)).toArray) := by
    cases hq : P.info? ty with
    | none => simp [hq] at hi
    | some i =>
      have hz : i.size = l.length := by simpa [hq] using hi
      simp only [Nat.add_zero] at hs
      simp [storeVar, sizeOf, typeInfo, hq, hv, hz, hs]
  unfold Oper.wp execOp
  simp only [ho, hp, hx, Instr.storeAt, Instr.sureAddr, Sem.run_bind, Sem.run_pure, Result.andThen_ok, hsv]
  exact hK _ _ (h _ (setRow_heap w g _ _ T _ hb) (kept_setRow w g _) (by simp [World.setRow]))

theorem res_cell1 {P : Program} {fn : Func} {w : World} {p u : Tmp} {ty : TypeId} {g : Nat} {l : List Value} {d : TypeDesc} {tmps : Array Value} {x : Value} (h : fn.results = #[.cell p ty, .tmp u]) (hp : tmps.getD p undef = .pointer (some ⟨g, 0, none⟩)) (hx : tmps.getD u undef = x)
    (hl : Row w g 0 l) (hu : P.underlying ty = some d) (hd : aggB d = true) (hi : (P.info? ty).map (·.size) = some l.length) : (results fn tmps).run P w = .ok (.tuple #[.agg l.toArray, x]) w := by
  simp only [results, h]
  simp only [Array.getD_eq_getD_getElem?] at hp hx
  simp [Sem.run_bind, Result.andThen, hp, hx, asAddr, run_loadRow hl hu hd hi]
theorem res_cell0 {P : Program} {fn : Func} {w : World} {p : Tmp} {ty : TypeId} {g : Nat} {l : List Value} {d : TypeDesc} {tmps : Array Value} (h : fn.results = #[.cell p ty]) (hp : tmps.getD p undef = .pointer (some ⟨g, 0, none⟩))
    (hl : Row w g 0 l) (hu : P.underlying ty = some d) (hd : aggB d = true) (hi : (P.info? ty).map (·.size) = some l.length) : (results fn tmps).run P w = .ok (.agg l.toArray) w := by
  simp only [results, h]
  simp only [Array.getD_eq_getD_getElem?] at hp
  simp [Sem.run_bind, Result.andThen, hp, asAddr, run_loadRow hl hu hd hi]
theorem res_cell2 {P : Program} {fn : Func} {w : World} {p u u2 : Tmp} {ty : TypeId} {g : Nat} {l : List Value} {d : TypeDesc} {tmps : Array Value} {x y : Value} (h : fn.results = #[.cell p ty, .tmp u, .tmp u2]) (hp : tmps.getD p undef = .pointer (some ⟨g, 0, none⟩)) (hx : tmps.getD u undef = x) (hy : tmps.getD u2 undef = y)
    (hl : Row w g 0 l) (hu : P.underlying ty = some d) (hd : aggB d = true) (hi : (P.info? ty).map (·.size) = some l.length) : (results fn tmps).run P w = .ok (.tuple #[.agg l.toArray, x, y]) w := by
  simp only [results, h]
  simp only [Array.getD_eq_getD_getElem?] at hp hx hy
  simp [Sem.run_bind, Result.andThen, hp, hx, hy, asAddr, run_loadRow hl hu hd hi]
theorem wp_nameE {P : Program} {c : Code} {Q : Exit → Act → World → Prop} {a : Act} {W0 : World} (R : World → Prop) (h0 : R W0) (h : ∀ W, R W → Code.wp P c Q a W) : Code.wp P c Q a W0 := h W0 h0
theorem eqFields_step {P : Program} {w : World} {d : Nat} {xs ys : Array Value} {f : Field} {fs : List Field} (u v : Value) {b r : Bool} (hn : f.name ≠ "_") (hx : (part f.type xs f.offset).run P w = .ok u w) (hy : (part f.type ys f.offset).run P w = .ok v w) (he : (Op.equalIn d f.type u v).run P w = .ok b w)
    (hr : (Op.eqFields d xs ys fs).run P w = .ok r w) : (Op.eqFields d xs ys (f :: fs)).run P w = .ok (b && r) w := by
  simp only [Op.eqFields, if_pos hn, Sem.run_bind, hx, hy, he, Result.andThen_ok]
  cases b <;> simp [hr]
theorem part_row {P : Program} {w : World} {ty : TypeId} {d : TypeDesc} (a l b : List Value) (n : Nat) (hn : a.length = n) (hu : P.underlying ty = some d) (hd : aggB d = true) (hi : (P.info? ty).map (·.size) = some l.length) :
    (part ty (a ++ (l ++ b)).toArray n).run P w = .ok (.agg l.toArray) w := by
  have hagg : (isAgg ty).run P w = .ok true w := by
    unfold isAgg
    rw [Sem.run_bind, run_underlying hu w]
    cases d <;> simp_all [aggB]
  cases hq : P.info? ty with
  | none => simp [hq] at hi
  | some i =>
    have hs : i.size = l.length := by simpa [hq] using hi
    subst hn
    simp [part, Sem.run_bind, hagg, sizeOf, typeInfo, hq, hs]
theorem part_one {P : Program} {w : World} {ty : TypeId} {d : TypeDesc} (a b : List Value) (x : Value) (n : Nat) (hn : a.length = n) (hu : P.underlying ty = some d) (hd : aggB d = false) :
    (part ty (a ++ (x :: b)).toArray n).run P w = .ok x w := by
  have hagg : (isAgg ty).run P w = .ok false w := by
    unfold isAgg
    rw [Sem.run_bind, run_underlying hu w]
    cases d <;> simp_all [aggB]
  subst hn
  simp [part, Sem.run_bind, hagg]
/-- A part of a block, as bytes. -/
theorem byt_row {w : World} {g o : Nat} {l : List UInt8} (h : Row w g o (bys l)) (hl : l.length ≤ 9223372036854775807) (n : Nat) (hn : l.length = n) : Byt w (some ⟨g, o, none⟩) n n l := by
  subst hn
  refine ⟨rfl, Nat.le_refl _, hl, fun _ => ⟨g, o, rfl, fun i hi => ?_⟩⟩
  refine h i _ ?_
  show (l.map _)[i]? = _
  rw [List.getElem?_map, List.getElem?_eq_getElem hi]
  rfl
end Go.Proofs.Ytddpdopccejmbaa
