/- Texts that belong together, one behind the other: BpQ, BpR. Conditions: those of each. -/
import Derived.Test.YthjfeanmgaidcaaMg12
import Derived.Test.YthjfeanmgaidcaaBpE
/- Package bpdu: there and back, plain. -/
namespace Go.Proofs.Ythjfeanmgaidcaa
open Go.RowKit Go.Sort
set_option linter.unusedVariables false

theorem seg_mid (a b r : List UInt8) (lo hi : Nat) (h1 : a.length = lo) (h2 : lo + b.length = hi) : sgB (a ++ (b ++ r)) lo hi = numM b := by
  unfold sgB
  subst h1 h2
  rw [← List.append_assoc, List.take_left' (by rw [List.length_append]), List.drop_left]
theorem numM_go (W x : Nat) : ∀ k, k ≤ W → numM ((List.range k).map fun j => UInt8.ofNat (x / 2 ^ (8 * (W - 1 - j)))) = x / 2 ^ (8 * (W - k)) % 2 ^ (8 * k) := by
  intro k
  induction k with
  | zero => intro _; simp [numM, Nat.mod_one]
  | succ k ih =>
    intro hk
    rw [List.range_succ, List.map_append, List.map_cons, List.map_nil, numM_snoc, ih (by omega)]
    have e1 : W - k = (W - (k + 1)) + 1 := by omega
    have e2 : W - 1 - k = W - (k + 1) := by omega
    rw [e1, e2]
    generalize W - (k + 1) = q
    have e3 : x / 2 ^ (8 * (q + 1)) = x / 2 ^ (8 * q) / 256 := by rw [Nat.mul_add, Nat.pow_add, Nat.div_div_eq_div_mul]
    rw [e3]
    generalize x / 2 ^ (8 * q) = y
    rw [UInt8.toNat_ofNat', show 8 * (k + 1) = 8 * k + 8 from by omega, Nat.pow_add]
    have e4 : y % (2 ^ (8 * k) * 2 ^ 8) = (y / 256 % 2 ^ (8 * k)) * 256 + y % 256 := by
      rw [Nat.mul_comm (2 ^ (8 * k)) (2 ^ 8), Nat.mod_mul, show (2 : Nat) ^ 8 = 256 from rfl]
      generalize y / 256 % 2 ^ (8 * k) = z
      omega
    rw [e4]
theorem numM_be (W x : Nat) (h : x < 256 ^ W) : numM (beM W x) = x := by
  have := numM_go W x W (Nat.le_refl _)
  unfold beM
  rw [this, Nat.sub_self, Nat.mul_zero, Nat.pow_zero, Nat.div_one, Nat.pow_mul, Nat.mod_eq_of_lt h]
theorem numM_inj : ∀ (n : Nat) (a b : List UInt8), a.length = n → b.length = n → numM a = numM b → a = b := by
  intro n
  induction n with
  | zero => intro a b ha hb _; rw [List.eq_nil_of_length_eq_zero ha, List.eq_nil_of_length_eq_zero hb]
  | succ n ih =>
    intro a b ha hb h
    have e : ∀ l : List UInt8, l.length = n + 1 → ∃ q x, l = q ++ [x] ∧ q.length = n := by
      intro l hl
      have hne : l ≠ [] := by intro e; subst e; simp at hl
      exact ⟨l.dropLast, l.getLast hne, (List.dropLast_concat_getLast hne).symm, by rw [List.length_dropLast]; omega⟩
    obtain ⟨qa, xa, rfl, la⟩ := e a ha
    obtain ⟨qb, xb, rfl, lb⟩ := e b hb
    rw [numM_snoc, numM_snoc] at h
    have h1 := xa.toNat_lt
    have h2 := xb.toNat_lt
    have h3 : numM qa = numM qb := by omega
    have h4 : xa = xb := UInt8.toNat_inj.1 (by omega)
    rw [ih qa qb la lb h3, h4]
theorem be_num (l : List UInt8) (W : Nat) (h : l.length = W) : beM W (numM l) = l := by
  refine numM_inj W _ _ (beM_len W _) h ?_
  rw [numM_be W _ (by rw [← h]; exact numM_lt l)]
end Go.Proofs.Ythjfeanmgaidcaa
/- Package bpdu: what is laid is read. Plain. -/
namespace Go.Proofs.Ythjfeanmgaidcaa
open Go.RowKit Go.Sort
set_option linter.unusedVariables false

theorem rd_form (k : Int) (m : Bp) (hm : m.ok) (hk : m.kd = k) (h4 r : List UInt8) (h : h4.length = 4) : rdB k (h4 ++ (fldB m ++ r)) = m := by
  have s0 : sgB (h4 ++ (fldB m ++ r)) 4 5 = m.fl := by
    have e : h4 ++ (fldB m ++ r) = h4 ++ (beM 1 m.fl ++ (beM 8 m.ro ++ (beM 4 m.co ++ (beM 8 m.br ++ (beM 2 m.po ++ (beM 2 m.ag ++ (beM 2 m.ma ++ (beM 2 m.he ++ (beM 2 m.de ++ (r)))))))))) := by simp only [fldB, List.append_assoc]
    rw [e, seg_mid _ _ _ 4 5 (by simp only [List.length_append, beM_len, h]) (by rw [beM_len]), numM_be 1 _ hm.fl]
  have s1 : sgB (h4 ++ (fldB m ++ r)) 5 13 = m.ro := by
    have e : h4 ++ (fldB m ++ r) = (h4 ++ beM 1 m.fl) ++ (beM 8 m.ro ++ (beM 4 m.co ++ (beM 8 m.br ++ (beM 2 m.po ++ (beM 2 m.ag ++ (beM 2 m.ma ++ (beM 2 m.he ++ (beM 2 m.de ++ (r))))))))) := by simp only [fldB, List.append_assoc]
    rw [e, seg_mid _ _ _ 5 13 (by simp only [List.length_append, beM_len, h]) (by rw [beM_len]), numM_be 8 _ hm.ro]
  have s2 : sgB (h4 ++ (fldB m ++ r)) 13 17 = m.co := by
    have e : h4 ++ (fldB m ++ r) = ((h4 ++ beM 1 m.fl) ++ beM 8 m.ro) ++ (beM 4 m.co ++ (beM 8 m.br ++ (beM 2 m.po ++ (beM 2 m.ag ++ (beM 2 m.ma ++ (beM 2 m.he ++ (beM 2 m.de ++ (r)))))))) := by simp only [fldB, List.append_assoc]
    rw [e, seg_mid _ _ _ 13 17 (by simp only [List.length_append, beM_len, h]) (by rw [beM_len]), numM_be 4 _ hm.co]
  have s3 : sgB (h4 ++ (fldB m ++ r)) 17 25 = m.br := by
    have e : h4 ++ (fldB m ++ r) = (((h4 ++ beM 1 m.fl) ++ beM 8 m.ro) ++ beM 4 m.co) ++ (beM 8 m.br ++ (beM 2 m.po ++ (beM 2 m.ag ++ (beM 2 m.ma ++ (beM 2 m.he ++ (beM 2 m.de ++ (r))))))) := by simp only [fldB, List.append_assoc]
    rw [e, seg_mid _ _ _ 17 25 (by simp only [List.length_append, beM_len, h]) (by rw [beM_len]), numM_be 8 _ hm.br]
  have s4 : sgB (h4 ++ (fldB m ++ r)) 25 27 = m.po := by
    have e : h4 ++ (fldB m ++ r) = ((((h4 ++ beM 1 m.fl) ++ beM 8 m.ro) ++ beM 4 m.co) ++ beM 8 m.br) ++ (beM 2 m.po ++ (beM 2 m.ag ++ (beM 2 m.ma ++ (beM 2 m.he ++ (beM 2 m.de ++ (r)))))) := by simp only [fldB, List.append_assoc]
    rw [e, seg_mid _ _ _ 25 27 (by simp only [List.length_append, beM_len, h]) (by rw [beM_len]), numM_be 2 _ hm.po]
  have s5 : sgB (h4 ++ (fldB m ++ r)) 27 29 = m.ag := by
    have e : h4 ++ (fldB m ++ r) = (((((h4 ++ beM 1 m.fl) ++ beM 8 m.ro) ++ beM 4 m.co) ++ beM 8 m.br) ++ beM 2 m.po) ++ (beM 2 m.ag ++ (beM 2 m.ma ++ (beM 2 m.he ++ (beM 2 m.de ++ (r))))) := by simp only [fldB, List.append_assoc]
    rw [e, seg_mid _ _ _ 27 29 (by simp only [List.length_append, beM_len, h]) (by rw [beM_len]), numM_be 2 _ hm.ag]
  have s6 : sgB (h4 ++ (fldB m ++ r)) 29 31 = m.ma := by
    have e : h4 ++ (fldB m ++ r) = ((((((h4 ++ beM 1 m.fl) ++ beM 8 m.ro) ++ beM 4 m.co) ++ beM 8 m.br) ++ beM 2 m.po) ++ beM 2 m.ag) ++ (beM 2 m.ma ++ (beM 2 m.he ++ (beM 2 m.de ++ (r)))) := by simp only [fldB, List.append_assoc]
    rw [e, seg_mid _ _ _ 29 31 (by simp only [List.length_append, beM_len, h]) (by rw [beM_len]), numM_be 2 _ hm.ma]
  have s7 : sgB (h4 ++ (fldB m ++ r)) 31 33 = m.he := by
    have e : h4 ++ (fldB m ++ r) = (((((((h4 ++ beM 1 m.fl) ++ beM 8 m.ro) ++ beM 4 m.co) ++ beM 8 m.br) ++ beM 2 m.po) ++ beM 2 m.ag) ++ beM 2 m.ma) ++ (beM 2 m.he ++ (beM 2 m.de ++ (r))) := by simp only [fldB, List.append_assoc]
    rw [e, seg_mid _ _ _ 31 33 (by simp only [List.length_append, beM_len, h]) (by rw [beM_len]), numM_be 2 _ hm.he]
  have s8 : sgB (h4 ++ (fldB m ++ r)) 33 35 = m.de := by
    have e : h4 ++ (fldB m ++ r) = ((((((((h4 ++ beM 1 m.fl) ++ beM 8 m.ro) ++ beM 4 m.co) ++ beM 8 m.br) ++ beM 2 m.po) ++ beM 2 m.ag) ++ beM 2 m.ma) ++ beM 2 m.he) ++ (beM 2 m.de ++ (r)) := by simp only [fldB, List.append_assoc]
    rw [e, seg_mid _ _ _ 33 35 (by simp only [List.length_append, beM_len, h]) (by rw [beM_len]), numM_be 2 _ hm.de]
  unfold rdB
  rw [s0, s1, s2, s3, s4, s5, s6, s7, s8, ← hk]
theorem fin_form (k : Int) (hk : k = 1 ∨ k = 3) (m : Bp) (hm : m.ok) (hkd : m.kd = k) (hy : m.ag < m.ma) (h4 r : List UInt8) (h : h4.length = 4) (hr : k = 3 → ∃ q, r = 0 :: q) : finB k (if k = 3 then 36 else 35) (h4 ++ (fldB m ++ r)) = (m, 0) := by
  have hl : (h4 ++ (fldB m ++ r)).length = 35 + r.length := by rw [List.length_append, List.length_append, h, fldB_len]; omega
  unfold finB
  rw [rd_form k m hm hkd h4 r h, hl]
  rcases hk with rfl | rfl
  · rw [if_neg (show ¬ (1 : Int) = 3 by decide), if_neg (show ¬ 35 + r.length < 35 by omega), if_neg (by rintro (h | ⟨h, _⟩); omega; exact absurd h (by decide))]
  · obtain ⟨q, rfl⟩ := hr rfl
    have e : sgB (h4 ++ (fldB m ++ 0 :: q)) 35 36 = 0 := by
      have e1 : h4 ++ (fldB m ++ 0 :: q) = (h4 ++ fldB m) ++ ([0] ++ q) := by simp
      rw [e1, seg_mid _ _ _ 35 36 (by rw [List.length_append, h, fldB_len]) rfl]
      rfl
    rw [if_pos (show (3 : Int) = 3 from rfl), if_neg (by simp only [List.length_cons]; omega), if_neg (by rintro (h | ⟨_, h⟩); omega; exact h e)]
theorem may_kd (m : Bp) (h : mayB m = true) : m = Bp.chg ∨ ((m.kd = 1 ∨ m.kd = 3) ∧ m.ag < m.ma) := by
  unfold mayB at h
  split at h
  · rename_i h1
    exact .inr ⟨h1, of_decide_eq_true h⟩
  · split at h
    · exact .inl (of_decide_eq_true h)
    · cases h
theorem get_form (m : Bp) (hm : m.ok) (hy : mayB m = true) (r : List UInt8) : getB (forB m ++ r) = (m, 0) := by
  rcases may_kd m hy with rfl | ⟨h13, hag⟩
  · have e : forB Bp.chg = [0, 0, 0, 128] := by decide +kernel
    rw [e]
    simp [getB, sgB, numM]
  · rcases h13 with h1 | h1
    · have e : forB m ++ r = [0, 0, 0, 0] ++ (fldB m ++ r) := by
        rw [forB_1 m h1, show beM 4 0 = [0, 0, 0, 0] by decide]
        simp
      rw [e]
      have := fin_form 1 (.inl rfl) m hm h1 hag [0, 0, 0, 0] r rfl (fun h => absurd h (by decide))
      rw [if_neg (by decide)] at this
      unfold getB
      rw [if_neg (by simp only [List.length_append, List.length_cons]; omega), if_neg (by simp [sgB, numM]), if_neg (by simp [sgB, numM]), if_pos (by simp [sgB, numM])]
      exact this
    · have e : forB m ++ r = [0, 0, 2, 2] ++ (fldB m ++ (0 :: r)) := by
        rw [forB_3 m h1, show beM 4 514 = [0, 0, 2, 2] by decide]
        simp
      rw [e]
      have := fin_form 3 (.inr rfl) m hm h1 hag [0, 0, 2, 2] (0 :: r) rfl (fun _ => ⟨r, rfl⟩)
      rw [if_pos rfl] at this
      unfold getB
      rw [if_neg (by simp only [List.length_append, List.length_cons]; omega), if_neg (by simp [sgB, numM]), if_neg (by simp [sgB, numM]), if_neg (by simp [sgB, numM]), if_pos (by simp [sgB, numM])]
      exact this
/-- What Get answers. -/
theorem get_err (b : List UInt8) : (getB b).2 = 0 ∨ ((getB b).1 = Bp.zero ∧ ((getB b).2 = 4 ∨ (getB b).2 = 5)) := by
  have hf : ∀ k many, (finB k many b).2 = 0 ∨ ((finB k many b).1 = Bp.zero ∧ ((finB k many b).2 = 4 ∨ (finB k many b).2 = 5)) := by
    intro k many
    unfold finB
    split
    · exact .inr ⟨rfl, .inl rfl⟩
    · split
      · exact .inr ⟨rfl, .inr rfl⟩
      · exact .inl rfl
  unfold getB
  split
  · exact .inr ⟨rfl, .inl rfl⟩
  · split
    · exact .inr ⟨rfl, .inr rfl⟩
    · split
      · exact .inl rfl
      · split
        · exact hf 1 35
        · split
          · exact hf 3 36
          · exact .inr ⟨rfl, .inr rfl⟩
end Go.Proofs.Ythjfeanmgaidcaa
