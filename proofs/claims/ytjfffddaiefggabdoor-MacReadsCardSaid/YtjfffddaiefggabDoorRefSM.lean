/- The reference's ParsePattern: what it comes to is what mac's comes to. -/
import Derived.Test.YtjfffddaiefggabDoorRefP
import Derived.Test.YtjfffddaiefggabDoorRefBM
namespace Go.Proofs.YtjfffddaiefggabDoor
open Go.RowKit
set_option linter.unusedVariables false

theorem idx_app (l : List UInt8) (c : UInt8) : ∀ a : List UInt8, (∀ x ∈ a, x ≠ c) → Lib.indexByte (a ++ l) c = if Lib.indexByte l c = -1 then -1 else (a.length : Int) + Lib.indexByte l c
  | [], _ => by simp; try (intro h; exact h.symm)
  | x :: a, h => by
    have hx : x ≠ c := h x (List.mem_cons_self ..)
    have ih := idx_app l c a (fun y hy => h y (List.mem_cons_of_mem _ hy))
    have hge := (indexByte_lt l c).1
    rw [List.cons_append, Lib.indexByte, if_neg (by simpa using hx), ih]
    by_cases h1 : Lib.indexByte l c = -1
    · simp [h1]
    · have hne : (((a.length : Int) + Lib.indexByte l c) == -1) = false := by rw [beq_eq_false_iff_ne]; omega
      rw [if_neg h1, if_neg h1, hne]
      simp only [List.length_cons, Bool.false_eq_true, if_false]
      omega
theorem no_slash (l : List UInt8) (bs : List UInt8) (h : prs l = some bs) : l.length = 17 ∧ ∀ x ∈ l, x ≠ 47 := by
  have hl : l.length = 17 := by
    unfold prs at h
    split at h
    · assumption
    · cases h
  refine ⟨hl, fun x hx hx47 => ?_⟩
  subst hx47
  obtain ⟨i, hi, he⟩ := List.getElem_of_mem hx
  have hg : l.getD i 0 = 47 := by rw [List.getD_eq_getElem?_getD, List.getElem?_eq_getElem hi, he]; rfl
  have hb : bad l i := by
    unfold bad
    rw [hg]
    split
    · decide
    · decide
  rw [ref_bad l hl i (by omega) hb] at h
  cases h
theorem ppt_none (l : List UInt8) (h : prs (l.take 17) = none) : ppt l = .error 5 := by
  have hp : prs (if Lib.indexByte l 47 = -1 then l else l.take (Lib.indexByte l 47).toNat) = none := by
    by_cases hn : Lib.indexByte l 47 = -1
    · rw [if_pos hn]
      by_cases hl : l.length = 17
      · rw [List.take_of_length_le (by omega)] at h; exact h
      · unfold prs; rw [if_neg hl]
    · rw [if_neg hn]
      by_cases hl : (l.take (Lib.indexByte l 47).toNat).length = 17
      · have h2 := indexByte_lt l 47
        rw [List.length_take] at hl
        have e : (Lib.indexByte l 47).toNat = 17 := by omega
        rw [e]; exact h
      · unfold prs; rw [if_neg hl]
  unfold ppt
  rw [hp]
section
variable (l : List UInt8) (bs : List UInt8) (h : prs (l.take 17) = some bs)
include h
theorem ppt_split : l = l.take 17 ++ l.drop 17 ∧ Lib.indexByte l 47 = if Lib.indexByte (l.drop 17) 47 = -1 then -1 else 17 + Lib.indexByte (l.drop 17) 47 := by
  obtain ⟨hl, hno⟩ := no_slash _ _ h
  refine ⟨(List.take_append_drop 17 l).symm, ?_⟩
  have := idx_app (l.drop 17) 47 (l.take 17) hno
  rw [List.take_append_drop, hl] at this
  exact this
theorem ppt_bare (hl : l.length = 17) : ppt l = .ok (andL bs [255, 255, 255, 255, 255, 255], [255, 255, 255, 255, 255, 255]) := by
  obtain ⟨_, hi⟩ := ppt_split l bs h
  rw [List.drop_of_length_le (by omega)] at hi
  have hi2 : Lib.indexByte l 47 = -1 := by rw [hi]; rfl
  rw [List.take_of_length_le (by omega)] at h
  unfold ppt
  rw [if_pos hi2, h]
  simp only
  rw [if_pos hi2]
theorem ppt_other (hl : 17 < l.length) (hc : l.getD 17 0 ≠ 47) : ppt l = .error 5 := by
  obtain ⟨_, hi⟩ := ppt_split l bs h
  have hd : l.drop 17 = l.getD 17 0 :: l.drop 18 := by
    rw [List.drop_eq_getElem_cons hl, List.getD_eq_getElem?_getD, List.getElem?_eq_getElem hl]; rfl
  have hlt := indexByte_lt (l.drop 18) 47
  have h18 : Lib.indexByte (l.drop 17) 47 = -1 ∨ 1 ≤ Lib.indexByte (l.drop 17) 47 := by
    rw [hd, Lib.indexByte, if_neg (by simpa using hc)]
    split
    · exact .inl rfl
    · rename_i h9
      have h9' : Lib.indexByte (l.drop 18) 47 ≠ -1 := by simpa using h9
      exact .inr (by omega)
  have hp : prs (if Lib.indexByte l 47 = -1 then l else l.take (Lib.indexByte l 47).toNat) = none := by
    have hb := indexByte_lt l 47
    unfold prs
    rw [if_neg]
    split
    · omega
    · rename_i hn
      rw [List.length_take]
      rcases h18 with h1 | h1
      · rw [h1] at hi; simp at hi; exact absurd hi hn
      · rw [if_neg (by omega)] at hi
        omega
  unfold ppt
  rw [hp]
theorem ppt_slash (hl : 17 < l.length) (hc : l.getD 17 0 = 47) : ppt l = match pmk (l.drop 18) with
    | .error e => .error e
    | .ok m => .ok (andL bs m, m) := by
  obtain ⟨_, hi⟩ := ppt_split l bs h
  have hd : l.drop 17 = 47 :: l.drop 18 := by
    rw [List.drop_eq_getElem_cons hl, ← hc, List.getD_eq_getElem?_getD, List.getElem?_eq_getElem hl]; rfl
  have h17 : Lib.indexByte l 47 = 17 := by
    rw [hi, hd]
    simp [Lib.indexByte]
  unfold ppt
  rw [h17, if_neg (by omega)]
  simp only [show (17 : Int).toNat = 17 from rfl, h]
  rw [if_neg (by omega)]
  rfl
end
end Go.Proofs.YtjfffddaiefggabDoor
