/- tollref06: contract of options. -/
import Derived.Test.YtflhbidmjlfjkaaDoorRgA
namespace Go.Proofs.YtflhbidmjlfjkaaDoor
open Go.RowKit Go.Sort
set_option linter.unusedVariables false

theorem opts_fuel (f g : Nat) (l : List UInt8) (hf : l.length ≤ f) (hg : l.length ≤ g) : optsGo f l = optsGo g l := by
  induction f generalizing g l with
  | zero =>
    have : l = [] := List.eq_nil_of_length_eq_zero (by omega)
    subst this
    cases g <;> rfl
  | succ f ih =>
    cases l with
    | nil => cases g <;> rfl
    | cons a r =>
      cases g with
      | zero => simp at hg
      | succ g =>
        simp only [List.length_cons] at hf hg
        unfold optsGo
        split
        · rfl
        · split
          · exact ih g r (by omega) (by omega)
          · split
            · rfl
            · rename_i b r2
              split
              · rfl
              · rename_i hb
                refine ih g _ ?_ ?_ <;> (rw [List.length_drop, List.length_cons]; omega)
/-- What is left of a list, element by element. -/
theorem drop_cons {l : List UInt8} {k : Nat} {x : UInt8} (h : l[k]? = some x) : l.drop k = x :: l.drop (k + 1) := by
  obtain ⟨hk, rfl⟩ := List.getElem?_eq_some_iff.1 h
  exact List.drop_eq_getElem_cons hk
theorem opts_zero (l : List UInt8) (n k : Nat) (hl : l.length = n) (hk : k < n) (h : l[k]? = some 0) : optsGo (n - k) (l.drop k) = true := by
  rw [drop_cons h, show n - k = (n - k - 1) + 1 by omega]
  rfl
theorem opts_one (l : List UInt8) (n k : Nat) (hl : l.length = n) (hk : k < n) (h : l[k]? = some 1) : optsGo (n - k) (l.drop k) = optsGo (n - (k + 1)) (l.drop (k + 1)) := by
  rw [drop_cons h, show n - k = (n - (k + 1)) + 1 by omega]
  rfl
theorem opts_last (l : List UInt8) (n k : Nat) (x : UInt8) (hl : l.length = n) (hk : k + 1 = n) (h : l[k]? = some x) (h0 : x ≠ 0) (h1 : x ≠ 1) : optsGo (n - k) (l.drop k) = false := by
  rw [drop_cons h, List.drop_of_length_le (by omega), show n - k = 0 + 1 by omega]
  unfold optsGo
  rw [if_neg h0, if_neg h1]
theorem opts_step (f : Nat) (a b : UInt8) (r : List UInt8) (h0 : a ≠ 0) (h1 : a ≠ 1) : optsGo (f + 1) (a :: b :: r) = if b.toNat < 2 ∨ (b :: r).length + 1 < b.toNat then false else optsGo f ((a :: b :: r).drop b.toNat) := by
  show (if a = 0 then true else if a = 1 then optsGo f (b :: r) else _) = _
  rw [if_neg h0, if_neg h1]
theorem opts_more (l : List UInt8) (n k : Nat) (x y : UInt8) (hl : l.length = n) (hk : k + 1 < n) (h : l[k]? = some x) (hy : l[k + 1]? = some y) (h0 : x ≠ 0) (h1 : x ≠ 1) : optsGo (n - k) (l.drop k) = if y.toNat < 2 ∨ n < k + y.toNat then false else optsGo (n - (k + y.toNat)) (l.drop (k + y.toNat)) := by
  have hlen : (l.drop (k + 1)).length = n - k - 1 := by rw [List.length_drop]; omega
  have e2 := drop_cons hy
  have e1 := drop_cons h
  rw [show n - k = (n - k - 1) + 1 by omega, e1, e2, opts_step _ _ _ _ h0 h1, ← e2, hlen, ← e1, List.drop_drop]
  by_cases hc : y.toNat < 2 ∨ n < k + y.toNat
  · rw [if_pos hc, if_pos (show y.toNat < 2 ∨ n - k - 1 + 1 < y.toNat by omega)]
  · rw [if_neg hc, if_neg (show ¬ (y.toNat < 2 ∨ n - k - 1 + 1 < y.toNat) by omega)]
    refine opts_fuel _ _ _ ?_ ?_ <;> (rw [List.length_drop]; omega)
set_option maxHeartbeats 2000000 in
theorem gopts_yes (A : Option Addr) (n c : Nat) (l : List UInt8) (w : World) (h : Byt w A n c l) (hn : n ≤ 1099511627776) : Calls Tryd.prog 44 #[.slice A n c] w fun e w' => e = .returned (.bool (optsM l)) ∧ w = w' := by
  have hnc := h.2.1
  have hcc := h.2.2.1
  have hl := h.1
  have HL := Lib.hid hl
  have HB := Lib.hid h
  have HO := Lib.hid (show optsM l = (decide (n ≤ 40 ∧ n % 4 = 0) && optsGo n l) by unfold optsM; rw [hl])
  clear h hl
  by_cases h40 : 40 < n
  · have h40' : (40 : Int) < (n : Int) := by omega
    have HR := Lib.hid (show optsM l = false by rw [HO.out, decide_eq_false (by omega)]; rfl)
    go_enter Tryd.func44, Tryd.ntmps44
    go_wp2
    go_ret
    exact ⟨by rw [HR.out]; rfl, rfl⟩
  · by_cases h4 : n % 4 = 0
    · have h4' : ((n : Int) % 4 != 0) = false := by simp; omega
      have HR := Lib.hid (show optsM l = optsGo n l by rw [HO.out, decide_eq_true ⟨by omega, h4⟩, Bool.true_and])
      clear HO
      go_enter Tryd.func44, Tryd.ntmps44
      go_wp2
      go_loop [3] (fun i => ∃ k : Nat, k ≤ n ∧ i = .int .i64 (k : Int) ∧ Hid (optsGo n l = optsGo (n - k) (l.drop k))) (fun i => n - (intOf i).toNat)
      case atStart => exact ⟨0, Nat.zero_le _, rfl, Lib.hid rfl⟩
      case round =>
        obtain ⟨k, hk, rfl, HG⟩ := hrel
        by_cases hlt : k < n
        · have hkl : k < l.length := by rw [HL.out]; exact hlt
          obtain ⟨b, o, rfl, hcell⟩ := HB.out.at (i := k) hkl
          obtain ⟨x, hx⟩ : ∃ x, l[k] = x := ⟨_, rfl⟩
          have hx? : l[k]? = some x := by rw [List.getElem?_eq_getElem hkl, hx]
          rw [hx] at hcell
          clear hx
          by_cases x0 : x = 0
          · subst x0
            have HZ := Lib.hid (show optsM l = true by rw [HR.out, HG.out, opts_zero l n k HL.out hlt hx?])
            clear hx?
            go_wp2
            go_ret
            exact ⟨by rw [HZ.out]; rfl, rfl⟩
          · have b0 : ((x.toNat : Int) == 0) = false := by
              simp only [beq_eq_false_iff_ne, ne_eq]
              intro he
              exact x0 (UInt8.toNat_inj.1 (by show x.toNat = 0; omega))
            by_cases x1 : x = 1
            · subst x1
              have HS := Lib.hid (show optsGo n l = optsGo (n - (k + 1)) (l.drop (k + 1)) by rw [HG.out, opts_one l n k HL.out hlt hx?])
              clear hx? b0 x0
              go_wp2
              go_round
              case rel => exact ⟨k + 1, by omega, by go_num, HS⟩
              case measure => simp [intOf]; omega
            · have b1 : ((x.toNat : Int) == 1) = false := by
                simp only [beq_eq_false_iff_ne, ne_eq]
                intro he
                exact x1 (UInt8.toNat_inj.1 (by show x.toNat = 1; omega))
              by_cases hlast : k + 1 < n
              · have hl' : ¬ (n : Int) ≤ (k : Int) + 1 := by omega
                obtain ⟨y, hy⟩ : ∃ y, l[k + 1]? = some y := ⟨l[k + 1]'(by rw [HL.out]; exact hlast), List.getElem?_eq_getElem _⟩
                have hcy := byt_ge HB.out (k + 1) y hy
                have hyl := y.toNat_lt
                have HM := Lib.hid (opts_more l n k x y HL.out hlast hx? hy x0 x1)
                clear hx? hy x0 x1
                by_cases y2 : y.toNat < 2
                · have y2' : (y.toNat : Int) < 2 := by omega
                  have HZ := Lib.hid (show optsM l = false by rw [HR.out, HG.out, HM.out, if_pos (.inl y2)])
                  go_wp2
                  go_ret
                  exact ⟨by rw [HZ.out]; rfl, rfl⟩
                · have y2' : ¬ (y.toNat : Int) < 2 := by omega
                  by_cases hb : n < k + y.toNat
                  · have hb' : (n : Int) < (k : Int) + (y.toNat : Int) := by omega
                    have HZ := Lib.hid (show optsM l = false by rw [HR.out, HG.out, HM.out, if_pos (.inr hb)])
                    go_wp2
                    go_ret
                    exact ⟨by rw [HZ.out]; rfl, rfl⟩
                  · have hb' : ¬ (n : Int) < (k : Int) + (y.toNat : Int) := by omega
                    have HS := Lib.hid (show optsGo n l = optsGo (n - (k + y.toNat)) (l.drop (k + y.toNat)) by rw [HG.out, HM.out, if_neg (by omega)])
                    go_wp2
                    go_round
                    case rel => exact ⟨k + y.toNat, by omega, by go_num, HS⟩
                    case measure => simp [intOf]; omega
              · have hl' : (n : Int) ≤ (k : Int) + 1 := by omega
                have HZ := Lib.hid (show optsM l = false by rw [HR.out, HG.out, opts_last l n k x HL.out (by omega) hx? x0 x1])
                clear hx? x0 x1
                go_wp2
                go_ret
                exact ⟨by rw [HZ.out]; rfl, rfl⟩
        · have hkn : k = n := by omega
          have HZ := Lib.hid (show optsM l = true by rw [HR.out, HG.out, hkn, Nat.sub_self]; rfl)
          go_wp2
          go_ret
          exact ⟨by rw [HZ.out]; rfl, rfl⟩
    · have h4' : ((n : Int) % 4 != 0) = true := by simp; omega
      have HR := Lib.hid (show optsM l = false by rw [HO.out, decide_eq_false (by omega)]; rfl)
      go_enter Tryd.func44, Tryd.ntmps44
      go_wp2
      go_ret
      exact ⟨by rw [HR.out]; rfl, rfl⟩
end Go.Proofs.YtflhbidmjlfjkaaDoor
