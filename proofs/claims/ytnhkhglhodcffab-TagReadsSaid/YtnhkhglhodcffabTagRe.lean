/- tolllaw03.TagReads: the walk. -/
import Derived.Test.YtnhkhglhodcffabTagG
namespace Go.Proofs.Ytnhkhglhodcffab
open Go.RowKit Go.Sort
set_option linter.unusedVariables false

theorem rdq_of {w w' : World} {v : Value} {l : List Tg} (h : MadeQ w w' v l) (hok : ∀ t ∈ l, t.ok) : ∃ A c, v = .slice A l.length c ∧ Tags w' A l.length c l := by
  obtain ⟨A, c, e, ht, _⟩ := Tags.of_own h.1 hok
  exact ⟨A, c, e, ht⟩
set_option maxHeartbeats 2000000 in
theorem reads_yes (A : Option Addr) (n c : Nat) (l : List UInt8) (w : World) (h : Byt w A n c l) :
    Calls Try.prog 3 #[.slice A n c] w fun e w' => e = .returned (.bool true) ∧ Below w.heap.size w w' := by
  have hnc := h.2.1
  have hcc := h.2.2.1
  obtain ⟨m, hmin, hmn, hm100⟩ : ∃ m : Nat, (if (100 : Int) < (n : Int) then (100 : Int) else (n : Int)) = (m : Int) ∧ m ≤ n ∧ m ≤ 100 := ⟨min n 100, by split <;> omega, by omega, by omega⟩
  have hsl := run_cut_hi (P := Try.prog) Try.underlying22 inf5.1 A n c m (m : Int) rfl (by omega)
  have hb := h.pre hmn
  generalize l.take m = b at hb
  have hwk : ∀ u, Calls Try.prog _ _ u _ := fun u => wakes_yes u
  have HW := Lib.hid hwk
  have HB := Lib.hid hb
  clear h hb hwk
  go_enter Try.func3, Try.ntmps3
  go_wp2_with fail
  refine (read_yes A m c b _ HB.out (by omega)).mono ?_
  rintro e w1 ⟨v1, v2, rfl, hm⟩
  have hrr : ∀ u, Byt u A m c b → Calls Try.prog _ _ u _ := fun u hu => rread_yes A m c b u hu
  generalize hR : readM b = R at *
  obtain ⟨ts, r, er⟩ := R
  simp only at hm hrr ⊢
  obtain ⟨A1, c1, rfl, ht1, hi1⟩ := Tags.of_own hm.tags hm.ok
  obtain ⟨A2, c2, rfl, hy2, hi2⟩ := Byt.of_own hm.rest
  have hts : ts.length ≤ 2 := by
    have : ∀ (f : Nat) (ts : List Tg) (b : List UInt8), (readGo f ts b).1.length ≤ ts.length + f := by
      intro f
      induction f with
      | zero => intro ts b; exact Nat.le_refl _
      | succ f ih =>
        intro ts b
        unfold readGo
        split
        · split
          · simp
          · have := ih (ts ++ [tagOfM (numM (b.take 2)) (numM ((b.drop 2).take 2))]) (b.drop 4)
            simp at this ⊢
            omega
        · simp
    have := this 2 [] b
    rw [show readGo 2 [] b = readM b from rfl, hR] at this
    simpa using this
  have HK1 := Lib.hid hm.kept
  have HT1 := Lib.hid ht1
  have HY2 := Lib.hid hy2
  have HRR := Lib.hid hrr
  have HTS := Lib.hid hts
  have HOK := Lib.hid hm.ok
  clear hm ht1 hy2 hi1 hi2 hR hrr hts
  go_wp2_with fail
  refine (HRR.out _ (HB.out.kept HK1.out (fun _ _ hf => hf))).mono ?_
  rintro e w2 ⟨v3, v4, rfl, hm⟩
  obtain ⟨A3, c3, rfl, ht3, hi3⟩ := Tags.of_own hm.tags hm.ok
  obtain ⟨A4, m4, c4, rfl, hy4⟩ := hm.rest
  have HK2 := Lib.hid (HK1.out.then hm.kept)
  have HT2 := Lib.hid (HT1.out.kept hm.kept (fun _ _ hf => hf))
  have HY3 := Lib.hid (HY2.out.kept hm.kept (fun _ _ hf => hf))
  have HT3 := Lib.hid ht3
  have HY4 := Lib.hid hy4
  clear hm ht3 hy4 hi3
  go_wp2_with fail
  refine (of_yes _ _ _ _ _ HT2.out (by have := HTS.out; omega)).mono ?_
  rintro e w3 ⟨v5, rfl, hm⟩
  obtain ⟨A5, c5, rfl, ht5⟩ := rdq_of hm HOK.out
  have HK3 := Lib.hid (HK2.out.then hm.2)
  have HT4 := Lib.hid (HT3.out.kept hm.2 (fun _ _ hf => hf))
  have HY5 := Lib.hid (HY3.out.kept hm.2 (fun _ _ hf => hf))
  have HY6 := Lib.hid (HY4.out.kept hm.2 (fun _ _ hf => hf))
  have HT5 := Lib.hid ht5
  clear hm ht5
  go_wp2_with fail
  refine (equal_r _ _ _ _ _ _ _ _ _ HT5.out HT4.out).mono ?_
  rintro e w4 ⟨rfl, hk4⟩
  rw [decide_eq_true rfl]
  have HK4 := Lib.hid (HK3.out.then hk4)
  have HY7 := Lib.hid (HY5.out.kept hk4 (fun _ _ hf => hf))
  have HY8 := Lib.hid (HY6.out.kept hk4 (fun _ _ hf => hf))
  clear hk4
  go_wp2_with fail
  refine (equal _ _ _ _ _ _ _ _ _ HY7.out HY8.out).mono ?_
  rintro e w5 ⟨rfl, rfl⟩
  rw [beq_self_eq_true]
  go_wp2_with fail
  refine (HW.out _).mono ?_
  rintro e w5 ⟨rfl, hk5⟩
  have HK5 := Lib.hid (HK4.out.then hk5)
  clear hk5
  go_wp2
  go_ret
  exact ⟨rfl, HK5.out.below (Nat.le_refl _) (fun _ hf => hf.elim)⟩
end Go.Proofs.Ytnhkhglhodcffab
