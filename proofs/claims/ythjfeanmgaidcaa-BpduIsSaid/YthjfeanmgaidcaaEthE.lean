/- Package ether: contracts of Get, Behind. -/
import Derived.Test.YthjfeanmgaidcaaEthD
namespace Go.Proofs.Ythjfeanmgaidcaa
open Go.RowKit Go.Sort
set_option linter.unusedVariables false

theorem get_six (l : List UInt8) : (getM l).1.six := by
  unfold getM
  split
  · exact Fr.zero_six
  · split
    · exact Fr.zero_six
    · split
      · exact Fr.zero_six
      · split
        · exact Fr.zero_six
        · have := car_six (readM (l.drop 12)).2.1
          exact ⟨by simp; omega, by simp; omega, this.l, this.o⟩
/-- A frame in memory of the call's own. -/
structure NewF (w w' : World) (f : Fr) (vt vb vr : Value) : Prop where
  t : NewT w w' vt f.t
  b : NewB w w' vb f.b
  r : NewB w w' vr f.r
theorem NewF.kept {w w' w'' : World} {f : Fr} {vt vb vr : Value} (h : NewF w w' f vt vb vr) (k : Kept Nil w' w'') : NewF w w'' f vt vb vr := ⟨h.t.kept k, h.b.kept k, h.r.kept k⟩
theorem NewF.far {w w' w'' : World} {f : Fr} {vt vb vr : Value} {g : Nat} (h : NewF w w' f vt vb vr) (k : Kept (One g) w' w'') (hg : g < w.heap.size) : NewF w w'' f vt vb vr := ⟨h.t.far k hg, h.b.far k hg, h.r.far k hg⟩
theorem NewF.base {w w1 w' : World} {f : Fr} {vt vb vr : Value} (h : NewF w1 w' f vt vb vr) (hw : w.heap.size ≤ w1.heap.size) : NewF w w' f vt vb vr := ⟨h.t.base hw, h.b.base hw, h.r.base hw⟩
theorem NewF.zero (w w' : World) : NewF w w' Fr.zero nilv nilv nilv := ⟨NewT.nil _ _, NewB.nil _ _, NewB.nil _ _⟩
theorem NewF.ones {w w' : World} {f : Fr} {vt vb vr : Value} (h : NewF w w' f vt vb vr) : ∀ u ∈ fcs f vt vb vr, u.oneCell' = true := fcs_one h.t.one h.b.one h.r.one
set_option maxRecDepth 100000 in
set_option maxHeartbeats 4000000 in
theorem eget_yes (A : Option Addr) (n c : Nat) (l : List UInt8) (w : World) (h : Byt w A n c l) (hn : n ≤ 140737488355328) :
    Calls Try.prog 17 #[.slice A n c] w fun e w' => ∃ vt vb vr, e = .returned (.tuple #[frv (getM l).1 vt vb vr, .int .i64 (getM l).2.2]) ∧ NewF w w' (getM l).1 vt vb vr ∧ Kept Nil w w' := by
  have hF2 := FB.new w 57 Fr.zero nilv nilv nilv
  have hk0 := (Kept.refl Nil w).alloc (.cells (fcs Fr.zero nilv nilv nilv).toArray 57)
  have hb := h.kept hk0 (fun _ _ hf => hf)
  have hsix := get_six l
  have HSZ := Lib.hid (show w.heap.size < (w.alloc (.cells (fcs Fr.zero nilv nilv nilv).toArray 57)).heap.size by simp)
  have HF2 := Lib.hid hF2
  have HK0 := Lib.hid hk0
  have HB := Lib.hid hb
  clear hF2 hk0 hb h
  go_enter Try.func17, Try.ntmps17
  go_wp2_with fail
  refine (eread_yes _ _ _ _ _ HB.out hn).mono ?_
  rintro e w1 ⟨v, rfl, ⟨vt, vb, vr, vx, rfl, nt, nb, nr, nx⟩, hk⟩
  have hnf : NewF (w.alloc (.cells (fcs Fr.zero nilv nilv nilv).toArray 57)) w1 (getM l).1 vt vb vr := ⟨nt, nb, nr⟩
  generalize hR : getM l = R at *
  obtain ⟨F, xb, er⟩ := R
  have HR := Lib.hid hR
  clear hR
  simp only at hnf hsix ⊢
  have HNF := Lib.hid hnf
  have HSIX := Lib.hid hsix
  have HF21 := Lib.hid (HF2.out.kept hk (fun hf => hf))
  have HK1 := Lib.hid (HK0.out.then hk)
  have HFN := Lib.hid (FB.new w1 57 Fr.zero nilv nilv nilv)
  clear hnf hsix hk nt nb nr nx HF2 HB
  go_wp2_with (first
    | (refine wpList_st rfl _ (.tmp 4) _ rfl _ 0 rfl (fcs F vt vb vr) _ rfl rfl (by rw [fcs_len HSIX.out]; exact infF) 57 _ HFN.out (by rw [fcs_len Fr.zero_six, fcs_len HSIX.out]; omega) HNF.out.ones ?_; intro w2 hb2 hk2 hz2; have HF42 := Lib.hid (FB.of_all (f' := F) Fr.zero_six HSIX.out hb2); have hk12 := ((Kept.refl Nil w1).alloc (.cells (fcs Fr.zero nilv nilv nilv).toArray 57)).fresh hk2 (fun i hi => by cases hi; exact Nat.le_refl _); have HK12 := Lib.hid hk12; have HF22 := Lib.hid (HF21.out.kept hk12 (fun hf => hf)); clear hk12 hk2 hz2 hb2)
    | (refine wpList_ld rfl _ (.tmp 4) rfl _ 0 rfl _ HF42.out.all _ Try.underlying57 rfl (by rw [fcs_len HSIX.out]; exact infF) ?_)
    | (refine wpList_st rfl _ (.tmp 2) _ rfl _ 0 rfl (fcs F vt vb vr) _ rfl rfl (by rw [fcs_len HSIX.out]; exact infF) 57 _ HF22.out (by rw [fcs_len Fr.zero_six, fcs_len HSIX.out]; omega) HNF.out.ones ?_; intro w3 hb3 hk3 hz3))
  have HF23 := Lib.hid (FB.of_all (f' := F) Fr.zero_six HSIX.out hb3)
  refine bodyPost_ret (res_cell1 Try.results17 rfl rfl HF23.out.all Try.underlying57 rfl (by rw [fcs_len HSIX.out]; exact infF)) rfl ?_
  rw [HR.out]
  exact ⟨vt, vb, vr, rfl, ((HNF.out.kept HK12.out).far hk3 HSZ.out).base (Nat.le_of_lt HSZ.out), (HK1.out.then HK12.out).fresh hk3 (fun i hi => by cases hi; exact Nat.le_refl _)⟩
end Go.Proofs.Ythjfeanmgaidcaa
