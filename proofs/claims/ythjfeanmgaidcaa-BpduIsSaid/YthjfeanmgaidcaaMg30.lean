/- Texts that belong together, one behind the other: BpF, EthB. Conditions: those of each. -/
import Derived.Test.YthjfeanmgaidcaaBpE
import Derived.Test.YthjfeanmgaidcaaMg29
import Derived.Test.YthjfeanmgaidcaaMg24
import Derived.Test.YthjfeanmgaidcaaMg25
/- tolllaw10: the rows (tells), sign. -/
namespace Go.Proofs.Ythjfeanmgaidcaa
open Go.RowKit Go.Sort
set_option linter.unusedVariables false

def bxC : Bp := ⟨1, 0, 0, 0, 0, 0, 0, 1, 0, 0⟩
def bxR : Bp := ⟨3, 0, 0, 0, 0, 0, 0, 1, 0, 0⟩
theorem bxC_ok : bxC.ok := ⟨by decide, by decide, by decide, by decide, by decide, by decide, by decide, by decide, by decide, by decide, by decide⟩
theorem bxR_ok : bxR.ok := ⟨by decide, by decide, by decide, by decide, by decide, by decide, by decide, by decide, by decide, by decide, by decide⟩
theorem bx_chg : putB Bp.chg = ([0, 0, 0, 128], 0) := by decide +kernel
theorem bx_c : (putB bxC).1.length = 35 ∧ (putB bxC).2 = 0 := by decide +kernel
theorem bx_r : (putB bxR).1.length = 36 ∧ (putB bxR).2 = 0 := by decide +kernel
set_option maxRecDepth 100000 in
set_option maxHeartbeats 2000000 in
theorem rows_yes (w : World) : Calls Try.prog 19 #[] w fun e w' => e = .returned (.bool true) ∧ Kept Nil w w' := by
  go_enter Try.func19, Try.ntmps19
  go_wp2_with (fail)
  refine (bpput_yes Bp.chg Bp.chg_ok _).mono ?_
  rintro e w1 ⟨v1, rfl, hm⟩
  rw [bx_chg] at hm ⊢
  obtain ⟨A1, c1, rfl, hy1, -⟩ := byt_own hm
  have HY := Lib.hid hy1
  have HK := Lib.hid hm.2
  clear hm hy1
  go_wp2_with (fail)
  refine (bpput_yes bxC bxC_ok _).mono ?_
  rintro e w2 ⟨v2, rfl, hm⟩
  rw [bx_c.2]
  obtain ⟨A2, c2, rfl, hy2, -⟩ := byt_own hm
  rw [bx_c.1]
  have HY := Lib.hid (HY.out.kept hm.2 (fun _ _ hf => hf))
  have HK := Lib.hid (HK.out.then hm.2)
  clear hm hy2
  go_wp2_with (fail)
  refine (bpput_yes bxR bxR_ok _).mono ?_
  rintro e w3 ⟨v3, rfl, hm⟩
  rw [bx_r.2]
  obtain ⟨A3, c3, rfl, hy3, -⟩ := byt_own hm
  rw [bx_r.1]
  have HY := Lib.hid (HY.out.kept hm.2 (fun _ _ hf => hf))
  have HK := Lib.hid (HK.out.then hm.2)
  clear hm hy3
  have ht : (convert 31 9 (.slice A1 4 c1)).run Try.prog w3 = .ok (.string ⟨#[0, 0, 0, 128]⟩) w3 := HY.out.text (P := Try.prog) Try.underlying31 Try.underlying5 Try.underlying9
  go_wp2_with (fail)
  go_ret
  exact ⟨rfl, HK.out⟩
/-- sign: -1, 0, 1. -/
def sgn (x : Int) : Int := if x < 0 then -1 else if 0 < x then 1 else 0
theorem sgn_is (x : Int) : max (-1) (min x 1) = sgn x := by unfold sgn; omega
end Go.Proofs.Ythjfeanmgaidcaa
/- Package ether: contracts of readCounted and readCarried. -/
namespace Go.Proofs.Ythjfeanmgaidcaa
open Go.RowKit Go.Sort
set_option linter.unusedVariables false

/-- Bytes in memory of the call's own. -/
def NewB (w w' : World) (v : Value) (l : List UInt8) : Prop := ∃ A n c, v = .slice A n c ∧ Byt w' A n c l ∧ ∀ i, Lies A n i → w.heap.size ≤ i
theorem NewB.nil (w w' : World) : NewB w w' (.slice none 0 0) [] := ⟨none, 0, 0, rfl, Byt.none w', fun i hi => absurd hi.1 (by omega)⟩
theorem NewB.kept {w w' w'' : World} {v : Value} {l : List UInt8} (h : NewB w w' v l) (k : Kept Nil w' w'') : NewB w w'' v l := by
  obtain ⟨A, n, c, e, hb, hi⟩ := h
  exact ⟨A, n, c, e, hb.kept k (fun _ _ hf => hf), hi⟩
theorem NewB.of_own {w w' : World} {e : Nat} {v : Value} {l : List UInt8} {n : Nat} {w0 : World} (h : w'.ownsRow w.heap.size e 1 v n (bys l)) (hw : w0.heap.size ≤ w.heap.size) : NewB w0 w' v l := by
  obtain ⟨A, c, e, hb, hi⟩ := Byt.of_own h
  exact ⟨A, _, c, e, hb, fun i hx => Nat.le_trans hw (hi i hx)⟩
theorem NewB.far {w w' w'' : World} {v : Value} {l : List UInt8} {g : Nat} (h : NewB w w' v l) (k : Kept (One g) w' w'') (hg : g < w.heap.size) : NewB w w'' v l := by
  obtain ⟨A, n, c, e, hb, hi⟩ := h
  exact ⟨A, n, c, e, hb.kept k (fun i hx hf => by cases hf; exact Nat.lt_irrefl _ (Nat.lt_of_lt_of_le hg (hi _ hx))), hi⟩
theorem NewB.base {w w1 w' : World} {v : Value} {l : List UInt8} (h : NewB w1 w' v l) (hw : w.heap.size ≤ w1.heap.size) : NewB w w' v l := by
  obtain ⟨A, n, c, e, hb, hi⟩ := h
  exact ⟨A, n, c, e, hb, fun i hx => Nat.le_trans hw (hi i hx)⟩
theorem NewB.one {w w' : World} {v : Value} {l : List UInt8} (h : NewB w w' v l) : v.oneCell' = true := by
  obtain ⟨A, n, c, rfl, _⟩ := h
  rfl
theorem NewB.cells1 {w w' : World} {v : Value} {l : List UInt8} (h : NewB w w' v l) : v.cells = [v].toArray := by
  obtain ⟨A, n, c, rfl, _⟩ := h
  rfl
theorem infI : (Try.prog.info? 3).map (·.size) = some 1 := by kernel_rfl
theorem infSb : (Try.prog.info? 31).map (·.size) = some 1 := by kernel_rfl
theorem infSt : (Try.prog.info? 54).map (·.size) = some 1 := by kernel_rfl
def nilv : Value := .slice none 0 0
theorem thr_len (s : Cst) : (thrM s).1.length = 3 := rfl
/-- What readCounted's cutter comes to. -/
theorem llc_short (l r : List UInt8) (h : l.length < 3) : llcM l r = (Fr.zero, 5) := by unfold llcM; rw [if_pos h]
theorem rest_of (l : List UInt8) (k : Nat) (h : k ≤ l.length) : takeM ⟨l, k, 0⟩ (leftM ⟨l, k, 0⟩) = (l.drop k, ⟨l, l.length, 0⟩) := by
  have e : leftM ⟨l, k, 0⟩ = ((l.length - k : Nat) : Int) := by unfold leftM; simp; omega
  rw [e, takeM_ok l k (l.length - k) (by omega)]
  rw [List.take_of_length_le (by simp), show k + (l.length - k) = l.length by omega]
theorem rest_err (s : Cst) (h : s.er ≠ 0) : takeM s (leftM s) = ([], s) := takeM_er s h _
theorem counted_plain (l r : List UInt8) (h : (thrM ⟨l, 0, 0⟩).1 ≠ snapL) :
    (takeM (thrM ⟨l, 0, 0⟩).2 (leftM (thrM ⟨l, 0, 0⟩).2)).2.er = 0 ∧ llcM l r = (⟨z6, z6, [], 2, 0, (thrM ⟨l, 0, 0⟩).1, z3, (takeM (thrM ⟨l, 0, 0⟩).2 (leftM (thrM ⟨l, 0, 0⟩).2)).1, r⟩, 0) ∨
    (takeM (thrM ⟨l, 0, 0⟩).2 (leftM (thrM ⟨l, 0, 0⟩).2)).2.er ≠ 0 ∧ llcM l r = (Fr.zero, 5) := by
  by_cases h3 : l.length < 3
  · refine .inr ⟨?_, llc_short l r h3⟩
    have hs := thr_short l 0 (by omega) (by omega)
    rw [rest_err _ hs]
    exact hs
  · refine .inl ?_
    rw [thr_ok l 0 (by omega)] at h ⊢
    simp only [List.drop_zero, Nat.zero_add] at h ⊢
    rw [rest_of l 3 (by omega)]
    refine ⟨rfl, ?_⟩
    unfold llcM
    rw [if_neg h3, if_neg h]
theorem counted_snap (l r : List UInt8) (h : (thrM ⟨l, 0, 0⟩).1 = snapL) :
    (takeM (takeM (thrM (thrM ⟨l, 0, 0⟩).2).2 2).2 (leftM (takeM (thrM (thrM ⟨l, 0, 0⟩).2).2 2).2)).2.er = 0 ∧
      llcM l r = (⟨z6, z6, [], 3, (numM (takeM (thrM (thrM ⟨l, 0, 0⟩).2).2 2).1 : Int), (thrM ⟨l, 0, 0⟩).1, (thrM (thrM ⟨l, 0, 0⟩).2).1, (takeM (takeM (thrM (thrM ⟨l, 0, 0⟩).2).2 2).2 (leftM (takeM (thrM (thrM ⟨l, 0, 0⟩).2).2 2).2)).1, r⟩, 0) ∨
    (takeM (takeM (thrM (thrM ⟨l, 0, 0⟩).2).2 2).2 (leftM (takeM (thrM (thrM ⟨l, 0, 0⟩).2).2 2).2)).2.er ≠ 0 ∧ llcM l r = (Fr.zero, 5) := by
  by_cases h3 : l.length < 3
  · refine .inr ⟨?_, llc_short l r h3⟩
    have hs := thr_short l 0 (by omega) (by omega)
    rw [thr_err _ hs, takeM_er _ hs, rest_err _ hs]
    exact hs
  · rw [thr_ok l 0 (by omega)] at h ⊢
    simp only [List.drop_zero, Nat.zero_add] at h ⊢
    by_cases h8 : l.length < 8
    · refine .inr ⟨?_, by unfold llcM; rw [if_neg h3, if_pos h, if_pos h8]⟩
      by_cases h6 : l.length < 6
      · have hs := thr_short l 3 (by omega) (by omega)
        rw [takeM_er _ hs, rest_err _ hs]
        exact hs
      · rw [thr_ok l 3 (by omega)]
        have e := takeM_short l (3 + 3) 2 (by omega) (by omega)
        rw [show ((2 : Nat) : Int) = 2 from rfl] at e
        simp only
        rw [e, rest_err _ (by simp)]
        simp
    · refine .inl ?_
      rw [thr_ok l 3 (by omega)]
      have e := takeM_ok l (3 + 3) 2 (by omega)
      rw [show ((2 : Nat) : Int) = 2 from rfl] at e
      simp only
      rw [e, rest_of l (3 + 3 + 2) (by omega)]
      refine ⟨rfl, ?_⟩
      unfold llcM
      rw [if_neg h3, if_pos h, if_neg h8]
/-- A frame told of, by what the reading came to: its slices, and its error. -/
def Told (w w' : World) (vr : Value) (R : Fr × Int) (v : Value) : Prop :=
  ∃ vb, v = .tuple #[frv R.1 nilv vb (if R.2 = 0 then vr else nilv), .int .i64 R.2] ∧ NewB w w' vb R.1.b
set_option maxRecDepth 100000 in
set_option maxHeartbeats 4000000 in
theorem counted_yes (A : Option Addr) (n c : Nat) (l : List UInt8) (A' : Option Addr) (n' c' : Nat) (r : List UInt8) (w : World) (h : Byt w A n c l) (hn : n ≤ 140737488355328) :
    Calls Try.prog 86 #[.slice A n c, .slice A' n' c'] w fun e w' => ∃ v, e = .returned v ∧ Told w w' (.slice A' n' c') (llcM l r) v ∧ Kept Nil w w' := by
  have hF4 := FB.new w 57 Fr.zero nilv nilv nilv
  have hk0 := (Kept.refl Nil w).alloc (.cells (fcs Fr.zero nilv nilv nilv).toArray 57)
  have hb := h.kept hk0 (fun _ _ hf => hf)
  have HF4 := Lib.hid hF4
  have HK0 := Lib.hid hk0
  have HB := Lib.hid hb
  clear hF4 hk0 hb h
  go_enter Try.func86, Try.ntmps86
  go_wp2_with fail
  refine (new_yes _ _ _ _ _ HB.out hn).mono ?_
  rintro e w1 ⟨g, A1, c1, rfl, hc, hk, hg, hi⟩
  have HC1 := Lib.hid hc
  have HK1 := Lib.hid (HK0.out.then hk)
  have HF41 := Lib.hid (HF4.out.kept hk (fun hf => hf))
  have HG := Lib.hid (show w.heap.size ≠ g by simp at hg; omega)
  have HGL := Lib.hid (show w.heap.size ≤ g by simp at hg; omega)
  clear hc hk hg hi
  go_wp2_with fail
  refine (three_yes _ _ _ _ _ _ HC1.out).mono ?_
  rintro e w2 ⟨rfl, hc, hk⟩
  have HC2 := Lib.hid hc
  have HK2 := Lib.hid (HK1.out.fresh hk (fun i hi => by cases hi; exact HGL.out))
  have HF42 := Lib.hid (HF41.out.kept hk (fun hf => HG.out hf))
  clear hc hk
  obtain ⟨x0, x1, x2, hx⟩ := len3 (thr_len ⟨l, 0, 0⟩)
  rw [hx]
  have HX := Lib.hid hx
  clear hx
  have hF7 := FB.new w2 57 Fr.zero nilv nilv nilv
  have HF7 := Lib.hid hF7
  clear hF7
  rw [show (Value.agg (bys [x0, x1, x2]).toArray) = .agg #[.int .u8 (x0.toNat : Int), .int .u8 (x1.toNat : Int), .int .u8 (x2.toNat : Int)] from rfl]
  go_wp2_with (first
    | (refine wpList_st rfl _ _ _ rfl _ 0 rfl (fcs ⟨z6, z6, [], 2, 0, [x0, x1, x2], z3, [], r⟩ nilv nilv (.slice A' n' c')) _ rfl rfl infF 57 _ HF7.out (by rw [fcs_len Fr.zero_six, fcs_len ⟨rfl, rfl, rfl, rfl⟩]; omega) (fcs_one rfl rfl rfl) ?_; intro w3 hb3 hk3 hz3; have HF73 := Lib.hid (FB.of_all (f' := ⟨z6, z6, [], 2, 0, [x0, x1, x2], z3, [], r⟩) Fr.zero_six ⟨rfl, rfl, rfl, rfl⟩ hb3); clear hb3)
    | (refine wpList_ld rfl _ _ rfl _ 15 rfl _ (HF73.out.rl ⟨rfl, rfl, rfl, rfl⟩) _ Try.underlying55 rfl inf3 ?_))
  have HK3 := Lib.hid ((HK2.out.alloc (.cells (fcs Fr.zero nilv nilv nilv).toArray 57)).fresh hk3 (fun i hi => by cases hi; exact HK2.out.size))
  have hc := HC2.out.kept (((Kept.refl Nil w2).alloc (.cells (fcs Fr.zero nilv nilv nilv).toArray 57)).fresh hk3 (fun i hi => by cases hi; exact Nat.le_refl _)) (fun hf => hf) (fun _ _ hf => hf)
  have HC3 := Lib.hid hc
  have hf := HF42.out.kept (((Kept.refl Nil w2).alloc (.cells (fcs Fr.zero nilv nilv nilv).toArray 57)).fresh hk3 (fun i hi => by cases hi; exact Nat.le_refl _)) (fun hf => hf)
  have HF43 := Lib.hid hf
  clear hc hf hk3
  refine (isSnap_yes [x0, x1, x2] rfl _).mono ?_
  rintro e w4 ⟨rfl, hk⟩
  have HK4 := Lib.hid (HK3.out.then hk)
  have HC4 := Lib.hid (HC3.out.kept hk (fun hf => hf) (fun _ _ hf => hf))
  have HF44 := Lib.hid (HF43.out.kept hk (fun hf => hf))
  have HF74 := Lib.hid (HF73.out.kept hk (fun hf => hf))
  clear hk
  have hli : ∀ i, Lies A1 n i → i ≠ w2.heap.size := fun i hi => Nat.ne_of_lt (HC2.out.byt.lt i hi)
  generalize hw2 : w2.heap.size = g7 at *
  have HLI := Lib.hid hli
  clear hli
  have HGN := Lib.hid (show w.heap.size ≠ g7 by have := HF42.out.lt; omega)
  have HGM := Lib.hid (show g7 ≠ g by have := HC2.out.blo.lt; omega)
  have HGS := Lib.hid (show w.heap.size ≤ g7 by have := HK2.out.size; omega)
  clear hw2 HF7 HF73 HC2 HC3 HF41 HF42 HF43 HF4 HB HC1 HK0 HK1 HK2 HK3
  by_cases hsn : [x0, x1, x2] = snapL
  · rw [decide_eq_true hsn]
    rw [← HX.out] at hsn
    have hcp := counted_snap l r hsn
    have hN : numM (takeM (thrM (thrM ⟨l, 0, 0⟩).2).2 2).1 < 65536 := by
      have h1 := numM_lt (takeM (thrM (thrM ⟨l, 0, 0⟩).2).2 2).1
      have h2 := takeM_len2 (thrM (thrM ⟨l, 0, 0⟩).2).2 2
      exact Nat.lt_of_lt_of_le h1 (Nat.pow_le_pow_right (n := 256) (i := (takeM (thrM (thrM ⟨l, 0, 0⟩).2).2 2).1.length) (j := 2) (by decide) h2)
    have hY := thr_len (thrM ⟨l, 0, 0⟩).2
    have HP := Lib.hid hcp
    clear hcp hsn
    go_wp2_with fail
    refine (three_yes _ _ _ _ _ _ HC4.out).mono ?_
    rintro e w5 ⟨rfl, hc, hk⟩
    have HC5 := Lib.hid hc
    have HK5 := Lib.hid (HK4.out.fresh hk (fun i hi => by cases hi; exact HGL.out))
    have HF45 := Lib.hid (HF44.out.kept hk (fun hf => HG.out hf))
    have HF75 := Lib.hid (HF74.out.kept hk (fun hf => HGM.out hf))
    clear hc hk HK4 HC4 HF44 HF74
    go_wp2_with fail
    refine (Two_yes _ _ _ _ _ _ HC5.out).mono ?_
    rintro e w6 ⟨rfl, hc, hk⟩
    have HC6 := Lib.hid hc
    have HK6 := Lib.hid (HK5.out.fresh hk (fun i hi => by cases hi; exact HGL.out))
    have HF46 := Lib.hid (HF45.out.kept hk (fun hf => HG.out hf))
    have HF76 := Lib.hid (HF75.out.kept hk (fun hf => HGM.out hf))
    clear hc hk HK5 HC5 HF45 HF75
    generalize hys : (thrM (thrM ⟨l, 0, 0⟩).2).1 = ys at *
    generalize hNN : numM (takeM (thrM (thrM ⟨l, 0, 0⟩).2).2 2).1 = N at *
    have HYS := Lib.hid hys
    have HNN := Lib.hid hNN
    have HY := Lib.hid hY
    clear hys hNN hY
    go_wp2_with (first
      | (refine wpList_st rfl _ _ _ rfl _ 13 rfl [.int .i64 3] _ rfl rfl infI 57 _ HF76.out (by rw [fcs_len ⟨rfl, rfl, rfl, rfl⟩]; decide) (fun u hu => by simp at hu; subst hu; rfl) ?_; intro w7 hb7 hk7 hz7; have HF77 := Lib.hid (FB.set_m (f := ⟨z6, z6, [], 2, 0, [x0, x1, x2], z3, [], r⟩) nilv 3 0 ⟨rfl, rfl, rfl, rfl⟩ (.inr (.inl ⟨rfl, rfl, rfl, rfl⟩)) hb7); clear hb7)
      | (refine wpList_st rfl _ _ _ rfl _ 18 rfl (bys ys) _ rfl rfl (by rw [bys_len, HY.out]; exact inf3) 57 _ HF77.out (by rw [fcs_len ⟨rfl, rfl, rfl, rfl⟩, bys_len, HY.out]; decide) (bys_one ys) ?_; intro w8 hb8 hk8 hz8; have HF78 := Lib.hid (FB.set_o (f := ⟨z6, z6, [], 3, 0, [x0, x1, x2], z3, [], r⟩) ys HY.out ⟨rfl, rfl, rfl, rfl⟩ hb8); clear hb8)
      | (refine wpList_st rfl _ _ _ rfl _ 14 rfl [.int .i64 (N : Int)] _ rfl rfl infI 57 _ HF78.out (by rw [fcs_len ⟨rfl, rfl, rfl, HY.out⟩]; simp) (fun u hu => by simp at hu; subst hu; rfl) ?_; intro w9 hb9 hk9 hz9; have HF79 := Lib.hid (FB.set_m (f := ⟨z6, z6, [], 3, 0, [x0, x1, x2], ys, [], r⟩) nilv 3 (N : Int) ⟨rfl, rfl, rfl, HY.out⟩ (.inr (.inr ⟨rfl, rfl, rfl, rfl⟩)) hb9); clear hb9))
    have hk79 : Kept (One g7) w6 w9 := (hk7.same hk8).same hk9
    have HC9 := Lib.hid (HC6.out.kept hk79 (fun hf => HGM.out hf.symm) (fun i hi hf => HLI.out _ hi hf))
    have HF49 := Lib.hid (HF46.out.kept hk79 (fun hf => HGN.out hf))
    have HK9 := Lib.hid (HK6.out.fresh hk79 (fun i hi => by cases hi; exact HGS.out))
    clear hk7 hk8 hk9 hz7 hz8 hz9 hk79 HF46 HF76 HF77 HF78 HC6 HK6
    refine (Rest_yes _ _ _ _ _ _ HC9.out hn).mono ?_
    rintro e w10 ⟨vb, rfl, ho, hc, hk⟩
    have HO10 := Lib.hid (NewB.of_own (w0 := w9) ho (Nat.le_refl _))
    have HSZ := Lib.hid HK9.out.size
    have HL7 := Lib.hid HF79.out.lt
    have HL4 := Lib.hid HF49.out.lt
    have HC10 := Lib.hid hc
    have HK10 := Lib.hid (HK9.out.fresh hk (fun i hi => by cases hi; exact HGL.out))
    have HF410 := Lib.hid (HF49.out.kept hk (fun hf => HG.out hf))
    have HF710 := Lib.hid (HF79.out.kept hk (fun hf => HGM.out hf))
    clear hc hk ho HF49 HF79 HC9 HK9
    go_wp2_with (refine wpList_st rfl _ _ _ rfl _ 21 rfl [vb] _ rfl (NewB.cells1 HO10.out) infSb 57 _ HF710.out (by rw [fcs_len ⟨rfl, rfl, rfl, HY.out⟩]; simp) (by intro u hu; simp at hu; subst hu; exact HO10.out.one) ?_; intro w11 hb11 hk11 hz11)
    have HF711 := Lib.hid (FB.set_e (f := ⟨z6, z6, [], 3, (N : Int), [x0, x1, x2], ys, [], r⟩) vb (.slice A' n' c') ⟨rfl, rfl, rfl, HY.out⟩ (.inl ⟨rfl, rfl, rfl⟩) hb11)
    have HC11 := Lib.hid (HC10.out.kept hk11 (fun hf => HGM.out hf.symm) (fun i hi hf => HLI.out _ hi hf))
    have HF411 := Lib.hid (HF410.out.kept hk11 (fun hf => HGN.out hf))
    have HO11 := Lib.hid (HO10.out.far hk11 HL7.out)
    have HK11 := Lib.hid (HK10.out.fresh hk11 (fun i hi => by cases hi; exact HGS.out))
    clear hb11 hk11 hz11 HF410 HF710 HC10 HO10 HK10
    refine (err_yes _ _ _ HC11.out.c0 HC11.out.c3).mono ?_
    rintro e w12 ⟨rfl, rfl⟩
    rcases HP.out with ⟨he, hl⟩ | ⟨he, hl⟩
    · rw [he]
      have HL := Lib.hid hl
      clear he hl HP
      go_wp2_with (first
        | (refine wpList_ld rfl _ _ rfl _ 0 rfl _ HF711.out.all _ Try.underlying57 rfl (by rw [fcs_len ⟨rfl, rfl, rfl, HY.out⟩]; exact infF) ?_)
        | (refine wpList_st rfl _ _ _ rfl _ 0 rfl (fcs ⟨z6, z6, [], 3, (N : Int), [x0, x1, x2], ys, [], r⟩ nilv vb (.slice A' n' c')) _ rfl rfl (by rw [fcs_len ⟨rfl, rfl, rfl, HY.out⟩]; exact infF) 57 _ HF411.out (by rw [fcs_len Fr.zero_six, fcs_len ⟨rfl, rfl, rfl, HY.out⟩]; omega) (fcs_one rfl HO11.out.one rfl) ?_; intro w13 hb13 hk13 hz13))
      have HF413 := Lib.hid (FB.of_all (f' := ⟨z6, z6, [], 3, (N : Int), [x0, x1, x2], ys, [], r⟩) Fr.zero_six ⟨rfl, rfl, rfl, HY.out⟩ hb13)
      refine bodyPost_ret (res_cell1 Try.results86 rfl rfl HF413.out.all Try.underlying57 rfl (by rw [fcs_len ⟨rfl, rfl, rfl, HY.out⟩]; exact infF)) rfl ?_
      rw [HL.out, HX.out]
      exact ⟨_, rfl, ⟨vb, rfl, ((HO11.out.far hk13 HL4.out).base HSZ.out)⟩, HK11.out.fresh hk13 (fun i hi => by cases hi; exact Nat.le_refl _)⟩
    · have HL := Lib.hid hl
      generalize hE : (takeM (takeM (thrM (thrM ⟨l, 0, 0⟩).2).2 2).2 (leftM (takeM (thrM (thrM ⟨l, 0, 0⟩).2).2 2).2)).2.er = er at *
      have HE := Lib.hid hE
      clear hl HP hE
      go_wp2_with (refine wpList_st rfl _ _ _ rfl _ 0 rfl (fcs Fr.zero nilv nilv nilv) _ rfl rfl infF 57 _ HF411.out (by rw [fcs_len Fr.zero_six]; omega) (fcs_one rfl rfl rfl) ?_; intro w13 hb13 hk13 hz13)
      have HF413 := Lib.hid (FB.of_all (f' := Fr.zero) Fr.zero_six Fr.zero_six hb13)
      refine bodyPost_ret (res_cell1 Try.results86 rfl rfl HF413.out.all Try.underlying57 rfl infF) rfl ?_
      rw [HL.out]
      exact ⟨_, rfl, ⟨nilv, rfl, NewB.nil _ _⟩, HK11.out.fresh hk13 (fun i hi => by cases hi; exact Nat.le_refl _)⟩
  · rw [decide_eq_false hsn]
    rw [← HX.out] at hsn
    have hcp := counted_plain l r hsn
    have HP := Lib.hid hcp
    clear hcp hsn
    go_wp2_with fail
    refine (Rest_yes _ _ _ _ _ _ HC4.out hn).mono ?_
    rintro e w5 ⟨vb, rfl, ho, hc, hk⟩
    have HO5 := Lib.hid (NewB.of_own (w0 := w4) ho (Nat.le_refl _))
    have HSZ := Lib.hid HK4.out.size
    have HL7 := Lib.hid HF74.out.lt
    have HL4 := Lib.hid HF44.out.lt
    have HC5 := Lib.hid hc
    have HK5 := Lib.hid (HK4.out.fresh hk (fun i hi => by cases hi; exact HGL.out))
    have HF45 := Lib.hid (HF44.out.kept hk (fun hf => HG.out hf))
    have HF75 := Lib.hid (HF74.out.kept hk (fun hf => HGM.out hf))
    clear hc hk ho
    go_wp2_with (refine wpList_st rfl _ _ _ rfl _ 21 rfl [vb] _ rfl (NewB.cells1 HO5.out) infSb 57 _ HF75.out (by rw [fcs_len ⟨rfl, rfl, rfl, rfl⟩]; simp) (by intro u hu; simp at hu; subst hu; exact HO5.out.one) ?_; intro w6 hb6 hk6 hz6)
    have HF76 := Lib.hid (FB.set_e (f := ⟨z6, z6, [], 2, 0, [x0, x1, x2], z3, [], r⟩) vb (.slice A' n' c') ⟨rfl, rfl, rfl, rfl⟩ (.inl ⟨rfl, rfl, rfl⟩) hb6)
    have HC6 := Lib.hid (HC5.out.kept hk6 (fun hf => HGM.out hf.symm) (fun i hi hf => HLI.out _ hi hf))
    have HF46 := Lib.hid (HF45.out.kept hk6 (fun hf => HGN.out hf))
    have HO6 := Lib.hid (HO5.out.far hk6 HL7.out)
    have HK6 := Lib.hid (HK5.out.fresh hk6 (fun i hi => by cases hi; exact HGS.out))
    clear hb6 hk6 hz6 HF45 HF75 HC5 HO5 HK5 HF44 HF74 HC4 HK4
    refine (err_yes _ _ _ HC6.out.c0 HC6.out.c3).mono ?_
    rintro e w7 ⟨rfl, rfl⟩
    rcases HP.out with ⟨he, hl⟩ | ⟨he, hl⟩
    · rw [he]
      have HL := Lib.hid hl
      clear he hl HP
      go_wp2_with (first
        | (refine wpList_ld rfl _ _ rfl _ 0 rfl _ HF76.out.all _ Try.underlying57 rfl (by rw [fcs_len ⟨rfl, rfl, rfl, rfl⟩]; exact infF) ?_)
        | (refine wpList_st rfl _ _ _ rfl _ 0 rfl (fcs ⟨z6, z6, [], 2, 0, [x0, x1, x2], z3, [], r⟩ nilv vb (.slice A' n' c')) _ rfl rfl (by rw [fcs_len ⟨rfl, rfl, rfl, rfl⟩]; exact infF) 57 _ HF46.out (by rw [fcs_len Fr.zero_six, fcs_len ⟨rfl, rfl, rfl, rfl⟩]; omega) (fcs_one rfl HO6.out.one rfl) ?_; intro w8 hb8 hk8 hz8))
      have HF48 := Lib.hid (FB.of_all (f' := ⟨z6, z6, [], 2, 0, [x0, x1, x2], z3, [], r⟩) Fr.zero_six ⟨rfl, rfl, rfl, rfl⟩ hb8)
      refine bodyPost_ret (res_cell1 Try.results86 rfl rfl HF48.out.all Try.underlying57 rfl (by rw [fcs_len ⟨rfl, rfl, rfl, rfl⟩]; exact infF)) rfl ?_
      rw [HL.out, HX.out]
      exact ⟨_, rfl, ⟨vb, rfl, ((HO6.out.far hk8 HL4.out).base HSZ.out)⟩, HK6.out.fresh hk8 (fun i hi => by cases hi; exact Nat.le_refl _)⟩
    · have HL := Lib.hid hl
      generalize hE : (takeM (thrM ⟨l, 0, 0⟩).2 (leftM (thrM ⟨l, 0, 0⟩).2)).2.er = er at *
      have HE := Lib.hid hE
      clear hl HP hE
      go_wp2_with (refine wpList_st rfl _ _ _ rfl _ 0 rfl (fcs Fr.zero nilv nilv nilv) _ rfl rfl infF 57 _ HF46.out (by rw [fcs_len Fr.zero_six]; omega) (fcs_one rfl rfl rfl) ?_; intro w8 hb8 hk8 hz8)
      have HF48 := Lib.hid (FB.of_all (f' := Fr.zero) Fr.zero_six Fr.zero_six hb8)
      refine bodyPost_ret (res_cell1 Try.results86 rfl rfl HF48.out.all Try.underlying57 rfl infF) rfl ?_
      rw [HL.out]
      exact ⟨_, rfl, ⟨nilv, rfl, NewB.nil _ _⟩, HK6.out.fresh hk8 (fun i hi => by cases hi; exact Nat.le_refl _)⟩
end Go.Proofs.Ythjfeanmgaidcaa
