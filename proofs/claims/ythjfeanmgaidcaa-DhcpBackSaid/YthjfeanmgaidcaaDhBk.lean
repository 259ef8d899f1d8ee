/- tolllaw09.DhcpBack: the walk. -/
import Derived.Test.YthjfeanmgaidcaaMg19
import Derived.Test.YthjfeanmgaidcaaDhBr
import Derived.Test.YthjfeanmgaidcaaMg20
import Derived.Test.YthjfeanmgaidcaaDhO
import Derived.Test.YthjfeanmgaidcaaMg29
import Derived.Test.YthjfeanmgaidcaaDhP
import Derived.Test.YthjfeanmgaidcaaDhG
import Derived.Test.YthjfeanmgaidcaaRegA
import Derived.Test.YthjfeanmgaidcaaMg30
import Derived.Test.YthjfeanmgaidcaaMg5
import Derived.Test.YthjfeanmgaidcaaApSx
namespace Go.Proofs.Ythjfeanmgaidcaa
open Go.RowKit Go.Sort
set_option linter.unusedVariables false

theorem optB_m (m : Nat) : ∀ os : List Opn, (∀ o ∈ os, o.2.length ≤ m) → (optB os).length ≤ os.length * (m + 2)
  | [], _ => by simp [optB]
  | o :: os, h => by
    have ih := optB_m m os (fun x hx => h x (by simp [hx]))
    have ho := h o (by simp)
    have e2 : (optB (o :: os)).length = o.2.length + 2 + (optB os).length := by simp [optB, oneB]; omega
    rw [e2, List.length_cons, Nat.succ_mul]
    omega
theorem bm_tot (h : Dh) : (optB (brD (fewD h)).os).length ≤ 3084 ∧ (brD (fewD h)).bh.length ≤ 40 ∧ (brD (fewD h)).os.length ≤ 12 ∧ ∀ o ∈ (brD (fewD h)).os, o.2.length ≤ 255 := by
  have hl : (brD (fewD h)).os.length ≤ 12 := by show (((h.os.take 12).map fewO).map brO).length ≤ 12; rw [List.length_map, List.length_map, List.length_take]; omega
  have hb : (brD (fewD h)).bh.length ≤ 40 := by show (h.bh.take 40).length ≤ 40; rw [List.length_take]; omega
  have ho : ∀ o ∈ (brD (fewD h)).os, o.2.length ≤ 255 := fun o ho => by
    obtain ⟨x, hx, rfl⟩ := List.mem_map.1 ho
    show (x.2.take 255).length ≤ 255
    rw [List.length_take]; omega
  have h1 := optB_m 255 _ ho
  have h2 := Nat.mul_le_mul_right (255 + 2) hl
  exact ⟨by omega, hb, hl, ho⟩
theorem optB_ge : ∀ os : List Opn, os.length ≤ (optB os).length
  | [] => by simp [optB]
  | o :: os => by
    have ih := optB_ge os
    have e2 : (optB (o :: os)).length = o.2.length + 2 + (optB os).length := by simp [optB, oneB]; omega
    rw [e2, List.length_cons]
    omega
theorem formB_len {h : Dh} (hs : h.six) : (formB h).length = 241 + (optB h.os).length + h.bh.length := by
  unfold formB
  rw [List.length_append, headB_len hs, List.length_append, List.length_append, List.length_cons]
  show 236 + (4 + ((optB h.os).length + (h.bh.length + 1))) = _
  omega
theorem formB_take {h : Dh} (hs : h.six) : (formB h).take 240 = headB h ++ mrk := by
  unfold formB
  rw [← List.append_assoc, List.take_left' (by rw [List.length_append, headB_len hs]; rfl)]
/-- What the calls of of answer. -/
def ofG (m : Dh) (i : Nat) (v : Value) (u : World) : Prop := i ≤ 1 → ∃ a b c, v = rfv a b c ∧ RfIn u m a b c
theorem ofG_keeps (m : Dh) : ∀ i v u u', ofG m i v u → Kept Nil u u' → ofG m i v u' := fun i v u u' h k hi => by
  obtain ⟨a, b, c, e, hr⟩ := h hi
  exact ⟨a, b, c, e, hr.nil k⟩
def ofP (i1 i2 : Nat) (i : Nat) (v : Value) : Prop := if i = i1 ∨ i = i2 then ∃ a b c, v = rfv a b c else v = .bool true
theorem rfv_inj {a b c a' b' c' : Value} (h : rfv a b c = rfv a' b' c') : a = a' ∧ b = b' ∧ c = c' := by
  unfold rfv at h
  injection h with h
  have := congrArg Array.toList h
  simp at this
  exact this
theorem padB_m (m : Nat) : ∀ os : List Opn, (∀ o ∈ os, o.2.length ≤ m) → (padB os).length ≤ os.length * (m + 5)
  | [], _ => by simp [padB]
  | o :: os, h => by
    have ih := padB_m m os (fun x hx => h x (by simp [hx]))
    have ho := h o (by simp)
    have e2 : (padB (o :: os)).length = o.2.length + 5 + (padB os).length := by simp [padB, oneB]; omega
    rw [e2, List.length_cons, Nat.succ_mul]
    omega
theorem padB_take (os : List Opn) (k : Nat) (h : k < os.length) : padB (os.take (k + 1)) = padB (os.take k) ++ ([0, 0] ++ oneB os[k] ++ [0]) := by
  unfold padB
  rw [List.take_succ_eq_append_getElem h, List.map_append, List.flatten_append]
  simp only [List.map_cons, List.map_nil, List.flatten_cons, List.flatten_nil, List.append_nil]
def lsK (L : List UInt8) (c n : UInt8) (v : List UInt8) (i : Nat) : List UInt8 := match i with
  | 0 => L
  | 1 => L ++ [0, 0, c, n]
  | 2 => L ++ [0, 0, c, n] ++ v
  | _ => L ++ [0, 0, c, n] ++ v ++ [0]
def cvK (v0 : Value) (s : List Value) : Value := s.getLastD v0
/-- What each operation of region 18 leaves. -/
def d18R (v0 v1 : Value) (g3 n1 n2 : Nat) (m : Dh) (i : Nat) (a : Act) (u : World) : Prop := match i with
  | 0 => a.eval (.tmp 97) = v0
  | 1 => ∃ q, a.eval (.tmp 98) = .slice (some ⟨q, 0, none⟩) 1 1
  | 2 => ∃ (A : Option Addr) (c : Nat), a.eval (.tmp 99) = .slice A n1 c
  | 3 => a.eval (.tmp 100) = pAt g3 218
  | 4 => a.eval (.tmp 101) = v1
  | 5 => ∃ (A : Option Addr) (c : Nat), a.eval (.tmp 102) = .slice A n2 c
  | 6 => ∃ vo vb, a.eval (.tmp 103) = .tuple #[dhv m vo vb, .int .i64 0]
  | 7 => a.eval (.tmp 96) = a.eval (.tmp 103) ∧ ∃ vo vb, a.eval (.tmp 103) = .tuple #[dhv m vo vb, .int .i64 0]
  | 8 => a.eval (.tmp 96) = .tuple #[a.eval (.tmp 104), .int .i64 0]
  | 9 => a.eval (.tmp 105) = .int .i64 0
  | 10 => ∃ g, a.eval (.tmp 17) = pAt g 0
  | 11 => ∃ g vo vb, a.eval (.tmp 17) = pAt g 0 ∧ a.eval (.tmp 104) = dhv m vo vb ∧ DB u g 33 m vo vb
  | 12 => a.eval (.tmp 18) = .int .i64 0
  | _ => True
structure d18W (v0 v1 : Value) (g3 n1 n2 : Nat) (m : Dh) (i : Nat) (a : Act) (u : World) : Prop where
  out : d18R v0 v1 g3 n1 n2 m i a u
theorem d18W.kept {v0 v1 : Value} {g3 n1 n2 : Nat} {m : Dh} {i : Nat} {a : Act} {u u' : World} {F : Nat → Prop} (h : d18W v0 v1 g3 n1 n2 m i a u) (k : Kept F u u') (hg : ∀ g, a.eval (.tmp 17) = pAt g 0 → ¬ F g) : d18W v0 v1 g3 n1 n2 m i a u' := by
  obtain ⟨h⟩ := h
  refine ⟨?_⟩
  unfold d18R at h ⊢
  split at h <;> first | exact h | (obtain ⟨g, vo, vb, h1, h2, h3⟩ := h; exact ⟨g, vo, vb, h1, h2, h3.kept k (hg g h1)⟩)
theorem d18W.st {v0 v1 : Value} {g3 n1 n2 : Nat} {m : Dh} {i : Nat} {a : Act} {u u' : World} (h : d18W v0 v1 g3 n1 n2 m i a u) (hi : i ≠ 11) : d18W v0 v1 g3 n1 n2 m i a u' := by
  obtain ⟨h⟩ := h
  refine ⟨?_⟩
  unfold d18R at h ⊢
  split at h <;> first | exact h | exact absurd rfl hi
def d18E (m : Dh) (D : Nat → Prop) (v : Value) (u : World) : Prop := ∃ vo vb, v = .tuple #[dhv m vo vb, .int .i64 0] ∧ DhIn D u m vo vb
theorem d18E_nil (m : Dh) : ∀ D v u u', d18E m D v u → Kept Nil u u' → d18E m D v u' := fun D v u u' ⟨vo, vb, e, h⟩ k => ⟨vo, vb, e, h.nil k⟩
theorem d18E_mono (m : Dh) : ∀ (D D' : Nat → Prop) v u, d18E m D v u → (∀ i, D i → D' i) → d18E m D' v u := fun D D' v u ⟨vo, vb, e, h⟩ k => ⟨vo, vb, e, h.mono k⟩
theorem d18E_bd (m : Dh) : ∀ (D : Nat → Prop) v u, d18E m D v u → d18E m (fun i => D i ∧ i < u.heap.size) v u := fun D v u ⟨vo, vb, e, h⟩ => ⟨vo, vb, e, h.bounded⟩
theorem d18E_kept (m : Dh) : ∀ (D F : Nat → Prop) v u u', d18E m D v u → Kept F u u' → (∀ i, D i → ¬ F i) → d18E m D v u' := fun D F v u u' ⟨vo, vb, e, h⟩ k hF => ⟨vo, vb, e, h.kept k hF⟩
theorem dhv_inj {h : Dh} {a b a' b' : Value} (e : dhv h a b = dhv h a' b') : a = a' ∧ b = b' := by
  unfold dhv dcs at e
  injection e with e
  have h1 := congrArg Array.toList e
  simp only [List.append_cancel_left_eq] at h1
  simp at h1
  exact h1
theorem min1000B (n : Nat) : ∃ m : Nat, (if (1000 : Int) < (n : Int) then (1000 : Int) else (n : Int)) = (m : Int) ∧ min (n : Int) 1000 = (m : Int) ∧ m ≤ n ∧ m ≤ 1000 := ⟨min 1000 n, by split <;> omega, by omega, by omega, by omega⟩
set_option maxRecDepth 100000 in
set_option maxHeartbeats 16000000 in
theorem dback_yes (x : MsA) (A1 : Option Addr) (n1 c1 : Nat) (an : List UInt8) (cu : Int) (w : World) (hI : x.In w) (hb : Byt w A1 n1 c1 an) (hcu' : (Lit.int .u16 cu).wf = true) : Calls Try.prog 3 #[dhv x.h x.o x.b, .slice A1 n1 c1, .int .u16 cu] w fun e w' => e = .returned (.bool true) ∧ Below w.heap.size w w' := by
  have hcu : 0 ≤ cu ∧ cu ≤ 65535 := by simp [Lit.wf, IntKind.min, IntKind.max, IntKind.signed, IntKind.bits] at hcu'; omega
  clear hcu'
  obtain ⟨h, vo, vb⟩ := x
  have hI : DhIn (fun _ => True) w h vo vb := hI
  dsimp only
  have hP := DB.new w 33 h vo vb
  have hk := (Kept.refl Nil w).alloc (.cells (dcs h vo vb).toArray 33)
  have HCU := Lib.hid hcu
  have HAN := Lib.hid (hb.kept hk (fun _ _ hf => hf))
  have HA0 := Lib.hid (fun i hi => hb.lt i hi)
  have HI := Lib.hid (hI.bounded.nil hk)
  have HOK := Lib.hid hI.ok
  clear hcu hb hI
  go_enter Try.func3, Try.ntmps3
  go_upto_region 1 with (fail)
  refine wp_nameE (fun W => DB W w.heap.size 33 h vo vb ∧ Kept Nil w W ∧ Byt W A1 n1 c1 an ∧ DhIn (fun i => True ∧ i < w.heap.size) W h vo vb) ⟨hP, hk, HAN.out, HI.out⟩ ?_
  clear hP hk HAN HI
  rintro w1 ⟨hP, hk, han, hI⟩
  have HP := Lib.hid hP
  have HK := Lib.hid hk
  have HAN := Lib.hid han
  have HI := Lib.hid hI
  obtain ⟨g3, hg3⟩ : ∃ g, w.heap.size = g := ⟨_, rfl⟩
  rw [hg3] at HP HI HA0 ⊢
  have HW := Lib.hid (show w.heap.size ≤ g3 by omega)
  have HG := Lib.hid (show g3 < w1.heap.size from HP.out.lt)
  clear hP hk hI han hg3
  go_wp2_with (first
    | (refine wpList_ld rfl _ (.tmp 3) rfl g3 0 rfl (dcs h vo vb) HP.out.all _ Try.underlying33 rfl (infDh _ HOK.out.s6 _ _) ?_; simp only [Act.put, List.setIfInBounds_toArray, List.set_cons_succ, List.set_cons_zero])
    | fail)
  refine (brought_yes _ h vo vb _ HI.out).mono ?_
  rintro e w2 ⟨v2, b2, rfl, hin, hk2⟩
  have HI2 := Lib.hid hin
  have HALT := Lib.hid (show ∀ i, Lies A1 n1 i → i < g3 from fun i hi => by have := HA0.out i hi; omega)
  have HAN2 := Lib.hid (HAN.out.kept hk2 (fun _ _ hf => hf))
  clear HAN HA0
  have HP := Lib.hid (HP.out.kept hk2 (fun hf => hf))
  have HK := Lib.hid (HK.out.then hk2)
  have HMK := Lib.hid hin.ok
  have HMY := Lib.hid (brD_may (fewD h))
  have HT := Lib.hid (bm_tot h)
  generalize brD (fewD h) = m at *
  clear hin hk2 HI
  go_upto_region 2 with (first
    | (refine wpList_st rfl _ (.tmp 3) _ rfl g3 0 rfl (dcs m v2 b2) _ rfl rfl (infDh _ HMK.out.s6 _ _) 33 _ HP.out (by rw [dcs_len HMK.out.s6, dcs_len HOK.out.s6]; decide) HI2.out.one ?_; intro w3 hb3 hk3 hz3; clear hz3; simp only [Act.put, List.setIfInBounds_toArray, List.set_cons_succ, List.set_cons_zero])
    | fail)
  have HP := Lib.hid (DB.of_all HOK.out.s6 HMK.out.s6 hb3)
  have HI := Lib.hid ((HI2.out.kept hk3 (fun i hi hf => by have h1 := HG.out; cases hf; rcases hi with ⟨_, hi⟩ | hi <;> omega)).mono (D' := fun _ => True) (fun _ _ => trivial))
  have HAN := Lib.hid (HAN2.out.kept hk3 (fun i hi hf => by have h1 := HAN2.out.lt i hi; have h2 := HALT.out i hi; cases hf; omega))
  have HK := Lib.hid (HK.out.fresh hk3 (fun i hi => by have h2 := HW.out; cases hi; omega))
  clear hb3 hk3 HI2 HOK HAN2 HALT
  go_wp2_with (first
    | (refine wpList_ld rfl _ (.tmp 3) rfl g3 0 rfl (dcs m v2 b2) HP.out.all _ Try.underlying33 rfl (infDh _ HMK.out.s6 _ _) ?_; simp only [Act.put, List.setIfInBounds_toArray, List.set_cons_succ, List.set_cons_zero])
    | fail)
  have hby := dbytes_yes (fun _ => True) m v2 b2 _ HI.out (by have := HT.out; omega)
  rw [show bytesD m = (formB m, 0) by unfold bytesD; rw [if_pos HMY.out]] at hby
  refine hby.mono ?_
  clear hby
  rintro e w4 ⟨v, rfl, hmd⟩
  obtain ⟨BA, bc, rfl, hy, _⟩ := byt_own hmd
  dsimp only at hy hmd ⊢
  have HP := Lib.hid (HP.out.kept hmd.2 (fun hf => hf))
  have HAN := Lib.hid (HAN.out.kept hmd.2 (fun _ _ hf => hf))
  have HI := Lib.hid (HI.out.nil hmd.2)
  have HK := Lib.hid (HK.out.then hmd.2)
  have HFB := Lib.hid hy
  have HFL := Lib.hid (formB_len HMK.out.s6)
  have HFT := Lib.hid (formB_take HMK.out.s6)
  have HFG := Lib.hid (getD_laid m HMK.out HMY.out)
  have HFC := Lib.hid (getD_cut m HMK.out HMY.out)
  have HFP := Lib.hid (getD_pad m HMK.out HMY.out)
  clear hmd hy
  generalize formB m = FM at *
  go_upto_region 3 with (fail)
  go_wp2_with (fail)
  have hgt := dget_yes BA FM.length bc FM _ HFB.out (by have := HFL.out; have := HT.out; omega)
  rw [HFG.out] at hgt
  refine hgt.mono ?_
  clear hgt
  rintro e w5 ⟨v9, b9, rfl, hin, hk⟩
  have HI9 := Lib.hid ((hin.mono (D' := fun _ => True) (fun _ _ => trivial)))
  have HP := Lib.hid (HP.out.kept hk (fun hf => hf))
  have HAN := Lib.hid (HAN.out.kept hk (fun _ _ hf => hf))
  have HFB := Lib.hid (HFB.out.kept hk (fun _ _ hf => hf))
  have HI := Lib.hid (HI.out.nil hk)
  have HK := Lib.hid (HK.out.then hk)
  clear hin hk
  dsimp only
  go_upto_region 4 with (first
    | (refine wpList_al rfl 33 rfl (dcs Dh.zero nilv nilv) al_dh ?_; intro w6 hb1 hk1 hz1; clear hz1; simp only [Act.put, List.setIfInBounds_toArray, List.set_cons_succ, List.set_cons_zero])
    | (refine wpList_st rfl _ (.tmp 9) _ rfl _ 0 rfl (dcs m v9 b9) _ rfl rfl (infDh _ HMK.out.s6 _ _) 33 (dcs Dh.zero nilv nilv) hb1 (by rw [dcs_len HMK.out.s6, dcs_len Dh.zero_ok.s6]; decide) HI9.out.one ?_; intro w7 hb2 hk2 hz2; clear hz2; simp only [Act.put, List.setIfInBounds_toArray, List.set_cons_succ, List.set_cons_zero])
    | fail)
  have hk := hk1.fresh hk2 (fun i hi => by cases hi; exact Nat.le_refl _)
  have HP9 := Lib.hid (DB.of_all Dh.zero_ok.s6 HMK.out.s6 hb2)
  have HP := Lib.hid (HP.out.kept hk (fun hf => hf))
  have HAN := Lib.hid (HAN.out.kept hk (fun _ _ hf => hf))
  have HFB := Lib.hid (HFB.out.kept hk (fun _ _ hf => hf))
  have HI := Lib.hid (HI.out.nil hk)
  have HI9 := Lib.hid (HI9.out.nil hk)
  have HK := Lib.hid (HK.out.then hk)
  obtain ⟨g9, hg9⟩ : ∃ g, w5.heap.size = g := ⟨_, rfl⟩
  rw [hg9] at HP9 ⊢
  clear hb1 hk1 hb2 hk2 hk hg9
  refine wp_region_acts (fun _ => False) [8, 10, 11] (fun i vl => (#[], 0)) (fun i => undef) (actI (ofG m)) (ofP 8 10) 14 (by kernel_rfl) (by kernel_rfl) (actI_keeps (ofG_keeps m)) actI_nil ?_
  simp only [List.take_succ_cons, List.take_zero, List.drop_succ_cons, List.drop_zero]
  refine tLex_quiets 8 rfl (by kernel_rfl) ?_
  simp only [List.take_succ_cons, List.take_zero, List.drop_succ_cons, List.drop_zero]
  apply Exists.intro
  refine ⟨?hq1, ?hv1, ?ht1⟩
  case hq1 =>
    intro V hV
    go_big_quiet_step (fail)
    go_big_quiet_step (fail)
    go_big_quiet_step (fail)
    go_big_quiet_step (fail)
    go_big_quiet_step (fail)
    go_big_quiet_step (fail)
    go_big_quiet_step (fail)
    refine wpQuiet_ld rfl _ _ rfl g3 0 rfl (dcs m v2 b2) (fun w1 hw => row_grown ((HP.out.kept hV (fun hf => hf)).all) hw) _ Try.underlying33 rfl (infDh _ HMK.out.s6 _ _) ?_; simp only [Act.put, List.setIfInBounds_toArray, List.set_cons_succ, List.set_cons_zero]
    exact wpQuiet_nil rfl
  case hv1 => exact ⟨trivial, trivial, trivial, trivial, trivial, trivial, trivial, trivial, trivial⟩
  case ht1 =>
  refine tLex_act 10 #[dhv m v2 b2] (fun u => ?he1) rfl rfl (rfv nilv nilv nilv) ⟨nilv, nilv, nilv, rfl⟩ ?hc1 ?_
  case he1 => simp [execOp, go_sem]; rfl
  case hc1 =>
    intro D u hu hI hdd
    refine (of_yes (fun _ => True) m v2 b2 u (HI.out.nil hu) (by have := HT.out; omega)).mono ?_
    rintro e w' ⟨ra1, ra2, ra3, rfl, hr, hk⟩
    exact ⟨_, rfl, ⟨ra1, ra2, ra3, rfl⟩, hu.trans hk (fun _ _ hf => hf.elim), actI_snoc (ofG_keeps m) hI hk 0 rfl (fun _ => ⟨ra1, ra2, ra3, rfl, hr⟩), hk.size, fun k hk' hlt => hk.block k hlt (fun hf => hf)⟩
  rintro rv1 ⟨ra1, ra2, ra3, rfl⟩
  simp only [Act.put, List.setIfInBounds_toArray, List.set_cons_succ, List.set_cons_zero]
  refine tLex_quiets 1 rfl (by kernel_rfl) ?_
  simp only [List.take_succ_cons, List.take_zero, List.drop_succ_cons, List.drop_zero]
  apply Exists.intro
  refine ⟨?hq2, ?hv2, ?ht2⟩
  case hq2 =>
    intro V hV
    refine wpQuiet_ld rfl _ _ rfl g9 0 rfl (dcs m v9 b9) (fun w1 hw => row_grown ((HP9.out.kept hV (fun hf => hf)).all) hw) _ Try.underlying33 rfl (infDh _ HMK.out.s6 _ _) ?_; simp only [Act.put, List.setIfInBounds_toArray, List.set_cons_succ, List.set_cons_zero]
    exact wpQuiet_nil rfl
  case hv2 => exact ⟨trivial, trivial⟩
  case ht2 =>
  refine tLex_act 10 #[dhv m v9 b9] (fun u => ?he2) rfl rfl (rfv nilv nilv nilv) ⟨nilv, nilv, nilv, rfl⟩ ?hc2 ?_
  case he2 => simp [execOp, go_sem]; rfl
  case hc2 =>
    intro D u hu hI hdd
    refine (of_yes (fun _ => True) m v9 b9 u (HI9.out.nil hu) (by have := HT.out; omega)).mono ?_
    rintro e w' ⟨rb1, rb2, rb3, rfl, hr, hk⟩
    exact ⟨_, rfl, ⟨rb1, rb2, rb3, rfl⟩, hu.trans hk (fun _ _ hf => hf.elim), actI_snoc (ofG_keeps m) hI hk 1 rfl (fun _ => ⟨rb1, rb2, rb3, rfl, hr⟩), hk.size, fun k hk' hlt => hk.block k hlt (fun hf => hf)⟩
  rintro rv2 ⟨rb1, rb2, rb3, rfl⟩
  simp only [Act.put, List.setIfInBounds_toArray, List.set_cons_succ, List.set_cons_zero]
  refine tLex_act 9 #[rfv ra1 ra2 ra3, rfv rb1 rb2 rb3] (fun u => ?he3) rfl rfl (.bool true) rfl ?hc3 ?_
  case he3 => simp [execOp, go_sem]
  case hc3 =>
    intro D u hu hI hdd
    obtain ⟨x1, x2, x3, ex, hx⟩ := hI 0 _ rfl (by decide)
    obtain ⟨y1, y2, y3, ey, hy⟩ := hI 1 _ rfl (by decide)
    obtain ⟨rfl, rfl, rfl⟩ := rfv_inj ex
    obtain ⟨rfl, rfl, rfl⟩ := rfv_inj ey
    refine (same_yes m _ _ _ _ _ _ u hx hy).mono ?_
    rintro e w' ⟨rfl, hk⟩
    exact ⟨_, rfl, rfl, hu.trans hk (fun _ _ hf => hf.elim), actI_snoc (ofG_keeps m) hI hk 2 rfl (fun h => absurd h (by decide)), hk.size, fun k hk' hlt => hk.block k hlt (fun hf => hf)⟩
  rintro rv3 hv3
  have hv3 : rv3 = .bool true := hv3
  subst hv3
  simp only [Act.put, List.setIfInBounds_toArray, List.set_cons_succ, List.set_cons_zero]
  refine tLex_quiets 2 rfl (by kernel_rfl) ?_
  simp only [List.take_succ_cons, List.take_zero, List.drop_succ_cons, List.drop_zero]
  apply Exists.intro
  refine ⟨?hq3, ?hv3, ?ht3⟩
  case hq3 =>
    intro V hV
    clear hV
    go_big_quiet_step (fail)
    go_big_quiet_step (fail)
    exact wpQuiet_nil rfl
  case hv3 => exact ⟨trivial, trivial, trivial⟩
  case ht3 =>
  intro w8 hs
  have hk : Kept Nil w7 w8 := hs.kept.mono (fun _ _ hf => hf)
  have HP := Lib.hid (HP.out.kept hk (fun hf => hf))
  have HAN := Lib.hid (HAN.out.kept hk (fun _ _ hf => hf))
  have HFB := Lib.hid (HFB.out.kept hk (fun _ _ hf => hf))
  have HI := Lib.hid (HI.out.nil hk)
  have HK := Lib.hid (HK.out.then hk)
  clear hs hk HP9 HI9
  have hbo := HI.out.o
  obtain ⟨OA, on, oc, rfl, hop⟩ := hbo
  have hbb := HI.out.b
  obtain ⟨MA, mn, mc, rfl, hmb, -⟩ := hbb
  have HOP := Lib.hid hop
  have HMB := Lib.hid hmb
  have cb := HP.out.cb HMK.out.s6
  have co := HP.out.co HMK.out.s6
  have hmn : m.bh.length = mn := hmb.1
  have hon : m.os.length = on := hop.len
  obtain ⟨Wh, hWh⟩ : ∃ n, 241 + (optB m.os).length = n := ⟨_, rfl⟩
  have HWH := Lib.hid hWh
  have hsub : (FM.length : Int) - (mn : Int) = (Wh : Int) := by have := HFL.out; omega
  have hW1 : 241 ≤ Wh := by omega
  have hW2 : Wh ≤ 3325 := by have := HT.out; omega
  have hL2 : FM.length ≤ 4000 := by have := HFL.out; have := HT.out; omega
  have hWL : Wh ≤ FM.length := by have := HFL.out; omega
  have hmnc : mn ≤ mc := hmb.2.1
  have HML := Lib.hid (show mn ≤ 40 by have := HT.out; omega)
  have HON := Lib.hid hon
  have HO12 := Lib.hid (show on ≤ 12 by have := HT.out; omega)
  clear hop hmb hmn hon hWh
  obtain ⟨hc1, hc2⟩ := HCU.out
  obtain ⟨κ, hκ, hκ2⟩ : ∃ K : Nat, cu % (Wh : Int) = (K : Int) ∧ K < Wh := by
    have h1 := Int.emod_nonneg cu (show (Wh : Int) ≠ 0 by omega)
    have h2 := Int.emod_lt_of_pos cu (show (0 : Int) < Wh by omega)
    exact ⟨(cu % (Wh : Int)).toNat, by omega, by omega⟩
  have hbc := HFB.out.2.1
  have hsl := run_cut_hi (P := Try.prog) Try.underlying31 inf5.1 BA FM.length bc κ (κ : Int) rfl (by omega)
  have hsl2 := run_cut_hi (P := Try.prog) Try.underlying31 inf5.1 BA FM.length bc 240 240 rfl (by omega)
  have HKW := Lib.hid hκ2
  have HYK := Lib.hid (HFB.out.pre (hi := κ) (by omega))
  have HY24 := Lib.hid (HFB.out.pre (hi := 240) (by omega))
  have HSL2 := Lib.hid hsl2
  have HCO := Lib.hid co
  clear hκ2 hsl2 co
  go_upto_region 9 with (fail)
  go_wp2_with (fail)
  have hgt := dget_yes BA κ bc (FM.take κ) _ HYK.out (by have := HKW.out; omega)
  refine hgt.mono ?_
  clear hgt
  rintro e w9 ⟨vx, bx, rfl, hin, hk⟩
  have hok := getD_ok (FM.take κ)
  rw [HFC.out κ (by have := HWH.out; have := HKW.out; omega)]
  generalize (getD (FM.take κ)).1 = RX at *
  have HRX := Lib.hid hok.s6
  have HIX := Lib.hid hin.one
  have HP := Lib.hid (HP.out.kept hk (fun hf => hf))
  have HAN := Lib.hid (HAN.out.kept hk (fun _ _ hf => hf))
  have HFB := Lib.hid (HFB.out.kept hk (fun _ _ hf => hf))
  have HMB := Lib.hid (HMB.out.kept hk (fun _ _ hf => hf))
  have HY24 := Lib.hid (HY24.out.kept hk (fun _ _ hf => hf))
  have HI := Lib.hid (HI.out.nil hk)
  have HK := Lib.hid (HK.out.then hk)
  have HOP := Lib.hid (HOP.out.kept hk (fun _ _ hf => hf))
  clear hin hk hok hsub hκ hsl hc1 hc2 cb HYK
  dsimp only
  go_upto_region 12 with (first
    | (refine wpList_al rfl 33 rfl (dcs Dh.zero nilv nilv) al_dh ?_; intro w10 hb1 hk1 hz1; clear hz1; simp only [Act.put, List.setIfInBounds_toArray, List.set_cons_succ, List.set_cons_zero])
    | (refine wpList_st rfl _ (.tmp 12) _ rfl _ 0 rfl (dcs RX vx bx) _ rfl rfl (infDh _ HRX.out _ _) 33 (dcs Dh.zero nilv nilv) hb1 (by rw [dcs_len HRX.out, dcs_len Dh.zero_ok.s6]; decide) HIX.out ?_; intro w11 hb2 hk2 hz2; clear hz2; simp only [Act.put, List.setIfInBounds_toArray, List.set_cons_succ, List.set_cons_zero])
    | fail)
  have hk := hk1.fresh hk2 (fun i hi => by cases hi; exact Nat.le_refl _)
  have HP := Lib.hid (HP.out.kept hk (fun hf => hf))
  have HAN := Lib.hid (HAN.out.kept hk (fun _ _ hf => hf))
  have HFB := Lib.hid (HFB.out.kept hk (fun _ _ hf => hf))
  have HMB := Lib.hid (HMB.out.kept hk (fun _ _ hf => hf))
  have HY24 := Lib.hid (HY24.out.kept hk (fun _ _ hf => hf))
  have HI := Lib.hid (HI.out.nil hk)
  have HK := Lib.hid (HK.out.then hk)
  have HOP := Lib.hid (HOP.out.kept hk (fun _ _ hf => hf))
  clear hb1 hk1 hb2 hk2 hk HRX HIX
  have hsl2 := HSL2.out
  go_wp2_with (fail)
  refine (bclone BA 240 bc (FM.take 240) _ HY24.out (by decide)).mono ?_
  rintro e w12 ⟨v14, rfl, hmd⟩
  rw [HFT.out] at hmd
  obtain ⟨hown, hk⟩ := hmd
  have HOWN := Lib.hid hown
  have HHL := Lib.hid (show (headB m ++ mrk).length = 240 by rw [List.length_append, headB_len HMK.out.s6]; rfl)
  have HK12 := Lib.hid hk
  have co := (HP.out.kept hk (fun hf => hf)).co HMK.out.s6
  clear hown hk hsl2 HSL2 HY24
  dsimp only
  go_upto_region 14 with (fail)
  obtain ⟨gB, hgB⟩ : ∃ g, w11.heap.size = g := ⟨_, rfl⟩
  have HGB := Lib.hid hgB
  rw [hgB] at HOWN
  have HTK := Lib.hid (fun k => padB_m 255 (m.os.take k) (fun o ho => HT.out.2.2.2 o (List.mem_of_mem_take ho)))
  have HOPB := Lib.hid HOP.out.bounded
  clear hgB co
  go_loopw [14, 77] (fun v i wr => ∃ (k : Nat) (vv : Value), vv = v ∧ k ≤ on ∧ i = .int .i64 (k : Int) ∧ wr.ownsRow gB 5 1 vv (headB m ++ mrk ++ padB (m.os.take k)).length (bys (headB m ++ mrk ++ padB (m.os.take k))) ∧ Kept Nil w11 wr) (fun _ i _ => on - (intOf i).toNat)
  case atStart => exact ⟨0, _, rfl, Nat.zero_le _, rfl, by rw [List.take_zero, show padB [] = [] from rfl, List.append_nil]; exact HOWN.out, HK12.out⟩
  case round =>
    obtain ⟨k, vv, rfl, hk, rfl, hown, hkp⟩ := hrel
    have HOW := Lib.hid hown
    have HKR := Lib.hid hkp
    clear hown hkp HOWN HK12
    by_cases hlt : k < on
    · have hkl : k < m.os.length := by rw [HON.out]; exact hlt
      obtain ⟨b, o, A', na, c', rfl, hrow, hby, hlv⟩ := (HOPB.out.kept HKR.out (fun _ _ hf => hf)).at hkl
      have q0 := hrow 0 _ rfl
      have q1 := hrow 1 _ rfl
      rw [Nat.add_zero] at q0
      have HTN := Lib.hid (padB_take m.os k hkl)
      have HLB := Lib.hid (show (headB m ++ mrk ++ padB (m.os.take k)).length ≤ 4000 by
        have h1 := HTK.out k
        have h2 := HO12.out
        have h3 : (m.os.take k).length = k := by rw [List.length_take]; omega
        rw [List.length_append, HHL.out]
        rw [h3] at h1
        omega)
      have hov := HT.out.2.2.2 m.os[k] (List.getElem_mem hkl)
      have HLV := Lib.hid (fun j (hj : Lies A' na j) => (hlv j hj).2)
      generalize m.os[k] = op at *
      obtain ⟨oc, ov⟩ := op
      simp only at q0 hov
      have HBY := Lib.hid (show Byt wr A' na c' ov from hby)
      have hna : na ≤ 255 := by have := hby.1; have h2 : ov.length ≤ 255 := hov; simp only at this; omega
      obtain ⟨lo, hlo⟩ : ∃ x : UInt8, (na : Int) = (x.toNat : Int) := ⟨UInt8.ofNat na, by rw [UInt8.toNat_ofNat']; omega⟩
      have HLO := Lib.hid (show UInt8.ofNat ov.length = lo by
        apply UInt8.toNat_inj.1
        rw [UInt8.toNat_ofNat', hby.1]
        omega)
      have HLN := Lib.hid hlo
      have HNA := Lib.hid hna
      clear hrow hby hlv hkl hov
      have hba := Blo.new wr 47 #[.int .u8 (oc.toNat : Int), .slice A' na c']
      have hka := (Kept.refl Nil wr).alloc (.cells #[.int .u8 (oc.toNat : Int), .slice A' na c'] 47)
      clear hlo
      go_upto_region 16 with (fail)
      refine wp_nameE (fun X => Blo X wr.heap.size 47 #[.int .u8 (oc.toNat : Int), .slice A' na c'] ∧ Kept Nil wr X) ⟨hba, hka⟩ ?_
      clear hba hka
      rintro wa ⟨hba, hka⟩
      have HBA := Lib.hid hba
      have HOWL := Lib.hid (fun i hi => own_blt HOW.out i hi)
      have HOWG := Lib.hid (fun i hi => own_low HOW.out i hi)
      have HOA := Lib.hid (own_kept HOW.out hka (fun _ _ hf => hf))
      have HKA := Lib.hid (HKR.out.then hka)
      have HPA := Lib.hid (HBY.out.kept hka (fun _ _ hf => hf))
      have HGA := Lib.hid (show wr.heap.size < wa.heap.size from hba.lt)
      have HGW := Lib.hid (show gB ≤ wa.heap.size by have := HKA.out.size; have := HGB.out; omega)
      obtain ⟨ga, hga⟩ : ∃ g, wr.heap.size = g := ⟨_, rfl⟩
      rw [hga] at HBA HOWL HGA ⊢
      obtain ⟨L, hL⟩ : ∃ L, headB m ++ mrk ++ padB (m.os.take k) = L := ⟨_, rfl⟩
      have HLE := Lib.hid (show headB m ++ mrk ++ padB (m.os.take (k + 1)) = lsK L oc lo ov 3 by
        rw [HTN.out, ← List.append_assoc, hL]
        show L ++ ([0, 0] ++ (oc :: UInt8.ofNat ov.length :: ov) ++ [0]) = L ++ [0, 0, oc, lo] ++ ov ++ [0]
        rw [HLO.out]
        simp)
      rw [hL] at HOA HLB
      obtain ⟨Av, cv, e, -⟩ := Byt.of_own HOA.out
      clear hba hka hga HOW HBY q0 q1 hL HTN HLO HKR
      subst e
      have HST := Lib.hid (show chI gB wa.heap.size (.slice Av L.length cv) (cvK (.slice Av L.length cv)) (lsK L oc lo ov) (fun _ _ => True) (fun _ => False) [] wa from ⟨Nat.le_refl _, fun _ h => h.elim, HOA.out, fun _ h => h.elim, fun k e => .inl e, trivial⟩)
      refine wp_region_acts (fun j => (Value.slice Av L.length cv).ownBlock = some j) [8, 11, 13] (fun i vl => if i = 7 then (#[.int .u8 0, .int .u8 0, .int .u8 (oc.toNat : Int), .int .u8 (lo.toNat : Int)], 5) else (#[.int .u8 0], 5)) (fun i => .int .i64 (na : Int)) (chI gB wa.heap.size (.slice Av L.length cv) (cvK (.slice Av L.length cv)) (lsK L oc lo ov) (fun _ _ => True)) (fun i v => True) 14 (by kernel_rfl) (by kernel_rfl) (chI_keeps _ _ _ _ _ _ (fun _ _ _ _ _ => trivial)) HST.out ?_
      simp only [List.take_succ_cons, List.take_zero, List.drop_succ_cons, List.drop_zero]
      refine tLex_quiets 7 rfl (by kernel_rfl) ?_
      simp only [List.take_succ_cons, List.take_zero, List.drop_succ_cons, List.drop_zero]
      apply Exists.intro
      refine ⟨?hq1, ?hv1, ?ht1⟩
      case hq1 =>
        intro V hV
        have hbv := HBA.out.kept hV (fun hf => by have := HOWL.out _ hf; omega)
        have c0 := hbv.gcell 0
        have c1 := hbv.gcell 1
        simp at c0 c1
        have hna := HNA.out
        clear hV hbv
        repeat (go_big_quiet_step (fail))
        exact wpQuiet_nil rfl
      case hv1 => exact ⟨trivial, trivial, trivial, trivial, trivial, rfl, trivial, trivial⟩
      case ht1 =>
      refine tLex_make (#[.int .u8 0, .int .u8 0, .int .u8 (oc.toNat : Int), .int .u8 (lo.toNat : Int)], 5) rfl rfl rfl rfl (fun u => ?hm1) ?_
      case hm1 => simp [execOp, mkVal, Instr.buildSlice, go_sem, HLN.out]
      intro gl hgl hLl
      simp only [Act.put, mkVal, List.setIfInBounds_toArray, List.set_cons_succ, List.set_cons_zero]
      refine tLex_app (.tmp 81) (.tmp 88) 31 rfl rfl rfl undef trivial ?hc1 ?_
      case hc1 =>
        intro D u hu hI hdd
        obtain ⟨d1, d2⟩ := hdd _ _ ⟨_, List.mem_cons_of_mem _ (List.mem_cons_self ..), rfl⟩ (mput_same _ _ _)
        have d3 : Blo u gl 5 ([] ++ bys [0, 0, oc, lo] ++ []).toArray := by simpa [bys] using d2
        have hy := byt_row (Blo.row [] (bys [0, 0, oc, lo]) [] d3) (by simp) 4 rfl
        obtain ⟨v, w', t1, _, t2, t3, t4, t5⟩ := chI_app (ty := 31) hu hI hy (by have := HLB.out; show L.length + 4 ≤ _; omega) HGW.out rfl (fun v => rfl) (fun _ _ => trivial)
        exact ⟨v, w', t1, trivial, t2, t3, t4, t5⟩
      intro rv1 _
      simp only [Act.put, List.setIfInBounds_toArray, List.set_cons_succ, List.set_cons_zero]
      refine tLex_quiets 2 rfl (by kernel_rfl) ?_
      simp only [List.take_succ_cons, List.take_zero, List.drop_succ_cons, List.drop_zero]
      apply Exists.intro
      refine ⟨?hq2, ?hv2, ?ht2⟩
      case hq2 =>
        intro V hV
        have hbv := HBA.out.kept hV (fun hf => by have := HOWL.out _ hf; omega)
        have c1 := hbv.gcell 1
        simp at c1
        clear hV hbv
        repeat (go_big_quiet_step (fail))
        exact wpQuiet_nil rfl
      case hv2 => exact ⟨trivial, trivial, trivial⟩
      case ht2 =>
      refine tLex_app (.tmp 89) (.tmp 91) 31 rfl rfl rfl undef trivial ?hc2 ?_
      case hc2 =>
        intro D u hu hI hdd
        obtain ⟨v, w', t1, _, t2, t3, t4, t5⟩ := chI_app (ty := 31) hu hI (HPA.out.kept hu (fun i hi hf => by have h1 := HOWG.out _ hf; have h2 := HLV.out i hi; have h3 := HGB.out; omega)) (by have := HLB.out; have := HNA.out; show (L ++ [0, 0, oc, lo]).length + _ ≤ _; rw [List.length_append]; show L.length + 4 + _ ≤ _; omega) HGW.out rfl (fun v => rfl) (fun _ _ => trivial)
        exact ⟨v, w', t1, trivial, t2, t3, t4, t5⟩
      intro rv2 _
      simp only [Act.put, List.setIfInBounds_toArray, List.set_cons_succ, List.set_cons_zero]
      refine tLex_make (#[.int .u8 0], 5) rfl rfl rfl rfl (fun u => ?hm2) ?_
      case hm2 => simp [execOp, mkVal, Instr.buildSlice, go_sem]
      intro gz hgz hLz
      simp only [Act.put, mkVal, List.setIfInBounds_toArray, List.set_cons_succ, List.set_cons_zero]
      refine tLex_app (.tmp 92) (.tmp 93) 31 rfl rfl rfl undef trivial ?hc3 ?_
      case hc3 =>
        intro D u hu hI hdd
        obtain ⟨d1, d2⟩ := hdd _ _ ⟨_, List.mem_cons_of_mem _ (List.mem_cons_self ..), rfl⟩ (mput_same _ _ _)
        have d3 : Blo u gz 5 ([] ++ bys [0] ++ []).toArray := by simpa [bys] using d2
        have hy := byt_row (Blo.row [] (bys [0]) [] d3) (by simp) 1 rfl
        obtain ⟨v, w', t1, _, t2, t3, t4, t5⟩ := chI_app (ty := 31) hu hI hy (by have := HLB.out; have := HNA.out; have := HPA.out.1; show (L ++ [0, 0, oc, lo] ++ ov).length + 1 ≤ _; rw [List.length_append, List.length_append]; show L.length + 4 + _ + 1 ≤ _; omega) HGW.out rfl (fun v => rfl) (fun _ _ => trivial)
        exact ⟨v, w', t1, trivial, t2, t3, t4, t5⟩
      intro rv3 _
      simp only [Act.put, List.setIfInBounds_toArray, List.set_cons_succ, List.set_cons_zero]
      intro w6 hs
      obtain ⟨_, _, hown, _, hnb, _⟩ := hs.know
      have hown' : w6.ownsRow gB 5 1 rv3 (lsK L oc lo ov 3).length (bys (lsK L oc lo ov 3)) := hown
      rw [← HLE.out] at hown'
      have HO6 := Lib.hid hown'
      have HK6 := Lib.hid (show Kept Nil w11 w6 from HKA.out.fresh hs.kept (fun i hi => by have := HOWG.out _ hi; have := HGB.out; omega))
      clear hs hown hown' hnb hgl hLl hgz hLz HOA HKA HPA HST HBA
      have ho12 := HO12.out
      go_wp2
      go_roundw
      case rel => exact ⟨k + 1, _, rfl, by omega, by go_num, HO6.out, HK6.out⟩
      case measure => simp [intOf]; omega
    · obtain rfl : k = on := by omega
      rw [show m.os.take k = m.os from List.take_of_length_le (by rw [HON.out]; exact Nat.le_refl _)] at HOW
      obtain ⟨Av, cv, e, -⟩ := Byt.of_own HOW.out
      subst e
      obtain ⟨PL, hPL⟩ : ∃ L, headB m ++ mrk ++ padB m.os = L := ⟨_, rfl⟩
      have HPLL := Lib.hid (show PL.length ≤ 4000 by
        have h1 := HTK.out k
        rw [show m.os.take k = m.os from List.take_of_length_le (by rw [HON.out]; exact Nat.le_refl _)] at h1
        have h2 := HO12.out
        have h3 := HON.out
        rw [← hPL, List.length_append, HHL.out]
        rw [h3] at h1
        omega)
      have HGE := Lib.hid (show getD ((PL ++ ([255] : List UInt8)) ++ m.bh) = (m, 0) by
        have := HFP.out
        rw [← hPL]
        simpa [List.append_assoc] using this)
      rw [hPL] at HOW ⊢
      have HV0 := Lib.hid (fun i hi => own_blt HOW.out i hi)
      have HK11 := Lib.hid (fun u (hu : Kept (fun i => (Value.slice Av PL.length cv).ownBlock = some i) wr u) => (show Kept Nil w11 u from HKR.out.fresh hu (fun i hi => by have := own_low HOW.out i hi; have := HGB.out; omega)))
      have HBW := Lib.hid (show gB ≤ wr.heap.size by have := HKR.out.size; have := HGB.out; omega)
      clear hPL hlt
      go_upto_region 18 with (fail)
      refine wp_nameA fun A18 hA18 => ?_
      have HS : A18.tmps.size = 170 := by rw [hA18]; rfl
      have a14 : A18.eval (.tmp 14) = .slice Av PL.length cv := by rw [hA18]; rfl
      have a3 : A18.eval (.tmp 3) = pAt g3 0 := by rw [hA18]; rfl
      have HUN := Lib.hid (show (A18.eval (.tmp 99) = undef ∧ A18.eval (.tmp 102) = undef) ∧ (A18.eval (.tmp 103) = undef ∧ A18.eval (.tmp 17) = undef ∧ A18.eval (.tmp 98) = undef) from ⟨⟨by rw [hA18]; rfl, by rw [hA18]; rfl⟩, by rw [hA18]; rfl, by rw [hA18]; rfl, by rw [hA18]; rfl⟩)
      have HA18 := Lib.hid hA18
      clear hA18
      refine wp_region_slots 170 (axI wr gB (.slice Av PL.length cv) [97, 98, 99, 100, 101, 102, 103, 96, 104, 105, 17, 18] 99 102 103 17 98 33 219 PL (PL ++ ([255] : List UInt8)) ((PL ++ ([255] : List UInt8)) ++ m.bh) [255] (d18E m)) (d18W (.slice Av PL.length cv) (.slice MA mn mc) g3 (PL ++ ([255] : List UInt8)).length ((PL ++ ([255] : List UInt8)) ++ m.bh).length m) (by kernel_rfl) (by kernel_rfl) (fun x u h => h.size.trans HS) ⟨fun a a' w h hr => ⟨(h 97 (of_decide_eq_true (by kernel_rfl))).symm.trans hr.out⟩,
          fun a a' w h ⟨⟨q, hr⟩⟩ => ⟨⟨q, (h 98 (of_decide_eq_true (by kernel_rfl))).symm.trans hr⟩⟩,
          fun a a' w h ⟨⟨A, c, hr⟩⟩ => ⟨⟨A, c, (h 99 (of_decide_eq_true (by kernel_rfl))).symm.trans hr⟩⟩,
          fun a a' w h hr => ⟨(h 100 (of_decide_eq_true (by kernel_rfl))).symm.trans hr.out⟩,
          fun a a' w h hr => ⟨(h 101 (of_decide_eq_true (by kernel_rfl))).symm.trans hr.out⟩,
          fun a a' w h ⟨⟨A, c, hr⟩⟩ => ⟨⟨A, c, (h 102 (of_decide_eq_true (by kernel_rfl))).symm.trans hr⟩⟩,
          fun a a' w h ⟨⟨x, y, hr⟩⟩ => ⟨⟨x, y, (h 103 (of_decide_eq_true (by kernel_rfl))).symm.trans hr⟩⟩,
          fun a a' w h ⟨⟨h1, x, y, hr⟩⟩ => ⟨⟨(h 96 (of_decide_eq_true (by kernel_rfl))).symm.trans (h1.trans (h 103 (of_decide_eq_true (by kernel_rfl)))), x, y, (h 103 (of_decide_eq_true (by kernel_rfl))).symm.trans hr⟩⟩,
          fun a a' w h hr => ⟨by
          have e1 : a.eval (.tmp 96) = a'.eval (.tmp 96) := h 96 (of_decide_eq_true (by kernel_rfl))
          have e2 : a.eval (.tmp 104) = a'.eval (.tmp 104) := h 104 (of_decide_eq_true (by kernel_rfl))
          show a'.eval (.tmp 96) = .tuple #[a'.eval (.tmp 104), .int .i64 0]
          rw [← e1, ← e2]
          exact hr.out⟩,
          fun a a' w h hr => ⟨(h 105 (of_decide_eq_true (by kernel_rfl))).symm.trans hr.out⟩,
          fun a a' w h ⟨⟨g, hr⟩⟩ => ⟨⟨g, (h 17 (of_decide_eq_true (by kernel_rfl))).symm.trans hr⟩⟩,
          fun a a' w h ⟨⟨g, x, y, h1, h2, h3⟩⟩ => ⟨⟨g, x, y, (h 17 (of_decide_eq_true (by kernel_rfl))).symm.trans h1, (h 104 (of_decide_eq_true (by kernel_rfl))).symm.trans h2, h3⟩⟩,
          fun a a' w h hr => ⟨(h 18 (of_decide_eq_true (by kernel_rfl))).symm.trans hr.out⟩,
          trivial⟩
        (fun u hu => axI.start HUN.out.1.1 HUN.out.1.2 HUN.out.2.1 HUN.out.2.2.1 HUN.out.2.2.2 hu HOW.out) ?_ ?_
      refine ⟨?_, ?_, ?_, ?_, ?_, ?_, ?_, ?_, ?_, ?_, ?_, ?_, ?_, trivial⟩
      · intro a u hI hp hun
        have hsz : 97 < a.tmps.size := by rw [hI.size, HS]; decide
        refine stepS_pure (.slice Av PL.length cv) ?_ ?_ ?_
        · exact exec_mv _ rfl ((hI.fr 14 (by decide)).trans a14)
        · exact hI.put 97 _ (by decide) (by decide) (by decide) (by decide) (by decide) (by decide)
        · exact ⟨eval_same a 97 _ hsz⟩
      · intro a u hI hp hun
        have hsz : 98 < a.tmps.size := by rw [hI.size, HS]; decide
        refine stepS_val (.slice (some ⟨u.heap.size, 0, none⟩) 1 1) (u.alloc (.cells (bys [255]).toArray 5)) (by simp [execOp, Instr.buildSlice, go_sem, bys]) (hI.lit (d18E_nil m) (by decide) (by decide) (by decide) (by decide) (by decide) hsz 1 1) ⟨⟨_, eval_same a 98 _ hsz⟩⟩ (fun j _ h => h.kept ((Kept.refl Nil u).alloc _) (fun _ _ hf => hf))
      · intro a u hI hp hun
        have e97 : a.eval (.tmp 97) = .slice Av PL.length cv := (hp ⟨0, .data⟩ (by simp) rfl).out
        obtain ⟨q, e98⟩ : ∃ q, a.eval (.tmp 98) = .slice (some ⟨q, 0, none⟩) 1 1 := (hp ⟨1, .data⟩ (by simp) rfl).out
        have hsz : 99 < a.tmps.size := by rw [hI.size, HS]; decide
        have hbl := (hI.li q ⟨_, _, e98⟩).2.2.1
        have hy := byt_row (Blo.row [] (bys [255]) [] (by simpa using hbl)) (by simp) 1 rfl
        obtain ⟨v', u', hr, h1, ⟨A, c, h2⟩, h3⟩ := hI.app1 HV0.out (by decide) (by decide) (by decide) (by decide) (by decide) hsz ((hun 99 rfl).trans HUN.out.1.1) rfl hy (by have := HPLL.out; omega) HBW.out (ty := 31)
        refine stepS_val v' u' (exec_app _ _ _ rfl e97 e98 hr) h1 ⟨⟨A, c, ?_⟩⟩ (fun j hj h => h.kept h3 (fun g e hf => by have := HV0.out g hf; have := (hI.al g ⟨0, e⟩).1; omega))
        exact (eval_same a 99 _ hsz).trans h2
      · intro a u hI hp hun
        have hsz : 100 < a.tmps.size := by rw [hI.size, HS]; decide
        refine stepS_pure (pAt g3 218) ?_ ?_ ?_
        · exact exec_fa _ _ _ rfl ((hI.fr 3 (by decide)).trans a3) (fa_d14 _ _)
        · exact hI.put 100 _ (by decide) (by decide) (by decide) (by decide) (by decide) (by decide)
        · exact ⟨eval_same a 100 _ hsz⟩
      · intro a u hI hp hun
        have hsz : 101 < a.tmps.size := by rw [hI.size, HS]; decide
        refine stepS_pure (.slice MA mn mc) ?_ ?_ ?_
        · exact exec_ld1 _ _ _ rfl (hp ⟨3, .data⟩ (by simp) rfl).out ((HP.out.kept (HK11.out u hI.kept) (fun hf => hf)).cb HMK.out.s6) Try.underlying31
        · exact hI.put 101 _ (by decide) (by decide) (by decide) (by decide) (by decide) (by decide)
        · exact ⟨eval_same a 101 _ hsz⟩
      · intro a u hI hp hun
        have e101 : a.eval (.tmp 101) = .slice MA mn mc := (hp ⟨4, .data⟩ (by simp) rfl).out
        obtain ⟨A0, c0, e99⟩ : ∃ (A : Option Addr) (c : Nat), a.eval (.tmp 99) = .slice A (PL ++ ([255] : List UInt8)).length c := (hp ⟨2, .data⟩ (by simp) rfl).out
        have hsz : 102 < a.tmps.size := by rw [hI.size, HS]; decide
        obtain ⟨v', u', hr, h1, ⟨A, c, h2⟩, h3, h4⟩ := hI.app2 (by decide) (by decide) (by decide) (by decide) (by decide) hsz ((hun 102 rfl).trans HUN.out.1.2) (by rw [e99]; intro e; cases e) rfl (HMB.out.kept (HK11.out u hI.kept) (fun _ _ hf => hf)) (by have := HPLL.out; have := HML.out; rw [List.length_append]; show PL.length + 1 + mn ≤ _; omega) HBW.out (ty := 31)
        refine stepS_val v' u' (exec_app _ _ _ rfl rfl e101 hr) h1 ⟨⟨A, c, ?_⟩⟩ (fun j hj h => h.kept h3 (fun g e => h4 g ⟨0, e⟩))
        exact (eval_same a 102 _ hsz).trans h2
      · intro a u hI hp hun
        obtain ⟨A0, c0, e102⟩ : ∃ (A : Option Addr) (c : Nat), a.eval (.tmp 102) = .slice A ((PL ++ ([255] : List UInt8)) ++ m.bh).length c := (hp ⟨5, .data⟩ (by simp) rfl).out
        have hne : a.eval (.tmp 102) ≠ undef := by rw [e102]; intro e; cases e
        have hrow := (hI.r2 hne).1
        rw [e102] at hrow
        obtain ⟨A', c', e', hy, -⟩ := Byt.of_own hrow
        cases e'
        have hsz : 103 < a.tmps.size := by rw [hI.size, HS]; decide
        refine stepS_call 8 #[.slice A0 ((PL ++ ([255] : List UInt8)) ++ m.bh).length c0] ?_ ?_
        · simp only [execOp, resolve, invoke, Sem.run_bind, Sem.run_pure, Result.andThen_ok, List.map_toArray, List.map_cons, List.map_nil, e102]
          rfl
        have hgy := dget_yes A0 ((PL ++ ([255] : List UInt8)) ++ m.bh).length c0 ((PL ++ ([255] : List UInt8)) ++ m.bh) u hy (by have := HPLL.out; have := HMB.out.1; have := HML.out; rw [List.length_append, List.length_append]; show PL.length + 1 + _ ≤ _; omega)
        rw [HGE.out] at hgy
        refine hgy.mono ?_
        rintro e w' ⟨vo, vb, rfl, hin, hk⟩
        exact ⟨_, rfl, hI.call (d18E_nil m) (d18E_mono m) (by decide) (by decide) (by decide) (by decide) (by decide) hsz hne hk _ ⟨vo, vb, rfl, hin⟩, ⟨⟨vo, vb, eval_same a 103 _ hsz⟩⟩, fun j _ h => h.kept hk (fun _ _ hf => hf)⟩
      · intro a u hI hp hun
        obtain ⟨vo, vb, e1⟩ : ∃ vo vb, a.eval (.tmp 103) = .tuple #[dhv m vo vb, .int .i64 0] := (hp ⟨6, .data⟩ (by simp) rfl).out
        have hsz : 96 < a.tmps.size := by rw [hI.size, HS]; decide
        have e2 : (a.put (some 96) (a.eval (.tmp 103))).eval (.tmp 103) = a.eval (.tmp 103) := eval_put _ _ _ _ (by decide)
        refine stepS_pure (a.eval (.tmp 103)) ?_ ?_ ?_
        · exact exec_mv _ rfl rfl
        · exact hI.put 96 _ (by decide) (by decide) (by decide) (by decide) (by decide) (by decide)
        · exact ⟨⟨(eval_same a 96 _ hsz).trans e2.symm, vo, vb, e2.trans e1⟩⟩
      · intro a u hI hp hun
        obtain ⟨e0, vo, vb, e1⟩ : a.eval (.tmp 96) = a.eval (.tmp 103) ∧ ∃ vo vb, a.eval (.tmp 103) = .tuple #[dhv m vo vb, .int .i64 0] := (hp ⟨7, .data⟩ (by simp) rfl).out
        have hsz : 104 < a.tmps.size := by rw [hI.size, HS]; decide
        refine stepS_pure (dhv m vo vb) ?_ ?_ ?_
        · exact exec_ex _ _ rfl (e0.trans e1) (exS_0 _ _ _)
        · exact hI.put 104 _ (by decide) (by decide) (by decide) (by decide) (by decide) (by decide)
        refine ⟨?_⟩
        show (a.put (some 104) (dhv m vo vb)).eval (.tmp 96) = .tuple #[(a.put (some 104) (dhv m vo vb)).eval (.tmp 104), .int .i64 0]
        rw [eval_same a 104 _ hsz, eval_put _ _ _ _ (by decide), e0, e1]
      · intro a u hI hp hun
        obtain ⟨e0, vo, vb, e1⟩ : a.eval (.tmp 96) = a.eval (.tmp 103) ∧ ∃ vo vb, a.eval (.tmp 103) = .tuple #[dhv m vo vb, .int .i64 0] := (hp ⟨7, .data⟩ (by simp) rfl).out
        have hsz : 105 < a.tmps.size := by rw [hI.size, HS]; decide
        refine stepS_pure (.int .i64 0) ?_ ?_ ?_
        · exact exec_ex _ _ rfl (e0.trans e1) (exS_1 _ _ _)
        · exact hI.put 105 _ (by decide) (by decide) (by decide) (by decide) (by decide) (by decide)
        · exact ⟨eval_same a 105 _ hsz⟩
      · intro a u hI hp hun
        have hsz : 17 < a.tmps.size := by rw [hI.size, HS]; decide
        exact stepS_val (pAt u.heap.size 0) (u.alloc (.cells (dcs Dh.zero nilv nilv).toArray 33)) (by kernel_rfl) (hI.alloc (d18E_nil m) (d18E_bd m) (d18E_mono m) (by decide) (by decide) (by decide) (by decide) (by decide) hsz _ (dcs_len Dh.zero_ok.s6)) ⟨⟨_, eval_same a 17 _ hsz⟩⟩ (fun j _ h => h.kept ((Kept.refl Nil u).alloc _) (fun _ _ hf => hf))
      · intro a u hI hp hun
        obtain ⟨g, e17⟩ : ∃ g, a.eval (.tmp 17) = pAt g 0 := (hp ⟨10, .data⟩ (by simp) rfl).out
        have e96 : a.eval (.tmp 96) = .tuple #[a.eval (.tmp 104), .int .i64 0] := (hp ⟨8, .data⟩ (by simp) rfl).out
        obtain ⟨e0, vo, vb, e1⟩ : a.eval (.tmp 96) = a.eval (.tmp 103) ∧ ∃ vo vb, a.eval (.tmp 103) = .tuple #[dhv m vo vb, .int .i64 0] := (hp ⟨7, .phase⟩ (by simp) rfl).out
        have ex : a.eval (.tmp 104) = dhv m vo vb := by
          rw [e0, e1] at e96
          injection e96 with e96
          injection e96 with e96
          injection e96 with e96 _
          exact e96.symm
        obtain ⟨x1, x2, xe, hin⟩ := hI.got (by rw [e1]; intro e; cases e)
        rw [e1] at xe
        injection xe with xe
        injection xe with xe
        injection xe with xe _
        obtain ⟨rfl, rfl⟩ := dhv_inj xe
        obtain ⟨hg1, hg2, cs, hcl, hb⟩ := hI.al g ⟨0, e17⟩
        refine stepS_st _ _ _ rfl rfl e17 (dcs m vo vb) ex rfl (infDh _ HMK.out.s6 _ _) hb (by rw [hcl, dcs_len HMK.out.s6]; decide) hin.one fun u' hbl hk hz => ?_
        have hbl' : DB u' g 33 m vo vb := by
          rw [List.take_zero, List.nil_append, show 0 + (dcs m vo vb).length = cs.length by rw [hcl, dcs_len HMK.out.s6], List.drop_length, List.append_nil] at hbl
          exact hbl
        exact ⟨hI.store (d18E_kept m) HV0.out hk hz e17 _ (dcs_len HMK.out.s6) hbl', ⟨⟨g, vo, vb, e17, ex, hbl'⟩⟩, fun j hj h => h.st hj⟩
      · intro a u hI hp hun
        have hsz : 18 < a.tmps.size := by rw [hI.size, HS]; decide
        refine stepS_pure (.int .i64 0) ?_ ?_ ?_
        · exact exec_as _ rfl (hp ⟨9, .data⟩ (by simp) rfl).out
        · exact hI.put 18 _ (by decide) (by decide) (by decide) (by decide) (by decide) (by decide)
        · exact ⟨eval_same a 18 _ hsz⟩
      intro a w18 hI hR
      obtain ⟨g17, vp, bp, e17, e104, hb17⟩ := (hR 11 _ rfl).out
      obtain ⟨q98, e98⟩ : ∃ q, a.eval (.tmp 98) = .slice (some ⟨q, 0, none⟩) 1 1 := (hR 1 _ rfl).out
      obtain ⟨A99, c99, e99⟩ : ∃ (A : Option Addr) (c : Nat), a.eval (.tmp 99) = .slice A (PL ++ ([255] : List UInt8)).length c := (hR 2 _ rfl).out
      obtain ⟨A102, c102, e102⟩ : ∃ (A : Option Addr) (c : Nat), a.eval (.tmp 102) = .slice A ((PL ++ ([255] : List UInt8)) ++ m.bh).length c := (hR 5 _ rfl).out
      have e96 : a.eval (.tmp 96) = .tuple #[a.eval (.tmp 104), .int .i64 0] := (hR 8 _ rfl).out
      rw [e104] at e96
      have e103 : a.eval (.tmp 103) = .tuple #[dhv m vp bp, .int .i64 0] := by rw [← (hR 7 _ rfl).out.1]; exact e96
      obtain ⟨vo', vb', ee, hin⟩ := hI.got (by rw [e103]; intro e; cases e)
      rw [e103] at ee
      injection ee with ee
      injection ee with ee
      injection ee with ee _
      obtain ⟨rfl, rfl⟩ := dhv_inj ee
      have HI17 := Lib.hid (hin.mono (D' := fun _ => True) (fun _ _ => trivial))
      have ha := act_eq a A18 [(97, .slice Av PL.length cv), (98, .slice (some ⟨q98, 0, none⟩) 1 1), (99, .slice A99 (PL ++ ([255] : List UInt8)).length c99), (100, pAt g3 218), (101, .slice MA mn mc), (102, .slice A102 ((PL ++ ([255] : List UInt8)) ++ m.bh).length c102), (103, .tuple #[dhv m vp bp, .int .i64 0]), (96, .tuple #[dhv m vp bp, .int .i64 0]), (104, dhv m vp bp), (105, .int .i64 0), (17, pAt g17 0), (18, .int .i64 0)] hI.size hI.defs (show ([97, 98, 99, 100, 101, 102, 103, 96, 104, 105, 17, 18] : List Nat).Nodup by decide) (fun p hp => by
          rw [HS]
          have h1 : p.1 ∈ [97, 98, 99, 100, 101, 102, 103, 96, 104, 105, 17, 18] := List.mem_map_of_mem (f := Prod.fst) hp
          simp at h1
          omega) (fun p hp => by
          simp only [List.mem_cons, List.not_mem_nil, or_false] at hp
          rcases hp with rfl | rfl | rfl | rfl | rfl | rfl | rfl | rfl | rfl | rfl | rfl | rfl
          · exact (hR 0 _ rfl).out
          · exact e98
          · exact e99
          · exact (hR 3 _ rfl).out
          · exact (hR 4 _ rfl).out
          · exact e102
          · exact e103
          · exact e96
          · exact e104
          · exact (hR 9 _ rfl).out
          · exact e17
          · exact (hR 12 _ rfl).out) (fun d hd => hI.fr d hd)
      have hk := HK11.out w18 hI.kept
      have HP17 := Lib.hid (show DB w18 g17 33 m vp bp from hb17)
      have HP := Lib.hid (HP.out.kept hk (fun hf => hf))
      have HAN := Lib.hid (HAN.out.kept hk (fun _ _ hf => hf))
      have HMB := Lib.hid (HMB.out.kept hk (fun _ _ hf => hf))
      have HI := Lib.hid (HI.out.nil hk)
      have HK := Lib.hid (HK.out.then hk)
      have HOP := Lib.hid (HOP.out.kept hk (fun _ _ hf => hf))
      clear hI hR hk hb17 hin ee e17 e98 e99 e102 e96 e103 e104 a14 a3 HS HV0 HOW HKR HK11
      subst ha
      have hA18 := HA18.out
      clear HA18
      subst hA18
      simp only [List.foldl_cons, List.foldl_nil, pAt]
      simp only [Act.put, List.setIfInBounds_toArray, List.set_cons_succ, List.set_cons_zero]
      go_upto_region 19 with (fail)
      refine wp_region_acts (fun _ => False) [4, 6, 7] (fun i vl => (#[], 0)) (fun i => undef) (actI (ofG m)) (ofP 4 6) 10 (by kernel_rfl) (by kernel_rfl) (actI_keeps (ofG_keeps m)) actI_nil ?_
      simp only [List.take_succ_cons, List.take_zero, List.drop_succ_cons, List.drop_zero]
      refine tLex_quiets 4 rfl (by kernel_rfl) ?_
      simp only [List.take_succ_cons, List.take_zero, List.drop_succ_cons, List.drop_zero]
      apply Exists.intro
      refine ⟨?hq1, ?hv1, ?ht1⟩
      case hq1 =>
        intro V hV
        go_big_quiet_step (fail)
        go_big_quiet_step (fail)
        go_big_quiet_step (fail)
        refine wpQuiet_ld rfl _ _ rfl g3 0 rfl (dcs m (.slice OA k oc) (.slice MA mn mc)) (fun w1 hw => row_grown ((HP.out.kept hV (fun hf => hf)).all) hw) _ Try.underlying33 rfl (infDh _ HMK.out.s6 _ _) ?_; simp only [Act.put, List.setIfInBounds_toArray, List.set_cons_succ, List.set_cons_zero]
        exact wpQuiet_nil rfl
      case hv1 => exact ⟨trivial, trivial, trivial, trivial, trivial⟩
      case ht1 =>
      refine tLex_act 10 #[dhv m (.slice OA k oc) (.slice MA mn mc)] (fun u => ?he1) rfl rfl (rfv nilv nilv nilv) ⟨nilv, nilv, nilv, rfl⟩ ?hc1 ?_
      case he1 => simp [execOp, go_sem]; rfl
      case hc1 =>
        intro D u hu hI hdd
        refine (of_yes (fun _ => True) m (.slice OA k oc) (.slice MA mn mc) u (HI.out.nil hu) (by have := HT.out; omega)).mono ?_
        rintro e w' ⟨ra1, ra2, ra3, rfl, hr, hk⟩
        exact ⟨_, rfl, ⟨ra1, ra2, ra3, rfl⟩, hu.trans hk (fun _ _ hf => hf.elim), actI_snoc (ofG_keeps m) hI hk 0 rfl (fun _ => ⟨ra1, ra2, ra3, rfl, hr⟩), hk.size, fun k hk' hlt => hk.block k hlt (fun hf => hf)⟩
      rintro rv1 ⟨ra1, ra2, ra3, rfl⟩
      simp only [Act.put, List.setIfInBounds_toArray, List.set_cons_succ, List.set_cons_zero]
      refine tLex_quiets 1 rfl (by kernel_rfl) ?_
      simp only [List.take_succ_cons, List.take_zero, List.drop_succ_cons, List.drop_zero]
      apply Exists.intro
      refine ⟨?hq2, ?hv2, ?ht2⟩
      case hq2 =>
        intro V hV
        refine wpQuiet_ld rfl _ _ rfl g17 0 rfl (dcs m vp bp) (fun w1 hw => row_grown ((HP17.out.kept hV (fun hf => hf)).all) hw) _ Try.underlying33 rfl (infDh _ HMK.out.s6 _ _) ?_; simp only [Act.put, List.setIfInBounds_toArray, List.set_cons_succ, List.set_cons_zero]
        exact wpQuiet_nil rfl
      case hv2 => exact ⟨trivial, trivial⟩
      case ht2 =>
      refine tLex_act 10 #[dhv m vp bp] (fun u => ?he2) rfl rfl (rfv nilv nilv nilv) ⟨nilv, nilv, nilv, rfl⟩ ?hc2 ?_
      case he2 => simp [execOp, go_sem]; rfl
      case hc2 =>
        intro D u hu hI hdd
        refine (of_yes (fun _ => True) m vp bp u (HI17.out.nil hu) (by have := HT.out; omega)).mono ?_
        rintro e w' ⟨rb1, rb2, rb3, rfl, hr, hk⟩
        exact ⟨_, rfl, ⟨rb1, rb2, rb3, rfl⟩, hu.trans hk (fun _ _ hf => hf.elim), actI_snoc (ofG_keeps m) hI hk 1 rfl (fun _ => ⟨rb1, rb2, rb3, rfl, hr⟩), hk.size, fun k hk' hlt => hk.block k hlt (fun hf => hf)⟩
      rintro rv2 ⟨rb1, rb2, rb3, rfl⟩
      simp only [Act.put, List.setIfInBounds_toArray, List.set_cons_succ, List.set_cons_zero]
      refine tLex_act 9 #[rfv ra1 ra2 ra3, rfv rb1 rb2 rb3] (fun u => ?he3) rfl rfl (.bool true) rfl ?hc3 ?_
      case he3 => simp [execOp, go_sem]
      case hc3 =>
        intro D u hu hI hdd
        obtain ⟨x1, x2, x3, ex, hx⟩ := hI 0 _ rfl (by decide)
        obtain ⟨y1, y2, y3, ey, hy⟩ := hI 1 _ rfl (by decide)
        obtain ⟨rfl, rfl, rfl⟩ := rfv_inj ex
        obtain ⟨rfl, rfl, rfl⟩ := rfv_inj ey
        refine (same_yes m _ _ _ _ _ _ u hx hy).mono ?_
        rintro e w' ⟨rfl, hk⟩
        exact ⟨_, rfl, rfl, hu.trans hk (fun _ _ hf => hf.elim), actI_snoc (ofG_keeps m) hI hk 2 rfl (fun h => absurd h (by decide)), hk.size, fun k hk' hlt => hk.block k hlt (fun hf => hf)⟩
      rintro rv3 hv3
      have hv3 : rv3 = .bool true := hv3
      subst hv3
      simp only [Act.put, List.setIfInBounds_toArray, List.set_cons_succ, List.set_cons_zero]
      refine tLex_quiets 2 rfl (by kernel_rfl) ?_
      simp only [List.take_succ_cons, List.take_zero, List.drop_succ_cons, List.drop_zero]
      apply Exists.intro
      refine ⟨?hq3, ?hv3, ?ht3⟩
      case hq3 =>
        intro V hV
        clear hV
        go_big_quiet_step (fail)
        go_big_quiet_step (fail)
        exact wpQuiet_nil rfl
      case hv3 => exact ⟨trivial, trivial, trivial⟩
      case ht3 =>
      intro w19 hs
      have hk : Kept Nil w18 w19 := hs.kept.mono (fun _ _ hf => hf)
      have HAN := Lib.hid (HAN.out.kept hk (fun _ _ hf => hf))
      have HK := Lib.hid (HK.out.then hk)
      clear hs hk HP17 HI17 HI HP HMB HOP HOPB
      have hkc := HAN.out.2.1
      have hcc := HAN.out.2.2.1
      obtain ⟨N, hm1, hm2, hN1, hN2⟩ := min1000B n1
      have hsl := run_cut_hi (P := Try.prog) Try.underlying31 inf5.1 A1 n1 c1 N (N : Int) rfl (by omega)
      have HAN := Lib.hid (HAN.out.pre (hi := N) hN1)
      obtain ⟨ay, hay⟩ : ∃ x, an.take N = x := ⟨_, rfl⟩
      rw [hay] at HAN
      have HN2 := Lib.hid hN2
      have HKC := Lib.hid hkc
      clear hN2 hay
      go_upto_region 22 with (fail)
      go_wp2_with (fail)
      clear hm1 hm2 hsl hkc hcc
      refine (dget_yes A1 N c1 ay _ HAN.out (by have := HN2.out; omega)).mono ?_
      rintro e w20 ⟨vx, bx, rfl, hin, hk⟩
      have HAN := Lib.hid (HAN.out.kept hk (fun _ _ hf => hf))
      have HK := Lib.hid (HK.out.then hk)
      have HMAY := Lib.hid (getD_may ay)
      have HERR := Lib.hid (getD_err ay)
      have HRO := Lib.hid (getD_ok ay)
      have HIR := Lib.hid (hin.mono (D' := fun _ => True) (fun _ _ => trivial))
      generalize (getD ay).1 = R1 at *
      generalize (getD ay).2 = R2 at *
      clear hk hin
      dsimp only
      go_upto_region 23 with (first
        | (refine wpList_al rfl 33 rfl (dcs Dh.zero nilv nilv) al_dh ?_; intro w21 hb1 hk1 hz1; clear hz1; simp only [Act.put, List.setIfInBounds_toArray, List.set_cons_succ, List.set_cons_zero])
        | (refine wpList_st rfl _ (.tmp 19) _ rfl _ 0 rfl (dcs R1 vx bx) _ rfl rfl (infDh _ HRO.out.s6 _ _) 33 (dcs Dh.zero nilv nilv) hb1 (by rw [dcs_len HRO.out.s6, dcs_len Dh.zero_ok.s6]; decide) HIR.out.one ?_; intro w22 hb2 hk2 hz2; clear hz2; simp only [Act.put, List.setIfInBounds_toArray, List.set_cons_succ, List.set_cons_zero])
        | fail)
      have hk := hk1.fresh hk2 (fun i hi => by cases hi; exact Nat.le_refl _)
      have HP19 := Lib.hid (DB.of_all Dh.zero_ok.s6 HRO.out.s6 hb2)
      have HAN := Lib.hid (HAN.out.kept hk (fun _ _ hf => hf))
      have HIR := Lib.hid (HIR.out.nil hk)
      have HK := Lib.hid (HK.out.then hk)
      obtain ⟨g19, hg19⟩ : ∃ g, w20.heap.size = g := ⟨_, rfl⟩
      rw [hg19] at HP19 ⊢
      clear hb1 hk1 hb2 hk2 hk hg19
      by_cases hr : R2 = 0
      · obtain ⟨p1, p2⟩ := HMAY.out hr
        have HMY1 := Lib.hid p1
        have HLE1 := Lib.hid p2
        have HRF := Lib.hid (formB_len HRO.out.s6)
        have HRG := Lib.hid (optB_ge R1.os)
        have HRL := Lib.hid (getD_laid R1 HRO.out p1)
        subst hr
        clear p1 p2 HMAY HERR
        go_wp2_with (first
          | (refine wpList_ld rfl _ (.tmp 19) rfl g19 0 rfl (dcs R1 vx bx) HP19.out.all _ Try.underlying33 rfl (infDh _ HRO.out.s6 _ _) ?_; simp only [Act.put, List.setIfInBounds_toArray, List.set_cons_succ, List.set_cons_zero])
          | fail)
        have hby := dbytes_yes (fun _ => True) R1 vx bx _ HIR.out (by have h1 := HRF.out; have h2 := HLE1.out; have h3 := HAN.out.1; have h4 := HN2.out; omega)
        rw [show bytesD R1 = (formB R1, 0) by unfold bytesD; rw [if_pos HMY1.out]] at hby
        refine hby.mono ?_
        clear hby
        rintro e w23 ⟨v, rfl, hmd⟩
        obtain ⟨CA, cc, rfl, hy, _⟩ := byt_own hmd
        dsimp only at hy hmd ⊢
        have HP19 := Lib.hid (HP19.out.kept hmd.2 (fun hf => hf))
        have HIR := Lib.hid (HIR.out.nil hmd.2)
        have HK := Lib.hid (HK.out.then hmd.2)
        have HCB := Lib.hid hy
        have HB1 := Lib.hid (show (formB R1).length ≤ N by have h2 := HLE1.out; have h3 := HAN.out.1; omega)
        have HOS := Lib.hid (show R1.os.length ≤ 1000 by have h1 := HRF.out; have h2 := HLE1.out; have h3 := HAN.out.1; have h4 := HN2.out; have h5 := HRG.out; omega)
        clear hmd hy HRF HLE1
        generalize formB R1 = FB1 at *
        go_upto_region 26 with (fail)
        go_wp2_with (fail)
        have hgt := dget_yes CA FB1.length cc FB1 _ HCB.out (by have := HB1.out; have := HN2.out; omega)
        rw [HRL.out] at hgt
        refine hgt.mono ?_
        clear hgt
        rintro e w24 ⟨vy, byy, rfl, hin, hk⟩
        have HIS := Lib.hid ((hin.mono (D' := fun _ => True) (fun _ _ => trivial)))
        have HP19 := Lib.hid (HP19.out.kept hk (fun hf => hf))
        have HIR := Lib.hid (HIR.out.nil hk)
        have HK := Lib.hid (HK.out.then hk)
        clear hin hk HCB HRL
        dsimp only
        go_upto_region 27 with (first
          | (refine wpList_al rfl 33 rfl (dcs Dh.zero nilv nilv) al_dh ?_; intro w25 hb1 hk1 hz1; clear hz1; simp only [Act.put, List.setIfInBounds_toArray, List.set_cons_succ, List.set_cons_zero])
          | (refine wpList_st rfl _ (.tmp 23) _ rfl _ 0 rfl (dcs R1 vy byy) _ rfl rfl (infDh _ HRO.out.s6 _ _) 33 (dcs Dh.zero nilv nilv) hb1 (by rw [dcs_len HRO.out.s6, dcs_len Dh.zero_ok.s6]; decide) HIS.out.one ?_; intro w26 hb2 hk2 hz2; clear hz2; simp only [Act.put, List.setIfInBounds_toArray, List.set_cons_succ, List.set_cons_zero])
          | fail)
        have hk := hk1.fresh hk2 (fun i hi => by cases hi; exact Nat.le_refl _)
        have HP23 := Lib.hid (DB.of_all Dh.zero_ok.s6 HRO.out.s6 hb2)
        have HP19 := Lib.hid (HP19.out.kept hk (fun hf => hf))
        have HIR := Lib.hid (HIR.out.nil hk)
        have HIS := Lib.hid (HIS.out.nil hk)
        have HK := Lib.hid (HK.out.then hk)
        obtain ⟨g23, hg23⟩ : ∃ g, w24.heap.size = g := ⟨_, rfl⟩
        rw [hg23] at HP23 ⊢
        clear hb1 hk1 hb2 hk2 hk hg23
        have hMN : (FB1.length : Int) ≤ (N : Int) := by have := HB1.out; omega
        refine wp_region_acts (fun _ => False) [15, 17, 18] (fun i vl => (#[], 0)) (fun i => if i = 8 then .int .i64 (FB1.length : Int) else if i = 10 then .int .i64 (N : Int) else .bool true) (actI (ofG R1)) (ofP 15 17) 23 (by kernel_rfl) (by kernel_rfl) (actI_keeps (ofG_keeps R1)) actI_nil ?_
        simp only [List.take_succ_cons, List.take_zero, List.drop_succ_cons, List.drop_zero]
        refine tLex_quiets 15 rfl (by kernel_rfl) ?_
        simp only [List.take_succ_cons, List.take_zero, List.drop_succ_cons, List.drop_zero]
        apply Exists.intro
        refine ⟨?hq1, ?hv1, ?ht1⟩
        case hq1 =>
          intro V hV
          go_big_quiet_step (fail)
          go_big_quiet_step (fail)
          go_big_quiet_step (fail)
          go_big_quiet_step (fail)
          go_big_quiet_step (fail)
          go_big_quiet_step (fail)
          go_big_quiet_step (fail)
          go_big_quiet_step (fail)
          go_big_quiet_step (fail)
          go_big_quiet_step (fail)
          go_big_quiet_step (fail)
          go_big_quiet_step (fail)
          go_big_quiet_step (fail)
          go_big_quiet_step (fail)
          refine wpQuiet_ld rfl _ _ rfl g19 0 rfl (dcs R1 vx bx) (fun w1 hw => row_grown ((HP19.out.kept hV (fun hf => hf)).all) hw) _ Try.underlying33 rfl (infDh _ HRO.out.s6 _ _) ?_; simp only [Act.put, List.setIfInBounds_toArray, List.set_cons_succ, List.set_cons_zero]
          exact wpQuiet_nil rfl
        case hv1 => exact ⟨trivial, trivial, trivial, trivial, trivial, trivial, trivial, trivial, rfl, trivial, rfl, trivial, trivial, trivial, trivial, trivial⟩
        case ht1 =>
        refine tLex_act 10 #[dhv R1 vx bx] (fun u => ?he1) rfl rfl (rfv nilv nilv nilv) ⟨nilv, nilv, nilv, rfl⟩ ?hc1 ?_
        case he1 => simp [execOp, go_sem]; rfl
        case hc1 =>
          intro D u hu hI hdd
          refine (of_yes (fun _ => True) R1 vx bx u (HIR.out.nil hu) (by have := HOS.out; omega)).mono ?_
          rintro e w' ⟨ra1, ra2, ra3, rfl, hr, hk⟩
          exact ⟨_, rfl, ⟨ra1, ra2, ra3, rfl⟩, hu.trans hk (fun _ _ hf => hf.elim), actI_snoc (ofG_keeps R1) hI hk 0 rfl (fun _ => ⟨ra1, ra2, ra3, rfl, hr⟩), hk.size, fun k hk' hlt => hk.block k hlt (fun hf => hf)⟩
        rintro rv1 ⟨ra1, ra2, ra3, rfl⟩
        simp only [Act.put, List.setIfInBounds_toArray, List.set_cons_succ, List.set_cons_zero]
        refine tLex_quiets 1 rfl (by kernel_rfl) ?_
        simp only [List.take_succ_cons, List.take_zero, List.drop_succ_cons, List.drop_zero]
        apply Exists.intro
        refine ⟨?hq2, ?hv2, ?ht2⟩
        case hq2 =>
          intro V hV
          refine wpQuiet_ld rfl _ _ rfl g23 0 rfl (dcs R1 vy byy) (fun w1 hw => row_grown ((HP23.out.kept hV (fun hf => hf)).all) hw) _ Try.underlying33 rfl (infDh _ HRO.out.s6 _ _) ?_; simp only [Act.put, List.setIfInBounds_toArray, List.set_cons_succ, List.set_cons_zero]
          exact wpQuiet_nil rfl
        case hv2 => exact ⟨trivial, trivial⟩
        case ht2 =>
        refine tLex_act 10 #[dhv R1 vy byy] (fun u => ?he2) rfl rfl (rfv nilv nilv nilv) ⟨nilv, nilv, nilv, rfl⟩ ?hc2 ?_
        case he2 => simp [execOp, go_sem]; rfl
        case hc2 =>
          intro D u hu hI hdd
          refine (of_yes (fun _ => True) R1 vy byy u (HIS.out.nil hu) (by have := HOS.out; omega)).mono ?_
          rintro e w' ⟨rb1, rb2, rb3, rfl, hr, hk⟩
          exact ⟨_, rfl, ⟨rb1, rb2, rb3, rfl⟩, hu.trans hk (fun _ _ hf => hf.elim), actI_snoc (ofG_keeps R1) hI hk 1 rfl (fun _ => ⟨rb1, rb2, rb3, rfl, hr⟩), hk.size, fun k hk' hlt => hk.block k hlt (fun hf => hf)⟩
        rintro rv2 ⟨rb1, rb2, rb3, rfl⟩
        simp only [Act.put, List.setIfInBounds_toArray, List.set_cons_succ, List.set_cons_zero]
        refine tLex_act 9 #[rfv ra1 ra2 ra3, rfv rb1 rb2 rb3] (fun u => ?he3) rfl rfl (.bool true) rfl ?hc3 ?_
        case he3 => simp [execOp, go_sem]
        case hc3 =>
          intro D u hu hI hdd
          obtain ⟨x1, x2, x3, ex, hx⟩ := hI 0 _ rfl (by decide)
          obtain ⟨y1, y2, y3, ey, hy⟩ := hI 1 _ rfl (by decide)
          obtain ⟨rfl, rfl, rfl⟩ := rfv_inj ex
          obtain ⟨rfl, rfl, rfl⟩ := rfv_inj ey
          refine (same_yes R1 _ _ _ _ _ _ u hx hy).mono ?_
          rintro e w' ⟨rfl, hk⟩
          exact ⟨_, rfl, rfl, hu.trans hk (fun _ _ hf => hf.elim), actI_snoc (ofG_keeps R1) hI hk 2 rfl (fun h => absurd h (by decide)), hk.size, fun k hk' hlt => hk.block k hlt (fun hf => hf)⟩
        rintro rv3 hv3
        have hv3 : rv3 = .bool true := hv3
        subst hv3
        simp only [Act.put, List.setIfInBounds_toArray, List.set_cons_succ, List.set_cons_zero]
        refine tLex_quiets 4 rfl (by kernel_rfl) ?_
        simp only [List.take_succ_cons, List.take_zero, List.drop_succ_cons, List.drop_zero]
        apply Exists.intro
        refine ⟨?hq3, ?hv3, ?ht3⟩
        case hq3 =>
          intro V hV
          clear hV
          go_big_quiet_step (fail)
          go_big_quiet_step (fail)
          go_big_quiet_step (exact quietK (wakes_yes _))
          go_big_quiet_step (fail)
          exact wpQuiet_nil rfl
        case hv3 => exact ⟨trivial, trivial, rfl, trivial, trivial⟩
        case ht3 =>
        intro w27 hs
        have HKZ := Lib.hid (HK.out.then (show Kept Nil w26 w27 from hs.kept.mono (fun _ _ hf => hf)))
        clear hs
        go_wp2
        go_ret
        exact ⟨rfl, HKZ.out.below (Nat.le_refl _) (fun _ hf => hf.elim)⟩
      · obtain ⟨-, h45⟩ : R1 = Dh.zero ∧ (R2 = 4 ∨ R2 = 5) := by
          rcases HERR.out with h | h
          · exact absurd h hr
          · exact h
        clear hr HMAY HERR
        rcases h45 with rfl | rfl
        all_goals
          go_wp2_with (fail)
          refine (wakes_yes _).mono ?_
          rintro e w24 ⟨rfl, hk⟩
          have HK := Lib.hid (HK.out.then hk)
          clear hk
          dsimp only
          go_wp2_with (fail)
          go_ret
          exact ⟨rfl, HK.out.below (Nat.le_refl _) (fun _ hf => hf.elim)⟩
end Go.Proofs.Ythjfeanmgaidcaa
