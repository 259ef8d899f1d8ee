/- Package internal/strconv: ftoa64 at the values that the examples meet. -/
import Derived.Test.YtiehmpiaddjhiaaDoorRaG
import Derived.Test.YtiehmpiaddjhiaaDoorRaH
import Derived.Test.YtiehmpiaddjhiaaDoorMg6
namespace Go.Proofs.YtiehmpiaddjhiaaDoor
open Go.RowKit Go.Sort
set_option linter.unusedVariables false

theorem tab_keptR {w w' : World} {nm : String} {k : IntKind} {zs : List Int} (h : Lib.TabIs Tryd.prog w nm k zs) (q : Kept Nil w w') : Lib.TabIs Tryd.prog w' nm k zs := by
  unfold Lib.TabIs World.var? at h ⊢
  cases hg : Tryd.prog.globalNamed nm with
  | none => rw [hg] at h; cases h
  | some g =>
    rw [hg] at h
    simp only [Option.bind_some] at h ⊢
    have hl : g < w.heap.size := by
      rcases Nat.lt_or_ge g w.heap.size with h1 | h1
      · exact h1
      · rw [Array.getElem?_eq_none h1] at h
        cases h
    rw [q.block g hl (fun hf => hf)]
    exact h
/-- What a text of a rate reads of the variables. -/
structure GlF (w : World) : Prop where
  t10 : Lib.TabIs Tryd.prog w "internal/strconv.uint64pow10" .u64 Lib.pow10Tab
  pa : p10a w
  pb : p10b w
theorem GlF.kept {w w' : World} (h : GlF w) (k : Kept Nil w w') : GlF w' := ⟨tab_keptR h.t10 k, h.pa.kept k (fun hf => hf), h.pb.kept k (fun hf => hf)⟩
/-- The buffer, as the region that lays the digits finds and leaves it. -/
def bufI (g : Nat) (w0 : World) (D : Nat → Prop) (s : List Value) (u : World) : Prop := (∀ k, D k → k ≠ g) ∧ g < u.heap.size ∧ (s = [] → Blo u g 76 z32) ∧ (s ≠ [] → u.cell? ⟨g, 0, none⟩ = some (.int .u8 49)) ∧ Kept (One g) w0 u
theorem bufI_keeps (g : Nat) (w0 : World) : Keeps (bufI g w0) where
  quiet := fun D s u u' ⟨h1, h2, h3, h4, h5⟩ k => ⟨h1, Nat.lt_of_lt_of_le h2 k.size, fun e => (h3 e).kept k (fun hf => hf), fun e => k.cell (h4 e) (fun hf => hf), h5.then k⟩
  make := fun D s u o ⟨h1, h2, h3, h4, h5⟩ => ⟨fun k hk => by
      rcases hk with hk | rfl
      · exact h1 k hk
      · omega, by simp; omega, fun e => (h3 e).alloc o, fun e => ((Kept.refl Nil u).alloc o).cell (h4 e) (fun hf => hf), h5.alloc o⟩
theorem tab_keptF {F : Nat → Prop} {w w' : World} {k : IntKind} {zs : List Int} (h : Lib.TabIs Tryd.prog w "internal/strconv.uint64pow10" k zs) (q : Kept F w w') (hF : ¬ F 3) : Lib.TabIs Tryd.prog w' "internal/strconv.uint64pow10" k zs := by
  unfold Lib.TabIs World.var? at h ⊢
  rw [show Tryd.prog.globalNamed "internal/strconv.uint64pow10" = some 3 by kernel_rfl] at h ⊢
  simp only [Option.bind_some] at h ⊢
  have hl : 3 < w.heap.size := by
    rcases Nat.lt_or_ge 3 w.heap.size with h1 | h1
    · exact h1
    · rw [Array.getElem?_eq_none h1] at h
      cases h
  rw [q.block 3 hl hF]
  exact h
theorem tab_lt {w : World} {k : IntKind} {zs : List Int} (h : Lib.TabIs Tryd.prog w "internal/strconv.uint64pow10" k zs) : 3 < w.heap.size := by
  unfold Lib.TabIs World.var? at h
  rw [show Tryd.prog.globalNamed "internal/strconv.uint64pow10" = some 3 by kernel_rfl] at h
  simp only [Option.bind_some] at h
  rcases Nat.lt_or_ge 3 w.heap.size with h1 | h1
  · exact h1
  · rw [Array.getElem?_eq_none h1] at h
    cases h
theorem nd_16k (w : World) (htab : Lib.TabIs Tryd.prog w "internal/strconv.uint64pow10" .u64 Lib.pow10Tab) : Calls Tryd.prog 50 #[.int .u64 1000000000000000] w fun e w' => e = .returned (.int .i64 16) ∧ Kept Nil w w' := by
  refine (nd_16 w htab).mono ?_
  rintro e w' ⟨rfl, rfl⟩
  exact ⟨rfl, Kept.refl _ _⟩
theorem own_lt' {w : World} {B e size n : Nat} {v : Value} {xs : List Value} (h : w.ownsRow B e size v n xs) : ∀ i, v.ownBlock = some i → i < w.heap.size := fun i hi => (h.lt i hi).2
theorem len_a (w : World) : Calls Tryd.prog 47 #[.int .u64 7205759403792794] w fun e w' => e = .returned (.int .i64 53) ∧ w' = w := by
  have h := Tryd.bits_Len64 7205759403792794 w (by decide) (by decide)
  rw [show Lib.bitLen (7205759403792794 : Int).toNat = 53 from by decide +kernel] at h
  exact h
set_option maxRecDepth 100000 in
set_option maxHeartbeats 8000000 in
theorem ftoa_a (B : Nat) (v0 : Value) (w : World) (hg : GlF w) (ho : w.ownsRow B 5 1 v0 0 (bys [])) (hB : B ≤ w.heap.size) : Calls Tryd.prog 41 #[v0, .float .f64 4591870180066957722, .int .u8 102, .int .i64 (-1)] w fun e w' => ∃ v, e = .returned v ∧ w'.ownsRow B 5 1 v 3 (bys [48, 46, 49]) ∧ Kept (fun k => B ≤ k) w w' := by
  have cf : ∀ w, (callFunc 43 #[.float .f64 4591870180066957722]).run Tryd.prog w = .ok (.value (.int .u64 4591870180066957722)) w := fun w => by kernel_rfl
  have f1 : ∀ w, (Op.shift .shr .u64 4591870180066957722 .i64 63).run Tryd.prog w = .ok (.int .u64 0) w := fun w => by kernel_rfl
  have f2 : ∀ w, (Op.shift .shr .u64 4591870180066957722 .i64 52).run Tryd.prog w = .ok (.int .u64 1019) w := fun w => by kernel_rfl
  have f3 : ∀ w, (Op.shift .shl .i64 1 .i64 11).run Tryd.prog w = .ok (.int .i64 2048) w := fun w => by kernel_rfl
  have f4 : bits .and .i64 1019 2047 = 1019 := by kernel_rfl
  have f5 : ∀ w, (Op.shift .shl .u64 1 .i64 52).run Tryd.prog w = .ok (.int .u64 4503599627370496) w := fun w => by kernel_rfl
  have f6 : bits .and .u64 4591870180066957722 4503599627370495 = 2702159776422298 := by kernel_rfl
  have f7 : bits .or .u64 2702159776422298 4503599627370496 = 7205759403792794 := by kernel_rfl
  have f8 : ∀ w, (Op.shift .shl .u64 7205759403792794 .i64 11).run Tryd.prog w = .ok (.int .u64 14757395258967642112) w := fun w => by kernel_rfl
  have HG := Lib.hid hg
  have HO := Lib.hid ho
  have HB := Lib.hid hB
  clear hg ho hB
  go_enter Tryd.func41, Tryd.ntmps41
  go_upto_region 14 with (fail)
  refine wp_region_quiet_below (by kernel_rfl) (by kernel_rfl) ?_
  repeat (go_big_quiet_step (fail))
  refine wpQuiet_nil ?_
  rintro w1 ⟨nq, hw⟩
  have hk : Kept Nil w w1 := by rw [hw]; exact kept_grown _ _
  have HG := Lib.hid (HG.out.kept hk)
  have HO := Lib.hid (own_kept HO.out hk (fun _ _ hf => hf))
  have HB := Lib.hid (Nat.le_trans HB.out hk.size)
  have HK := Lib.hid hk
  clear hk hw
  have hz := Blo.new w1 76 z32
  have hka := (Kept.refl Nil w1).alloc (.cells z32 76)
  go_upto_region 34 with (fail)
  refine wp_nameE (fun X => Blo X w1.heap.size 76 z32 ∧ Kept Nil w1 X) ⟨hz, hka⟩ ?_
  clear hz hka
  rintro w2 ⟨hz, hka⟩
  have HFAR := Lib.hid (fun i hi => own_lt' HO.out i hi)
  have HZ := Lib.hid hz
  have HGT := Lib.hid (show ¬ (One w1.heap.size) 3 from fun hf => by have h1 := tab_lt HG.out.t10; have h2 : 3 = w1.heap.size := hf; rw [h2] at h1; exact absurd h1 (by have := hz.lt; have := hka.size; omega))
  have HL := Lib.hid (show w.heap.size ≤ w1.heap.size from HK.out.size)
  have HG := Lib.hid (HG.out.kept hka)
  have HO := Lib.hid (own_kept HO.out hka (fun _ _ hf => hf))
  have HB := Lib.hid (Nat.le_trans HB.out hka.size)
  have HK := Lib.hid (HK.out.then hka)
  obtain ⟨g, hgg⟩ : ∃ g, w1.heap.size = g := ⟨_, rfl⟩
  rw [hgg] at HFAR HL HZ HGT ⊢
  clear hz hka hgg
  go_wp2_with (fail)
  refine (len_a _).mono ?_
  rintro e w3 ⟨rfl, rfl⟩
  dsimp only
  go_upto_region 37 with (fail)
  go_wp2_with (fail)
  refine (short_a _ HG.out.pa).mono ?_
  rintro e w4 ⟨rfl, hk⟩
  have HZ := Lib.hid (HZ.out.kept hk (fun hf => hf))
  have HG := Lib.hid (HG.out.kept hk)
  have HO := Lib.hid (own_kept HO.out hk (fun _ _ hf => hf))
  have HB := Lib.hid (Nat.le_trans HB.out hk.size)
  have HK := Lib.hid (HK.out.then hk)
  clear hk
  dsimp only
  go_upto_region 38 with (fail)
  refine wp_region_acts (One g) [5] (fun i vl => (#[], 0)) (fun i => .int .i64 16) (bufI g w4) (fun i v => v = .tuple #[.int .i64 0, .int .i64 1]) 11 (by kernel_rfl) (by kernel_rfl) (bufI_keeps g w4) ⟨fun k h => h.elim, HZ.out.lt, fun _ => HZ.out, fun h => absurd rfl h, Kept.refl _ _⟩ ?_
  simp only [List.take_succ_cons, List.take_zero, List.drop_succ_cons, List.drop_zero]
  refine tLex_quiets 5 rfl (by kernel_rfl) ?_
  simp only [List.take_succ_cons, List.take_zero, List.drop_succ_cons, List.drop_zero]
  apply Exists.intro
  refine ⟨?hq1, ?hv1, ?ht1⟩
  case hq1 =>
    intro V hV
    have htv := tab_keptF HG.out.t10 hV HGT.out
    have hnd := fun d os => nd_16k (grow (redrawn V d) os) (tab_keptR htv (kept_grown' V d os))
    clear hV htv
    go_big_quiet_step (fail)
    go_big_quiet_step (fail)
    go_big_quiet_step (fail)
    go_big_quiet_step (fail)
    go_big_quiet_step (exact quietK (hnd _ _))
    exact wpQuiet_nil rfl
  case hv1 => exact ⟨trivial, trivial, trivial, trivial, rfl, trivial⟩
  case ht1 =>
  refine tLex_act 49 #[.slice (some ⟨g, 0, none⟩) 32 32, .int .u64 1000000000000000, .int .i64 (-16), .int .i64 16] (fun u => ?he1) rfl rfl _ rfl ?hc1 ?_
  case he1 => simp [execOp, go_sem]
  case hc1 =>
    intro D u hu hI hdd
    obtain ⟨h1, h2, h3, h4, h5⟩ := hI
    refine (sd_n (-16) 0 (by decide) g u (h3 rfl)).mono ?_
    rintro e w' ⟨rfl, hc, hk⟩
    exact ⟨_, rfl, rfl, hu.trans hk (fun _ _ hf => hf), ⟨h1, Nat.lt_of_lt_of_le h2 hk.size, fun e => by simp at e, fun _ => hc, h5.trans hk (fun _ _ hf => hf)⟩, hk.size, fun k hk' hlt => hk.block k hlt (fun hf => h1 k hk' hf)⟩
  rintro rv1 rfl
  simp only [Act.put, List.setIfInBounds_toArray, List.set_cons_succ, List.set_cons_zero]
  refine tLex_quiets 5 rfl (by kernel_rfl) ?_
  simp only [List.take_succ_cons, List.take_zero, List.drop_succ_cons, List.drop_zero]
  apply Exists.intro
  refine ⟨?hq2, ?hv2, ?ht2⟩
  case hq2 =>
    intro V hV
    clear hV
    repeat (go_big_quiet_step (fail))
    exact wpQuiet_nil rfl
  case hv2 => exact ⟨trivial, trivial, trivial, trivial, trivial, trivial⟩
  case ht2 =>
  intro w5 hs
  obtain ⟨_, _, _, hc, hk⟩ := hs.know
  have HC := Lib.hid (hc (by simp))
  have HB := Lib.hid (Nat.le_trans HB.out hk.size)
  have HO := Lib.hid (own_kept HO.out hk (fun i hi hf => by have := HFAR.out i hi; cases hf; omega))
  have HFR := Lib.hid (fun i (hi : v0.ownBlock = some i) => (show i ≠ g by have := HFAR.out i hi; omega))
  have HK := Lib.hid (HK.out.fresh hk (fun i hi => by have := HL.out; cases hi; omega))
  clear hs hc hk HZ HG
  have m1 : max ((1 : Int) - 0) 0 = 1 := by decide
  have m2 : max (1 : Int) 0 = 1 := by decide
  go_upto_region 48 with (fail)
  go_wp2_with (fail)
  refine (efg_a B g v0 _ ⟨HO.out, Kept.refl _ _, HFR.out, HC.out, HB.out⟩).mono ?_
  rintro e w6 ⟨v, rfl, hn, hk⟩
  have HN := Lib.hid hn
  have HK := Lib.hid (HK.out.nil.trans hk (fun _ _ hf => hf) : Kept (fun k => B ≤ k) w w6)
  clear hn hk
  dsimp only
  go_wp2_with (fail)
  go_ret
  exact ⟨_, rfl, HN.out, HK.out⟩
theorem len_b (w : World) : Calls Tryd.prog 47 #[.int .u64 7629394531250000] w fun e w' => e = .returned (.int .i64 53) ∧ w' = w := by
  have h := Tryd.bits_Len64 7629394531250000 w (by decide) (by decide)
  rw [show Lib.bitLen (7629394531250000 : Int).toNat = 53 from by decide +kernel] at h
  exact h
set_option maxRecDepth 100000 in
set_option maxHeartbeats 8000000 in
theorem ftoa_b (B : Nat) (v0 : Value) (w : World) (hg : GlF w) (ho : w.ownsRow B 5 1 v0 0 (bys [])) (hB : B ≤ w.heap.size) : Calls Tryd.prog 41 #[v0, .float .f64 4921056587992461136, .int .u8 102, .int .i64 (-1)] w fun e w' => ∃ v, e = .returned v ∧ w'.ownsRow B 5 1 v 22 (bys e21) ∧ Kept (fun k => B ≤ k) w w' := by
  have cf : ∀ w, (callFunc 43 #[.float .f64 4921056587992461136]).run Tryd.prog w = .ok (.value (.int .u64 4921056587992461136)) w := fun w => by kernel_rfl
  have f1 : ∀ w, (Op.shift .shr .u64 4921056587992461136 .i64 63).run Tryd.prog w = .ok (.int .u64 0) w := fun w => by kernel_rfl
  have f2 : ∀ w, (Op.shift .shr .u64 4921056587992461136 .i64 52).run Tryd.prog w = .ok (.int .u64 1092) w := fun w => by kernel_rfl
  have f3 : ∀ w, (Op.shift .shl .i64 1 .i64 11).run Tryd.prog w = .ok (.int .i64 2048) w := fun w => by kernel_rfl
  have f4 : bits .and .i64 1092 2047 = 1092 := by kernel_rfl
  have f5 : ∀ w, (Op.shift .shl .u64 1 .i64 52).run Tryd.prog w = .ok (.int .u64 4503599627370496) w := fun w => by kernel_rfl
  have f6 : bits .and .u64 4921056587992461136 4503599627370495 = 3125794903879504 := by kernel_rfl
  have f7 : bits .or .u64 3125794903879504 4503599627370496 = 7629394531250000 := by kernel_rfl
  have f8 : ∀ w, (Op.shift .shl .u64 7629394531250000 .i64 11).run Tryd.prog w = .ok (.int .u64 15625000000000000000) w := fun w => by kernel_rfl
  have HG := Lib.hid hg
  have HO := Lib.hid ho
  have HB := Lib.hid hB
  clear hg ho hB
  go_enter Tryd.func41, Tryd.ntmps41
  go_upto_region 14 with (fail)
  refine wp_region_quiet_below (by kernel_rfl) (by kernel_rfl) ?_
  repeat (go_big_quiet_step (fail))
  refine wpQuiet_nil ?_
  rintro w1 ⟨nq, hw⟩
  have hk : Kept Nil w w1 := by rw [hw]; exact kept_grown _ _
  have HG := Lib.hid (HG.out.kept hk)
  have HO := Lib.hid (own_kept HO.out hk (fun _ _ hf => hf))
  have HB := Lib.hid (Nat.le_trans HB.out hk.size)
  have HK := Lib.hid hk
  clear hk hw
  have hz := Blo.new w1 76 z32
  have hka := (Kept.refl Nil w1).alloc (.cells z32 76)
  go_upto_region 34 with (fail)
  refine wp_nameE (fun X => Blo X w1.heap.size 76 z32 ∧ Kept Nil w1 X) ⟨hz, hka⟩ ?_
  clear hz hka
  rintro w2 ⟨hz, hka⟩
  have HFAR := Lib.hid (fun i hi => own_lt' HO.out i hi)
  have HZ := Lib.hid hz
  have HGT := Lib.hid (show ¬ (One w1.heap.size) 3 from fun hf => by have h1 := tab_lt HG.out.t10; have h2 : 3 = w1.heap.size := hf; rw [h2] at h1; exact absurd h1 (by have := hz.lt; have := hka.size; omega))
  have HL := Lib.hid (show w.heap.size ≤ w1.heap.size from HK.out.size)
  have HG := Lib.hid (HG.out.kept hka)
  have HO := Lib.hid (own_kept HO.out hka (fun _ _ hf => hf))
  have HB := Lib.hid (Nat.le_trans HB.out hka.size)
  have HK := Lib.hid (HK.out.then hka)
  obtain ⟨g, hgg⟩ : ∃ g, w1.heap.size = g := ⟨_, rfl⟩
  rw [hgg] at HFAR HL HZ HGT ⊢
  clear hz hka hgg
  go_wp2_with (fail)
  refine (len_b _).mono ?_
  rintro e w3 ⟨rfl, rfl⟩
  dsimp only
  go_upto_region 37 with (fail)
  go_wp2_with (fail)
  refine (short_b _ HG.out.pb).mono ?_
  rintro e w4 ⟨rfl, hk⟩
  have HZ := Lib.hid (HZ.out.kept hk (fun hf => hf))
  have HG := Lib.hid (HG.out.kept hk)
  have HO := Lib.hid (own_kept HO.out hk (fun _ _ hf => hf))
  have HB := Lib.hid (Nat.le_trans HB.out hk.size)
  have HK := Lib.hid (HK.out.then hk)
  clear hk
  dsimp only
  go_upto_region 38 with (fail)
  refine wp_region_acts (One g) [5] (fun i vl => (#[], 0)) (fun i => .int .i64 16) (bufI g w4) (fun i v => v = .tuple #[.int .i64 22, .int .i64 1]) 11 (by kernel_rfl) (by kernel_rfl) (bufI_keeps g w4) ⟨fun k h => h.elim, HZ.out.lt, fun _ => HZ.out, fun h => absurd rfl h, Kept.refl _ _⟩ ?_
  simp only [List.take_succ_cons, List.take_zero, List.drop_succ_cons, List.drop_zero]
  refine tLex_quiets 5 rfl (by kernel_rfl) ?_
  simp only [List.take_succ_cons, List.take_zero, List.drop_succ_cons, List.drop_zero]
  apply Exists.intro
  refine ⟨?hq1, ?hv1, ?ht1⟩
  case hq1 =>
    intro V hV
    have htv := tab_keptF HG.out.t10 hV HGT.out
    have hnd := fun d os => nd_16k (grow (redrawn V d) os) (tab_keptR htv (kept_grown' V d os))
    clear hV htv
    go_big_quiet_step (fail)
    go_big_quiet_step (fail)
    go_big_quiet_step (fail)
    go_big_quiet_step (fail)
    go_big_quiet_step (exact quietK (hnd _ _))
    exact wpQuiet_nil rfl
  case hv1 => exact ⟨trivial, trivial, trivial, trivial, rfl, trivial⟩
  case ht1 =>
  refine tLex_act 49 #[.slice (some ⟨g, 0, none⟩) 32 32, .int .u64 1000000000000000, .int .i64 6, .int .i64 16] (fun u => ?he1) rfl rfl _ rfl ?hc1 ?_
  case he1 => simp [execOp, go_sem]
  case hc1 =>
    intro D u hu hI hdd
    obtain ⟨h1, h2, h3, h4, h5⟩ := hI
    refine (sd_n 6 22 (by decide) g u (h3 rfl)).mono ?_
    rintro e w' ⟨rfl, hc, hk⟩
    exact ⟨_, rfl, rfl, hu.trans hk (fun _ _ hf => hf), ⟨h1, Nat.lt_of_lt_of_le h2 hk.size, fun e => by simp at e, fun _ => hc, h5.trans hk (fun _ _ hf => hf)⟩, hk.size, fun k hk' hlt => hk.block k hlt (fun hf => h1 k hk' hf)⟩
  rintro rv1 rfl
  simp only [Act.put, List.setIfInBounds_toArray, List.set_cons_succ, List.set_cons_zero]
  refine tLex_quiets 5 rfl (by kernel_rfl) ?_
  simp only [List.take_succ_cons, List.take_zero, List.drop_succ_cons, List.drop_zero]
  apply Exists.intro
  refine ⟨?hq2, ?hv2, ?ht2⟩
  case hq2 =>
    intro V hV
    clear hV
    repeat (go_big_quiet_step (fail))
    exact wpQuiet_nil rfl
  case hv2 => exact ⟨trivial, trivial, trivial, trivial, trivial, trivial⟩
  case ht2 =>
  intro w5 hs
  obtain ⟨_, _, _, hc, hk⟩ := hs.know
  have HC := Lib.hid (hc (by simp))
  have HB := Lib.hid (Nat.le_trans HB.out hk.size)
  have HO := Lib.hid (own_kept HO.out hk (fun i hi hf => by have := HFAR.out i hi; cases hf; omega))
  have HFR := Lib.hid (fun i (hi : v0.ownBlock = some i) => (show i ≠ g by have := HFAR.out i hi; omega))
  have HK := Lib.hid (HK.out.fresh hk (fun i hi => by have := HL.out; cases hi; omega))
  clear hs hc hk HZ HG
  have m1 : max ((1 : Int) - 22) 0 = 0 := by decide
  have m2 : max (-21 : Int) 0 = 0 := by decide
  go_upto_region 48 with (fail)
  go_wp2_with (fail)
  refine (efg_b B g v0 _ ⟨HO.out, Kept.refl _ _, HFR.out, HC.out, HB.out⟩).mono ?_
  rintro e w6 ⟨v, rfl, hn, hk⟩
  have HN := Lib.hid hn
  have HK := Lib.hid (HK.out.nil.trans hk (fun _ _ hf => hf) : Kept (fun k => B ≤ k) w w6)
  clear hn hk
  dsimp only
  go_wp2_with (fail)
  go_ret
  exact ⟨_, rfl, HN.out, HK.out⟩
end Go.Proofs.YtiehmpiaddjhiaaDoor
