/- Texts that belong together, one behind the other: EthP, EthQ. Conditions: those of each. -/
import Derived.Test.YthjfeanmgaidcaaEthW
import Derived.Test.YthjfeanmgaidcaaMg25
/- Package ether: contracts of typeIsTag and mayCarry. -/
namespace Go.Proofs.Ythjfeanmgaidcaa
open Go.RowKit Go.Sort
set_option linter.unusedVariables false

/-- A frame that a call is handed, as plain data. -/
structure FrIn (w : World) (f : Fr) (vt vb vr : Value) : Prop where
  ok : f.ok
  t : ∃ A n c, vt = .slice A n c ∧ Tags w A n c f.t
  b : ∃ A n c, vb = .slice A n c ∧ Byt w A n c f.b
  r : ∃ A n c, vr = .slice A n c ∧ Byt w A n c f.r
  tn : f.t.length ≤ 1000
  bn : f.b.length ≤ 1000000
  rn : f.r.length ≤ 1000000
theorem FrIn.kept {w w' : World} {f : Fr} {vt vb vr : Value} (h : FrIn w f vt vb vr) (k : Kept Nil w w') : FrIn w' f vt vb vr := by
  obtain ⟨h0, ⟨A, n, c, e, ht⟩, ⟨A1, n1, c1, e1, hb⟩, ⟨A2, n2, c2, e2, hr⟩, h1, h2, h3⟩ := h
  exact ⟨h0, ⟨A, n, c, e, ht.kept k (fun _ _ hf => hf)⟩, ⟨A1, n1, c1, e1, hb.kept k (fun _ _ hf => hf)⟩, ⟨A2, n2, c2, e2, hr.kept k (fun _ _ hf => hf)⟩, h1, h2, h3⟩
theorem may_snoc (t : List Tg) (m : Nat) (h : mayL t = true) (hm : m < 65536) : mayL (t ++ [⟨m, 0, false, 0⟩]) = standM m (t.length : Int) := by
  have := mayFrom_take (t ++ [⟨m, 0, false, 0⟩]) 0 t.length (by simp)
  rw [List.take_of_length_le (by simp)] at this
  unfold mayL at h ⊢
  rw [this, show (t ++ [(⟨m, 0, false, 0⟩ : Tg)]).take t.length = t by simp, h, Bool.true_and]
  simp only [List.getElem_append_right, Nat.le_refl, Nat.sub_self, List.getElem_cons_zero, Nat.zero_add]
  cases hs : standM m (t.length : Int)
  · rw [Bool.and_false]
  · rw [Bool.and_true]
    have := stand_kind hs
    simp at this
    rw [mayT_iff]
    exact ⟨this, by simp, by simp⟩
set_option maxRecDepth 100000 in
set_option maxHeartbeats 1000000 in
theorem typeIsTag_yes (f : Fr) (vt vb vr : Value) (m : Nat) (hm : m < 65536) (hy : f.y = (m : Int)) (w : World) (h : FrIn w f vt vb vr) (hmay : mayL f.t = true) :
    Calls Try.prog 71 #[frv f vt vb vr] w fun e w' => e = .returned (.bool (standM m (f.t.length : Int))) ∧ Kept Nil w w' := by
  have hF := FB.new w 57 f vt vb vr
  have hk := (Kept.refl Nil w).alloc (.cells (fcs f vt vb vr).toArray 57)
  obtain ⟨A, n, c, rfl, ht⟩ := h.t
  have hlen := ht.len
  have hms := may_snoc f.t m hmay hm
  have hok : (⟨m, 0, false, 0⟩ : Tg).ok := ⟨hm, by simp, by simp⟩
  have HF := Lib.hid hF
  have HK := Lib.hid hk
  have HT := Lib.hid (ht.kept hk (fun _ _ hf => hf))
  have HSIX := Lib.hid h.ok.six
  have HTN := Lib.hid h.tn
  have HLEN := Lib.hid hlen
  have HMS := Lib.hid hms
  have HOK := Lib.hid hok
  have HY := Lib.hid hy
  clear hF hk h ht hlen hms hok hmay hy
  go_enter Try.func71, Try.ntmps71
  go_upto_region 1 with (fail)
  refine wp_nameE (fun W => FB W w.heap.size 57 f (.slice A n c) vb vr ∧ Kept Nil w W ∧ Tags W A n c f.t) ⟨HF.out, HK.out, HT.out⟩ ?_
  clear HF HK HT
  rintro W ⟨hF, hk, ht⟩
  have c12 := hF.ct HSIX.out
  have c14 := hF.cy HSIX.out
  rw [HY.out] at c14
  have hw : IntKind.wrap .u16 (m : Int) = (m : Int) := by rw [IntKind.wrap_u16]; omega
  have hlit := Rws.lit (s := 4) W ([(⟨m, 0, false, 0⟩ : Tg)].map tgc) 67 (tgc_len _) (by simp) #[.int .u16 (m : Int), .int .u8 0, .bool false, .int .u16 0] rfl 1 rfl W.heap.size rfl
  have hB := Blo.new (W.alloc (.cells #[.int .u16 (m : Int), .int .u8 0, .bool false, .int .u16 0] 67)) 54 #[.slice A n c, .slice (some ⟨W.heap.size, 0, none⟩) 1 1]
  have hk1 : Kept Nil W ((W.alloc (.cells #[.int .u16 (m : Int), .int .u8 0, .bool false, .int .u16 0] 67)).alloc (.cells #[.slice A n c, .slice (some ⟨W.heap.size, 0, none⟩) 1 1] 54)) := ((Kept.refl Nil W).alloc _).alloc _
  have HB := Lib.hid hB
  have HK1 := Lib.hid hk1
  have HLIT := Lib.hid (show Tags ((W.alloc (.cells #[.int .u16 (m : Int), .int .u8 0, .bool false, .int .u16 0] 67)).alloc (.cells #[.slice A n c, .slice (some ⟨W.heap.size, 0, none⟩) 1 1] 54)) (some ⟨W.heap.size, 0, none⟩) 1 1 [⟨m, 0, false, 0⟩] from ⟨hlit.kept ((Kept.refl Nil _).alloc _) (fun _ _ hf => hf), by intro t ht; simp at ht; subst ht; exact HOK.out⟩)
  have HT := Lib.hid (ht.kept hk1 (fun _ _ hf => hf))
  have HK := Lib.hid hk
  clear hF hk ht hlit hB hk1
  go_wp2_with fail
  have hz : (W.alloc (.cells #[.int .u16 (m : Int), .int .u8 0, .bool false, .int .u16 0] 67)).heap.size = W.heap.size + 1 := by simp
  rw [hz] at HB
  refine (concat_t (W.heap.size + 1) 2 54 [.slice A n c, .slice (some ⟨W.heap.size, 0, none⟩) 1 1] [f.t, [⟨m, 0, false, 0⟩]] _ HB.out rfl rfl (by decide) ?_ (by have := HTN.out; simp; omega)).mono ?_
  · intro i h1 h2
    match i, h1 with
    | 0, _ => exact ⟨_, _, _, rfl, HT.out⟩
    | 1, _ => exact ⟨_, _, _, rfl, HLIT.out⟩
  rintro e w1 ⟨v, rfl, hmd⟩
  rw [show [f.t, [(⟨m, 0, false, 0⟩ : Tg)]].flatten = f.t ++ [⟨m, 0, false, 0⟩] by simp] at hmd
  have hall : ∀ x ∈ f.t ++ [(⟨m, 0, false, 0⟩ : Tg)], x.ok := by
    intro x hx
    rcases List.mem_append.1 hx with hx | hx
    · exact HT.out.2 x hx
    · simp at hx; subst hx; exact HOK.out
  generalize f.t ++ [(⟨m, 0, false, 0⟩ : Tg)] = L at *
  obtain ⟨A1, c1, rfl, ht1, _⟩ := Tags.of_own hmd.1 hall
  obtain ⟨q, hq⟩ : ∃ q, L.length = q := ⟨_, rfl⟩
  rw [hq] at ht1 ⊢
  clear hq hall
  have HK2 := Lib.hid ((HK.out.then HK1.out).then hmd.2)
  have HT1 := Lib.hid ht1
  clear hmd ht1 hz
  go_wp2_with fail
  refine (may_yes _ _ _ _ _ HT1.out).mono ?_
  rintro e w2 ⟨rfl, hk2⟩
  rw [HMS.out]
  have HK3 := Lib.hid (HK2.out.then hk2)
  clear hk2
  go_wp2
  go_ret
  exact ⟨rfl, HK3.out⟩
end Go.Proofs.Ythjfeanmgaidcaa
/- Package ether: contract of mayCarry. -/
namespace Go.Proofs.Ythjfeanmgaidcaa
open Go.RowKit Go.Sort
set_option linter.unusedVariables false

set_option maxRecDepth 100000 in
set_option maxHeartbeats 4000000 in
theorem mayCarry_yes (f : Fr) (vt vb vr : Value) (w : World) (h : FrIn w f vt vb vr) (hmay : mayL f.t = true) :
    Calls Try.prog 47 #[frv f vt vb vr] w fun e w' => e = .returned (.bool (carryM f)) ∧ Kept Nil w w' := by
  have hF := FB.new w 57 f vt vb vr
  have hk := (Kept.refl Nil w).alloc (.cells (fcs f vt vb vr).toArray 57)
  have HF := Lib.hid hF
  have HK := Lib.hid hk
  have HI := Lib.hid (h.kept hk)
  have hok := h.ok
  have HMAY := Lib.hid hmay
  clear hF hk h hmay
  obtain ⟨d, s, t, k, y, l, o, b, r⟩ := f
  have HSIX := Lib.hid hok.six
  have hkr := hok.k
  have hyr := hok.y
  simp only at hkr hyr
  have HL := Lib.hid (show l.length = 3 from hok.l)
  have HO := Lib.hid (show o.length = 3 from hok.o)
  clear hok
  go_enter Try.func47, Try.ntmps47
  go_upto_region 1 with (fail)
  refine wp_nameE (fun W => FB W w.heap.size 57 ⟨d, s, t, k, y, l, o, b, r⟩ vt vb vr ∧ Kept Nil w W ∧ FrIn W ⟨d, s, t, k, y, l, o, b, r⟩ vt vb vr) ⟨HF.out, HK.out, HI.out⟩ ?_
  clear HF HK HI
  rintro W ⟨hF, hk, hi⟩
  have c13 := hF.ck HSIX.out
  have c14 := hF.cy HSIX.out
  have c21 := hF.cb HSIX.out
  have c22 := hF.cr HSIX.out
  simp only at c13 c14
  obtain ⟨Ab, nb, cb, rfl, hyb⟩ := hi.b
  obtain ⟨Ar, nr, cr, rfl, hyr2⟩ := hi.r
  have hbl : b.length = nb := hyb.1
  have hrl : r.length = nr := hyr2.1
  have hbn : nb ≤ 1000000 := by rw [← hbl]; exact hi.bn
  have HBL := Lib.hid hbl
  have HRL := Lib.hid hrl
  have HF := Lib.hid hF
  have HK := Lib.hid hk
  have HI := Lib.hid hi
  clear hyb hyr2 hF hk hi hbl hrl

  by_cases h1 : k = 1
  · subst h1
    by_cases hy1 : 1536 ≤ y
    · by_cases hy2 : y ≤ 65535
      · obtain ⟨m, rfl⟩ : ∃ m : Nat, y = (m : Int) := ⟨y.toNat, by omega⟩
        have hm : m < 65536 := by omega
        go_wp2_with (refine wpList_ld rfl _ _ rfl _ 0 rfl _ HF.out.all _ Try.underlying57 rfl (by rw [fcs_len HSIX.out]; exact infF) ?_)
        refine (typeIsTag_yes _ _ _ _ m hm rfl _ HI.out HMAY.out).mono ?_
        rintro e w1 ⟨rfl, hk1⟩
        have HF1 := Lib.hid (HF.out.kept hk1 (fun hf => hf))
        have HK1 := Lib.hid (HK.out.then hk1)
        have d22 := hk1.cell c22 (fun hf => hf)
        clear hk1 c13 c14 c21 c22
        obtain ⟨st, hst⟩ : ∃ st, standM m (t.length : Int) = st := ⟨_, rfl⟩
        rw [show (Fr.mk d s t 1 (m : Int) l o b r).t = t from rfl, hst]
        have HST := Lib.hid hst
        clear hst
        cases st
        · go_wp2_with (refine wpList_ld rfl _ _ rfl _ 15 rfl _ (HF1.out.rl HSIX.out) _ Try.underlying55 rfl (by rw [bys_len, HL.out]; exact inf3) ?_)
          refine (isZero_yes l HL.out _).mono ?_
          rintro e w2 ⟨rfl, hk2⟩
          have HF2 := Lib.hid (HF1.out.kept hk2 (fun hf => hf))
          have HK2 := Lib.hid (HK1.out.then hk2)
          have e22 := hk2.cell d22 (fun hf => hf)
          clear hk2 d22
          by_cases hl : l = z3
          · rw [decide_eq_true hl]
            go_wp2_with (refine wpList_ld rfl _ _ rfl _ 18 rfl _ (HF2.out.ro HSIX.out) _ Try.underlying55 rfl (by rw [bys_len, HO.out]; exact inf3) ?_)
            refine (isZero_yes o HO.out _).mono ?_
            rintro e w3 ⟨rfl, hk3⟩
            have HK3 := Lib.hid (HK2.out.then hk3)
            have f22 := hk3.cell e22 (fun hf => hf)
            clear hk3 e22
            by_cases ho : o = z3
            · rw [decide_eq_true ho]
              by_cases hr0 : nr = 0
              · subst hr0
                have HLL := Lib.hid hl
                have HOO := Lib.hid ho
                clear hl ho
                go_wp2
                go_ret
                refine ⟨?_, HK3.out⟩
                rw [show carryM ⟨d, s, t, 1, (m : Int), l, o, b, r⟩ = true by simp [carryM, HLL.out, HOO.out, HRL.out, HST.out, hy1, hy2]]
                rfl
              · have hr1 : ((nr : Int) == 0) = false := by rw [beq_eq_false_iff_ne]; omega
                have HR0 := Lib.hid hr0
                have HLL := Lib.hid hl
                have HOO := Lib.hid ho
                clear hl ho hr0
                go_wp2
                go_ret
                refine ⟨?_, HK3.out⟩
                rw [show carryM ⟨d, s, t, 1, (m : Int), l, o, b, r⟩ = false by have := HR0.out; simp [carryM, HRL.out, this]]
                rfl
            · rw [decide_eq_false ho]
              have HOO := Lib.hid ho
              clear hl ho
              go_wp2
              go_ret
              refine ⟨?_, HK3.out⟩
              rw [show carryM ⟨d, s, t, 1, (m : Int), l, o, b, r⟩ = false by simp [carryM, HOO.out]]
              rfl
          · rw [decide_eq_false hl]
            have HLL := Lib.hid hl
            clear hl
            go_wp2
            go_ret
            refine ⟨?_, HK2.out⟩
            rw [show carryM ⟨d, s, t, 1, (m : Int), l, o, b, r⟩ = false by simp [carryM, HLL.out]]
            rfl
        · go_wp2
          go_ret
          refine ⟨?_, HK1.out⟩
          rw [show carryM ⟨d, s, t, 1, (m : Int), l, o, b, r⟩ = false by simp [carryM, HST.out]]
          rfl
      · have hy3 : ¬ (y ≤ 65535) := hy2
        go_wp2
        go_ret
        refine ⟨?_, HK.out⟩
        rw [show carryM ⟨d, s, t, 1, y, l, o, b, r⟩ = false by have hq : ¬ (y ≤ 65535) := Int.not_le.2 (by omega); simp [carryM, hq]]
        rfl
    · go_wp2
      go_ret
      refine ⟨?_, HK.out⟩
      rw [show carryM ⟨d, s, t, 1, y, l, o, b, r⟩ = false by have hq : ¬ (1536 ≤ y) := Int.not_le.2 (by omega); simp [carryM, hq]]
      rfl
  · by_cases h2 : k = 2
    · subst h2
      by_cases hy0 : y = 0
      · subst hy0
        go_wp2_with (refine wpList_ld rfl _ _ rfl _ 18 rfl _ (HF.out.ro HSIX.out) _ Try.underlying55 rfl (by rw [bys_len, HO.out]; exact inf3) ?_)
        refine (isZero_yes o HO.out _).mono ?_
        rintro e w1 ⟨rfl, hk1⟩
        have HF1 := Lib.hid (HF.out.kept hk1 (fun hf => hf))
        have HK1 := Lib.hid (HK.out.then hk1)
        have d21 := hk1.cell c21 (fun hf => hf)
        clear hk1 c13 c14 c21 c22
        by_cases ho : o = z3
        · rw [decide_eq_true ho]
          have HOO := Lib.hid ho
          clear ho
          go_wp2_with (refine wpList_ld rfl _ _ rfl _ 15 rfl _ (HF1.out.rl HSIX.out) _ Try.underlying55 rfl (by rw [bys_len, HL.out]; exact inf3) ?_)
          refine (isSnap_yes l HL.out _).mono ?_
          rintro e w2 ⟨rfl, hk2⟩
          have HK2 := Lib.hid (HK1.out.then hk2)
          have e21 := hk2.cell d21 (fun hf => hf)
          clear hk2 d21
          by_cases hl : l = snapL
          · rw [decide_eq_true hl]
            have HLL := Lib.hid hl
            clear hl
            go_wp2
            go_ret
            refine ⟨?_, HK2.out⟩
            rw [show carryM ⟨d, s, t, 2, 0, l, o, b, r⟩ = false by simp [carryM, HLL.out]]
            rfl
          · rw [decide_eq_false hl]
            have HLL := Lib.hid hl
            clear hl
            have hw : IntKind.wrap .i64 (3 + (nb : Int)) = 3 + (nb : Int) := by rw [IntKind.wrap_i64]; omega
            by_cases hn : 3 + nb ≤ 1500
            · have hn' : 3 + (nb : Int) ≤ 1500 := by omega
              have HN := Lib.hid hn
              clear hn
              go_wp2
              go_ret
              refine ⟨?_, HK2.out⟩
              rw [show carryM ⟨d, s, t, 2, 0, l, o, b, r⟩ = true by have := HN.out; simp [carryM, HLL.out, HOO.out, HBL.out, this]]
              rfl
            · have hn' : decide (3 + (nb : Int) ≤ 1500) = false := decide_eq_false (by omega)
              have HN := Lib.hid hn
              clear hn
              go_wp2
              go_ret
              refine ⟨?_, HK2.out⟩
              rw [show carryM ⟨d, s, t, 2, 0, l, o, b, r⟩ = false by have := HN.out; simp only [carryM, HBL.out, decide_eq_false this]; simp]
              rfl
        · rw [decide_eq_false ho]
          have HOO := Lib.hid ho
          clear ho
          go_wp2
          go_ret
          refine ⟨?_, HK1.out⟩
          rw [show carryM ⟨d, s, t, 2, 0, l, o, b, r⟩ = false by simp [carryM, HOO.out]]
          rfl
      · go_wp2
        go_ret
        refine ⟨?_, HK.out⟩
        rw [show carryM ⟨d, s, t, 2, y, l, o, b, r⟩ = false by simp [carryM, hy0]]
        rfl
    · by_cases h3 : k = 3
      · subst h3
        by_cases hy0 : 0 ≤ y
        · by_cases hy2 : y ≤ 65535
          · go_wp2_with (refine wpList_ld rfl _ _ rfl _ 15 rfl _ (HF.out.rl HSIX.out) _ Try.underlying55 rfl (by rw [bys_len, HL.out]; exact inf3) ?_)
            refine (isSnap_yes l HL.out _).mono ?_
            rintro e w1 ⟨rfl, hk1⟩
            have HK1 := Lib.hid (HK.out.then hk1)
            have d21 := hk1.cell c21 (fun hf => hf)
            clear hk1 c13 c14 c21 c22
            by_cases hl : l = snapL
            · rw [decide_eq_true hl]
              have HLL := Lib.hid hl
              clear hl
              have hw : IntKind.wrap .i64 (8 + (nb : Int)) = 8 + (nb : Int) := by rw [IntKind.wrap_i64]; omega
              by_cases hn : 8 + nb ≤ 1500
              · have hn' : 8 + (nb : Int) ≤ 1500 := by omega
                have HN := Lib.hid hn
                clear hn
                go_wp2
                go_ret
                refine ⟨?_, HK1.out⟩
                rw [show carryM ⟨d, s, t, 3, y, l, o, b, r⟩ = true by have := HN.out; simp [carryM, HLL.out, HBL.out, this, hy0, hy2]]
                rfl
              · have hn' : decide (8 + (nb : Int) ≤ 1500) = false := decide_eq_false (by omega)
                have HN := Lib.hid hn
                clear hn
                go_wp2
                go_ret
                refine ⟨?_, HK1.out⟩
                rw [show carryM ⟨d, s, t, 3, y, l, o, b, r⟩ = false by have := HN.out; simp only [carryM, HBL.out, decide_eq_false this]; simp]
                rfl
            · rw [decide_eq_false hl]
              have HLL := Lib.hid hl
              clear hl
              go_wp2
              go_ret
              refine ⟨?_, HK1.out⟩
              rw [show carryM ⟨d, s, t, 3, y, l, o, b, r⟩ = false by simp [carryM, HLL.out]]
              rfl
          · go_wp2
            go_ret
            refine ⟨?_, HK.out⟩
            rw [show carryM ⟨d, s, t, 3, y, l, o, b, r⟩ = false by have hq : ¬ (y ≤ 65535) := Int.not_le.2 (by omega); simp [carryM, hq]]
            rfl
        · go_wp2
          go_ret
          refine ⟨?_, HK.out⟩
          rw [show carryM ⟨d, s, t, 3, y, l, o, b, r⟩ = false by have hq : ¬ (0 ≤ y) := Int.not_le.2 (by omega); simp [carryM, hq]]
          rfl
      · go_wp2
        go_ret
        refine ⟨?_, HK.out⟩
        rw [show carryM ⟨d, s, t, k, y, l, o, b, r⟩ = false by unfold carryM; rw [if_neg h1, if_neg h2, if_neg h3]]
        rfl
end Go.Proofs.Ythjfeanmgaidcaa
