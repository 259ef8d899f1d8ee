/- Texts that belong together, one behind the other: EthP, BpM. Conditions: those of each. -/
import Derived.Test.YtbkjobmjapbmpaaMg23
import Derived.Test.YtbkjobmjapbmpaaMg21
import Derived.Test.YtbkjobmjapbmpaaMg22
/- Package ether: contracts of typeIsTag and mayCarry. -/
namespace Go.Proofs.Ytbkjobmjapbmpaa
open Go.RowKit Go.Sort
set_option linter.unusedVariables false

/-- A frame that a call is handed, as plain data. -/
structure FrIn (w : World) (f : Fr) (vt vb vr : Value) : Prop where
  ok : f.ok
  t : ∃ A n c, vt = .slice A n c ∧ Tags w A n c f.t
  b : ∃ A n c, vb = .slice A n c ∧ Byt w A n c f.b
  r : ∃ A n c, vr = .slice A n c ∧ Byt w A n c f.r
  tn : f.t.length ≤ 1000
  bn : f.b.length ≤ 1000000
  rn : f.r.length ≤ 1000000
theorem FrIn.kept {w w' : World} {f : Fr} {vt vb vr : Value} (h : FrIn w f vt vb vr) (k : Kept Nil w w') : FrIn w' f vt vb vr := by
  obtain ⟨h0, ⟨A, n, c, e, ht⟩, ⟨A1, n1, c1, e1, hb⟩, ⟨A2, n2, c2, e2, hr⟩, h1, h2, h3⟩ := h
  exact ⟨h0, ⟨A, n, c, e, ht.kept k (fun _ _ hf => hf)⟩, ⟨A1, n1, c1, e1, hb.kept k (fun _ _ hf => hf)⟩, ⟨A2, n2, c2, e2, hr.kept k (fun _ _ hf => hf)⟩, h1, h2, h3⟩
theorem may_snoc (t : List Tg) (m : Nat) (h : mayL t = true) (hm : m < 65536) : mayL (t ++ [⟨m, 0, false, 0⟩]) = standM m (t.length : Int) := by
  have := mayFrom_take (t ++ [⟨m, 0, false, 0⟩]) 0 t.length (by simp)
  rw [List.take_of_length_le (by simp)] at this
  unfold mayL at h ⊢
  rw [this, show (t ++ [(⟨m, 0, false, 0⟩ : Tg)]).take t.length = t by simp, h, Bool.true_and]
  simp only [List.getElem_append_right, Nat.le_refl, Nat.sub_self, List.getElem_cons_zero, Nat.zero_add]
  cases hs : standM m (t.length : Int)
  · rw [Bool.and_false]
  · rw [Bool.and_true]
    have := stand_kind hs
    simp at this
    rw [mayT_iff]
    exact ⟨this, by simp, by simp⟩
set_option maxRecDepth 100000 in
set_option maxHeartbeats 1000000 in
theorem typeIsTag_yes (f : Fr) (vt vb vr : Value) (m : Nat) (hm : m < 65536) (hy : f.y = (m : Int)) (w : World) (h : FrIn w f vt vb vr) (hmay : mayL f.t = true) :
    Calls Try.prog 92 #[frv f vt vb vr] w fun e w' => e = .returned (.bool (standM m (f.t.length : Int))) ∧ Kept Nil w w' := by
  have hF := FB.new w 33 f vt vb vr
  have hk := (Kept.refl Nil w).alloc (.cells (fcs f vt vb vr).toArray 33)
  obtain ⟨A, n, c, rfl, ht⟩ := h.t
  have hlen := ht.len
  have hms := may_snoc f.t m hmay hm
  have hok : (⟨m, 0, false, 0⟩ : Tg).ok := ⟨hm, by simp, by simp⟩
  have HF := Lib.hid hF
  have HK := Lib.hid hk
  have HT := Lib.hid (ht.kept hk (fun _ _ hf => hf))
  have HSIX := Lib.hid h.ok.six
  have HTN := Lib.hid h.tn
  have HLEN := Lib.hid hlen
  have HMS := Lib.hid hms
  have HOK := Lib.hid hok
  have HY := Lib.hid hy
  clear hF hk h ht hlen hms hok hmay hy
  go_enter Try.func92, Try.ntmps92
  go_upto_region 1 with (fail)
  refine wp_nameE (fun W => FB W w.heap.size 33 f (.slice A n c) vb vr ∧ Kept Nil w W ∧ Tags W A n c f.t) ⟨HF.out, HK.out, HT.out⟩ ?_
  clear HF HK HT
  rintro W ⟨hF, hk, ht⟩
  have c12 := hF.ct HSIX.out
  have c14 := hF.cy HSIX.out
  rw [HY.out] at c14
  have hw : IntKind.wrap .u16 (m : Int) = (m : Int) := by rw [IntKind.wrap_u16]; omega
  have hlit := Rws.lit (s := 4) W ([(⟨m, 0, false, 0⟩ : Tg)].map tgc) 63 (tgc_len _) (by simp) #[.int .u16 (m : Int), .int .u8 0, .bool false, .int .u16 0] rfl 1 rfl W.heap.size rfl
  have hB := Blo.new (W.alloc (.cells #[.int .u16 (m : Int), .int .u8 0, .bool false, .int .u16 0] 63)) 29 #[.slice A n c, .slice (some ⟨W.heap.size, 0, none⟩) 1 1]
  have hk1 : Kept Nil W ((W.alloc (.cells #[.int .u16 (m : Int), .int .u8 0, .bool false, .int .u16 0] 63)).alloc (.cells #[.slice A n c, .slice (some ⟨W.heap.size, 0, none⟩) 1 1] 29)) := ((Kept.refl Nil W).alloc _).alloc _
  have HB := Lib.hid hB
  have HK1 := Lib.hid hk1
  have HLIT := Lib.hid (show Tags ((W.alloc (.cells #[.int .u16 (m : Int), .int .u8 0, .bool false, .int .u16 0] 63)).alloc (.cells #[.slice A n c, .slice (some ⟨W.heap.size, 0, none⟩) 1 1] 29)) (some ⟨W.heap.size, 0, none⟩) 1 1 [⟨m, 0, false, 0⟩] from ⟨hlit.kept ((Kept.refl Nil _).alloc _) (fun _ _ hf => hf), by intro t ht; simp at ht; subst ht; exact HOK.out⟩)
  have HT := Lib.hid (ht.kept hk1 (fun _ _ hf => hf))
  have HK := Lib.hid hk
  clear hF hk ht hlit hB hk1
  go_wp2_with fail
  have hz : (W.alloc (.cells #[.int .u16 (m : Int), .int .u8 0, .bool false, .int .u16 0] 63)).heap.size = W.heap.size + 1 := by simp
  rw [hz] at HB
  refine (concat_t (W.heap.size + 1) 2 29 [.slice A n c, .slice (some ⟨W.heap.size, 0, none⟩) 1 1] [f.t, [⟨m, 0, false, 0⟩]] _ HB.out rfl rfl (by decide) ?_ (by have := HTN.out; simp; omega)).mono ?_
  · intro i h1 h2
    match i, h1 with
    | 0, _ => exact ⟨_, _, _, rfl, HT.out⟩
    | 1, _ => exact ⟨_, _, _, rfl, HLIT.out⟩
  rintro e w1 ⟨v, rfl, hmd⟩
  rw [show [f.t, [(⟨m, 0, false, 0⟩ : Tg)]].flatten = f.t ++ [⟨m, 0, false, 0⟩] by simp] at hmd
  have hall : ∀ x ∈ f.t ++ [(⟨m, 0, false, 0⟩ : Tg)], x.ok := by
    intro x hx
    rcases List.mem_append.1 hx with hx | hx
    · exact HT.out.2 x hx
    · simp at hx; subst hx; exact HOK.out
  generalize f.t ++ [(⟨m, 0, false, 0⟩ : Tg)] = L at *
  obtain ⟨A1, c1, rfl, ht1, _⟩ := Tags.of_own hmd.1 hall
  obtain ⟨q, hq⟩ : ∃ q, L.length = q := ⟨_, rfl⟩
  rw [hq] at ht1 ⊢
  clear hq hall
  have HK2 := Lib.hid ((HK.out.then HK1.out).then hmd.2)
  have HT1 := Lib.hid ht1
  clear hmd ht1 hz
  go_wp2_with fail
  refine (may_yes _ _ _ _ _ HT1.out).mono ?_
  rintro e w2 ⟨rfl, hk2⟩
  rw [HMS.out]
  have HK3 := Lib.hid (HK2.out.then hk2)
  clear hk2
  go_wp2
  go_ret
  exact ⟨rfl, HK3.out⟩
end Go.Proofs.Ytbkjobmjapbmpaa
/- tolllaw10: what tolllaw04.Of tells of a frame without tags; the reference's Is. -/
namespace Go.Proofs.Ytbkjobmjapbmpaa
open Go.RowKit Go.Sort
set_option linter.unusedVariables false

theorem infFq (f : Fr) (vt vb vr : Value) (h : f.six) : (Try.prog.info? 47).map (·.size) = some (fcs f vt vb vr).length := by rw [fcs_len h]; kernel_rfl
theorem inf_b6 (l : List UInt8) (h : l.length = 6) : (Try.prog.info? 27).map (·.size) = some (bys l).length := by rw [bys_len, h]; kernel_rfl
theorem eq_b6 (a b : List UInt8) (ha : a.length = 6) (hb : b.length = 6) (w : World) : (Op.equalIn 10000 27 (.agg (bys a).toArray) (.agg (bys b).toArray)).run Try.prog w = .ok (a == b) w := run_equalIn_bytes w 9998 27 5 6 Try.underlying27 Try.underlying5 siz5 _ _ ha hb
set_option maxRecDepth 100000 in
set_option maxHeartbeats 2000000 in
theorem ris_yes (f : Fr) (hs : f.six) (vt vb vr : Value) (w : World) : Calls Try.prog 17 #[frv f vt vb vr] w fun e w' => e = .returned (.bool (isF f)) ∧ Kept Nil w w' := by
  have hP := FB.new w 47 f vt vb vr
  have HS := Lib.hid hs
  go_enter Try.func17, Try.ntmps17
  go_upto_region 1 with (fail)
  refine wp_nameE (fun W => FB W w.heap.size 47 f vt vb vr ∧ Kept Nil w W) ⟨hP, (Kept.refl Nil w).alloc _⟩ ?_
  clear hP hs
  rintro W ⟨hP, hk⟩
  have HP := Lib.hid hP
  have HK := Lib.hid hk
  obtain ⟨gm, hgm⟩ : ∃ x, w.heap.size = x := ⟨_, rfl⟩
  rw [hgm] at HP ⊢
  clear hP hk hgm
  have ck := HP.out.ck HS.out
  have he1 := eq_macs
  cases hd : f.d == brd
  · have HM := Lib.hid (isF_d f hd)
    go_wp2_with (first
      | (refine wpList_ld rfl _ _ rfl gm 0 rfl (bys f.d) HP.out.rd _ Try.underlying27 rfl (inf_b6 _ HS.out.d) ?_; simp only [Act.put, List.setIfInBounds_toArray, List.set_cons_succ, List.set_cons_zero])
      | (refine wpList_eqS rfl _ _ _ _ rfl (bys f.d).toArray (bys brd).toArray rfl rfl (by kernel_rfl) false (by rw [← hd]; exact eq_b6 f.d brd HS.out.d rfl _) ?_; simp only [Act.put, List.setIfInBounds_toArray, List.set_cons_succ, List.set_cons_zero])
      | fail)
    go_ret
    exact ⟨by rw [HM.out]; rfl, HK.out⟩
  · by_cases hk2 : f.k = 2
    · have bk : (f.k == 2) = true := by simp [hk2]
      have HM := Lib.hid (isF_l f hd hk2)
      go_wp2_with (first
        | (refine wpList_ld rfl _ _ rfl gm 0 rfl (bys f.d) HP.out.rd _ Try.underlying27 rfl (inf_b6 _ HS.out.d) ?_; simp only [Act.put, List.setIfInBounds_toArray, List.set_cons_succ, List.set_cons_zero])
        | (refine wpList_eqS rfl _ _ _ _ rfl (bys f.d).toArray (bys brd).toArray rfl rfl (by kernel_rfl) true (by rw [← hd]; exact eq_b6 f.d brd HS.out.d rfl _) ?_; simp only [Act.put, List.setIfInBounds_toArray, List.set_cons_succ, List.set_cons_zero])
        | (refine wpList_ld rfl _ _ rfl gm 15 rfl (bys f.l) (HP.out.rl HS.out) _ Try.underlying30 rfl (inf_b3 _ HS.out.l) ?_; simp only [Act.put, List.setIfInBounds_toArray, List.set_cons_succ, List.set_cons_zero])
        | (refine wpList_eqS rfl _ _ _ _ rfl (bys f.l).toArray (bys lcb).toArray rfl rfl (by kernel_rfl) _ (eq_b3 f.l lcb HS.out.l rfl _) ?_; simp only [Act.put, List.setIfInBounds_toArray, List.set_cons_succ, List.set_cons_zero])
        | fail)
      go_ret
      exact ⟨by rw [HM.out]; rfl, HK.out⟩
    · have bk : (f.k == 2) = false := by simp [hk2]
      have HM := Lib.hid (isF_k f hk2)
      go_wp2_with (first
        | (refine wpList_ld rfl _ _ rfl gm 0 rfl (bys f.d) HP.out.rd _ Try.underlying27 rfl (inf_b6 _ HS.out.d) ?_; simp only [Act.put, List.setIfInBounds_toArray, List.set_cons_succ, List.set_cons_zero])
        | (refine wpList_eqS rfl _ _ _ _ rfl (bys f.d).toArray (bys brd).toArray rfl rfl (by kernel_rfl) true (by rw [← hd]; exact eq_b6 f.d brd HS.out.d rfl _) ?_; simp only [Act.put, List.setIfInBounds_toArray, List.set_cons_succ, List.set_cons_zero])
        | fail)
      go_ret
      exact ⟨by rw [HM.out]; rfl, HK.out⟩
end Go.Proofs.Ytbkjobmjapbmpaa
