/- Texts that belong together, one behind the other: EthP, EthN. Conditions: those of each. -/
import Derived.Test.YtddpdopccejmbaaMg18
import Derived.Test.YtddpdopccejmbaaMg15
import Derived.Test.YtddpdopccejmbaaMg17
import Derived.Test.YtddpdopccejmbaaMg16
import Derived.Test.YtddpdopccejmbaaMg14
/- Package ether: contracts of typeIsTag and mayCarry. -/
namespace Go.Proofs.Ytddpdopccejmbaa
open Go.RowKit Go.Sort
set_option linter.unusedVariables false

/-- A frame that a call is handed, as plain data. -/
structure FrIn (w : World) (f : Fr) (vt vb vr : Value) : Prop where
  ok : f.ok
  t : ∃ A n c, vt = .slice A n c ∧ Tags w A n c f.t
  b : ∃ A n c, vb = .slice A n c ∧ Byt w A n c f.b
  r : ∃ A n c, vr = .slice A n c ∧ Byt w A n c f.r
  tn : f.t.length ≤ 1000
  bn : f.b.length ≤ 1000000
  rn : f.r.length ≤ 1000000
theorem FrIn.kept {w w' : World} {f : Fr} {vt vb vr : Value} (h : FrIn w f vt vb vr) (k : Kept Nil w w') : FrIn w' f vt vb vr := by
  obtain ⟨h0, ⟨A, n, c, e, ht⟩, ⟨A1, n1, c1, e1, hb⟩, ⟨A2, n2, c2, e2, hr⟩, h1, h2, h3⟩ := h
  exact ⟨h0, ⟨A, n, c, e, ht.kept k (fun _ _ hf => hf)⟩, ⟨A1, n1, c1, e1, hb.kept k (fun _ _ hf => hf)⟩, ⟨A2, n2, c2, e2, hr.kept k (fun _ _ hf => hf)⟩, h1, h2, h3⟩
theorem may_snoc (t : List Tg) (m : Nat) (h : mayL t = true) (hm : m < 65536) : mayL (t ++ [⟨m, 0, false, 0⟩]) = standM m (t.length : Int) := by
  have := mayFrom_take (t ++ [⟨m, 0, false, 0⟩]) 0 t.length (by simp)
  rw [List.take_of_length_le (by simp)] at this
  unfold mayL at h ⊢
  rw [this, show (t ++ [(⟨m, 0, false, 0⟩ : Tg)]).take t.length = t by simp, h, Bool.true_and]
  simp only [List.getElem_append_right, Nat.le_refl, Nat.sub_self, List.getElem_cons_zero, Nat.zero_add]
  cases hs : standM m (t.length : Int)
  · rw [Bool.and_false]
  · rw [Bool.and_true]
    have := stand_kind hs
    simp at this
    rw [mayT_iff]
    exact ⟨this, by simp, by simp⟩
set_option maxRecDepth 100000 in
set_option maxHeartbeats 1000000 in
theorem typeIsTag_yes (f : Fr) (vt vb vr : Value) (m : Nat) (hm : m < 65536) (hy : f.y = (m : Int)) (w : World) (h : FrIn w f vt vb vr) (hmay : mayL f.t = true) :
    Calls Try.prog 58 #[frv f vt vb vr] w fun e w' => e = .returned (.bool (standM m (f.t.length : Int))) ∧ Kept Nil w w' := by
  have hF := FB.new w 28 f vt vb vr
  have hk := (Kept.refl Nil w).alloc (.cells (fcs f vt vb vr).toArray 28)
  obtain ⟨A, n, c, rfl, ht⟩ := h.t
  have hlen := ht.len
  have hms := may_snoc f.t m hmay hm
  have hok : (⟨m, 0, false, 0⟩ : Tg).ok := ⟨hm, by simp, by simp⟩
  have HF := Lib.hid hF
  have HK := Lib.hid hk
  have HT := Lib.hid (ht.kept hk (fun _ _ hf => hf))
  have HSIX := Lib.hid h.ok.six
  have HTN := Lib.hid h.tn
  have HLEN := Lib.hid hlen
  have HMS := Lib.hid hms
  have HOK := Lib.hid hok
  have HY := Lib.hid hy
  clear hF hk h ht hlen hms hok hmay hy
  go_enter Try.func58, Try.ntmps58
  go_upto_region 1 with (fail)
  refine wp_nameE (fun W => FB W w.heap.size 28 f (.slice A n c) vb vr ∧ Kept Nil w W ∧ Tags W A n c f.t) ⟨HF.out, HK.out, HT.out⟩ ?_
  clear HF HK HT
  rintro W ⟨hF, hk, ht⟩
  have c12 := hF.ct HSIX.out
  have c14 := hF.cy HSIX.out
  rw [HY.out] at c14
  have hw : IntKind.wrap .u16 (m : Int) = (m : Int) := by rw [IntKind.wrap_u16]; omega
  have hlit := Rws.lit (s := 4) W ([(⟨m, 0, false, 0⟩ : Tg)].map tgc) 70 (tgc_len _) (by simp) #[.int .u16 (m : Int), .int .u8 0, .bool false, .int .u16 0] rfl 1 rfl W.heap.size rfl
  have hB := Blo.new (W.alloc (.cells #[.int .u16 (m : Int), .int .u8 0, .bool false, .int .u16 0] 70)) 24 #[.slice A n c, .slice (some ⟨W.heap.size, 0, none⟩) 1 1]
  have hk1 : Kept Nil W ((W.alloc (.cells #[.int .u16 (m : Int), .int .u8 0, .bool false, .int .u16 0] 70)).alloc (.cells #[.slice A n c, .slice (some ⟨W.heap.size, 0, none⟩) 1 1] 24)) := ((Kept.refl Nil W).alloc _).alloc _
  have HB := Lib.hid hB
  have HK1 := Lib.hid hk1
  have HLIT := Lib.hid (show Tags ((W.alloc (.cells #[.int .u16 (m : Int), .int .u8 0, .bool false, .int .u16 0] 70)).alloc (.cells #[.slice A n c, .slice (some ⟨W.heap.size, 0, none⟩) 1 1] 24)) (some ⟨W.heap.size, 0, none⟩) 1 1 [⟨m, 0, false, 0⟩] from ⟨hlit.kept ((Kept.refl Nil _).alloc _) (fun _ _ hf => hf), by intro t ht; simp at ht; subst ht; exact HOK.out⟩)
  have HT := Lib.hid (ht.kept hk1 (fun _ _ hf => hf))
  have HK := Lib.hid hk
  clear hF hk ht hlit hB hk1
  go_wp2_with fail
  have hz : (W.alloc (.cells #[.int .u16 (m : Int), .int .u8 0, .bool false, .int .u16 0] 70)).heap.size = W.heap.size + 1 := by simp
  rw [hz] at HB
  refine (concat_t (W.heap.size + 1) 2 24 [.slice A n c, .slice (some ⟨W.heap.size, 0, none⟩) 1 1] [f.t, [⟨m, 0, false, 0⟩]] _ HB.out rfl rfl (by decide) ?_ (by have := HTN.out; simp; omega)).mono ?_
  · intro i h1 h2
    match i, h1 with
    | 0, _ => exact ⟨_, _, _, rfl, HT.out⟩
    | 1, _ => exact ⟨_, _, _, rfl, HLIT.out⟩
  rintro e w1 ⟨v, rfl, hmd⟩
  rw [show [f.t, [(⟨m, 0, false, 0⟩ : Tg)]].flatten = f.t ++ [⟨m, 0, false, 0⟩] by simp] at hmd
  have hall : ∀ x ∈ f.t ++ [(⟨m, 0, false, 0⟩ : Tg)], x.ok := by
    intro x hx
    rcases List.mem_append.1 hx with hx | hx
    · exact HT.out.2 x hx
    · simp at hx; subst hx; exact HOK.out
  generalize f.t ++ [(⟨m, 0, false, 0⟩ : Tg)] = L at *
  obtain ⟨A1, c1, rfl, ht1, _⟩ := Tags.of_own hmd.1 hall
  obtain ⟨q, hq⟩ : ∃ q, L.length = q := ⟨_, rfl⟩
  rw [hq] at ht1 ⊢
  clear hq hall
  have HK2 := Lib.hid ((HK.out.then HK1.out).then hmd.2)
  have HT1 := Lib.hid ht1
  clear hmd ht1 hz
  go_wp2_with fail
  refine (may_yes _ _ _ _ _ HT1.out).mono ?_
  rintro e w2 ⟨rfl, hk2⟩
  rw [HMS.out]
  have HK3 := Lib.hid (HK2.out.then hk2)
  clear hk2
  go_wp2
  go_ret
  exact ⟨rfl, HK3.out⟩
end Go.Proofs.Ytddpdopccejmbaa
/- tolllaw04: Of. -/
namespace Go.Proofs.Ytddpdopccejmbaa
open Go.RowKit Go.Sort
set_option linter.unusedVariables false

theorem infR : (Try.prog.info? 32).map (·.size) = some 23 := by kernel_rfl
theorem infSt3 : (Try.prog.info? 30).map (·.size) = some 1 := by kernel_rfl
theorem inf6 : (Try.prog.info? 22).map (·.size) = some 6 := by kernel_rfl
theorem actUpon_st {P : Program} {R : Value → World → Prop} {o : Oper} {a : Act} {u : World} (ty : TypeId) (p x : Operand) (ho : o.op = .store ty p x) {g f : Nat} (hp : a.eval p = .pointer (some ⟨g, f, none⟩)) (l : List Value) {v : Value} (hx : a.eval x = v) (hvc : v.cells = l.toArray) (hi : (P.info? ty).map (·.size) = some l.length) {T : TypeId} {cs : List Value} (hb : Blo u g T cs.toArray) (hf : f + l.length ≤ cs.length) (h1 : ∀ u ∈ l, u.oneCell' = true)
    (h : ∀ w', Blo w' g T (cs.take f ++ l ++ cs.drop (f + l.length)).toArray → Kept (One g) u w' → w'.heap.size = u.heap.size → R undef w') : actUpon P R ((execOp a.eval o).run P u) := by
  obtain ⟨w', hr, h2, h3, h4⟩ := exec_st (P := P) ty p x ho hp l hx hvc hi hb hf h1
  rw [hr]
  exact h w' h2 h3 h4
/-- What an append into a field keeps up. -/
def ofI (g : Nat) (T e : TypeId) (f : Fr) (v0 vb vr : Value) (n : Nat) (xs ys : List Value) (D : Nat → Prop) (s : List Value) (u : World) : Prop := g + 1 ≤ u.heap.size ∧ match s with
  | [] => Blo u g T (fcs f v0 vb vr).toArray ∧ u.ownsRow (g + 1) e 4 v0 n xs ∧ ∀ k, D k → k ≠ g ∧ v0.ownBlock ≠ some k
  | [v] => v = v0 ∧ Blo u g T (fcs f v0 vb vr).toArray ∧ u.ownsRow (g + 1) e 4 v0 n xs ∧ ∀ k, D k → k ≠ g ∧ v0.ownBlock ≠ some k
  | [_, v] => Blo u g T (fcs f v0 vb vr).toArray ∧ u.ownsRow (g + 1) e 4 v (n + 1) ys ∧ ∀ k, D k → k ≠ g
  | _ :: v :: _ :: _ => Blo u g T (fcs f v vb vr).toArray ∧ u.ownsRow (g + 1) e 4 v (n + 1) ys
theorem ofI_keeps (g : Nat) (T e : TypeId) (f : Fr) (v0 vb vr : Value) (n : Nat) (xs ys : List Value) : Keeps (ofI g T e f v0 vb vr n xs ys) where
  quiet := fun D s u u' ⟨h1, h2⟩ hk => ⟨Nat.le_trans h1 hk.size, by
    match s, h2 with
    | [], ⟨a, b, c⟩ => exact ⟨a.kept hk (fun hf => hf), own_kept b hk (fun _ _ hf => hf), c⟩
    | [v], ⟨z, a, b, c⟩ => exact ⟨z, a.kept hk (fun hf => hf), own_kept b hk (fun _ _ hf => hf), c⟩
    | [_, v], ⟨a, b, c⟩ => exact ⟨a.kept hk (fun hf => hf), own_kept b hk (fun _ _ hf => hf), c⟩
    | _ :: v :: _ :: _, ⟨a, b⟩ => exact ⟨a.kept hk (fun hf => hf), own_kept b hk (fun _ _ hf => hf)⟩⟩
  make := fun D s u o ⟨h1, h2⟩ => ⟨by simp; omega, by
    have hk : Kept Nil u (u.alloc o) := (Kept.refl Nil u).alloc o
    match s, h2 with
    | [], ⟨a, b, c⟩ => exact ⟨a.kept hk (fun hf => hf), own_kept b hk (fun _ _ hf => hf), fun k hk' => by
        rcases hk' with hk' | rfl
        · exact c k hk'
        · exact ⟨fun e => Nat.lt_irrefl _ (e ▸ a.lt), fun e => Nat.lt_irrefl _ (b.lt _ e).2⟩⟩
    | [v], ⟨z, a, b, c⟩ => exact ⟨z, a.kept hk (fun hf => hf), own_kept b hk (fun _ _ hf => hf), fun k hk' => by
        rcases hk' with hk' | rfl
        · exact c k hk'
        · exact ⟨fun e => Nat.lt_irrefl _ (e ▸ a.lt), fun e => Nat.lt_irrefl _ (b.lt _ e).2⟩⟩
    | [_, v], ⟨a, b, c⟩ => exact ⟨a.kept hk (fun hf => hf), own_kept b hk (fun _ _ hf => hf), fun k hk' => by
        rcases hk' with hk' | rfl
        · exact c k hk'
        · exact fun e => Nat.lt_irrefl _ (e ▸ a.lt)⟩
    | _ :: v :: _ :: _, ⟨a, b⟩ => exact ⟨a.kept hk (fun hf => hf), own_kept b hk (fun _ _ hf => hf)⟩⟩
set_option maxRecDepth 100000 in
set_option maxHeartbeats 4000000 in
theorem frOf_yes (f : Fr) (vt vb vr : Value) (w : World) (h : FrIn w f vt vb vr) :
    Calls Try.prog 10 #[frv f vt vb vr] w fun e w' => ∃ v, e = .returned (frv f v vb vr) ∧ NewT w w' v f.t ∧ Kept Nil w w' := by
  have hF := (FB.new w 28 f vt vb vr).alloc (.cells (fcs Fr.zero nilv nilv nilv).toArray 32)
  have hR : FB ((w.alloc (.cells (fcs f vt vb vr).toArray 28)).alloc (.cells (fcs Fr.zero nilv nilv nilv).toArray 32)) (w.heap.size + 1) 32 Fr.zero nilv nilv nilv := by
    have := FB.new (w.alloc (.cells (fcs f vt vb vr).toArray 28)) 32 Fr.zero nilv nilv nilv
    rwa [World.size_alloc] at this
  have hk : Kept Nil w ((w.alloc (.cells (fcs f vt vb vr).toArray 28)).alloc (.cells (fcs Fr.zero nilv nilv nilv).toArray 32)) := ((Kept.refl Nil w).alloc _).alloc _
  have hz : ((w.alloc (.cells (fcs f vt vb vr).toArray 28)).alloc (.cells (fcs Fr.zero nilv nilv nilv).toArray 32)).heap.size = w.heap.size + 2 := by simp
  have HF := Lib.hid hF
  have HR := Lib.hid hR
  have HK := Lib.hid hk
  have HI := Lib.hid (h.kept hk)
  have HSIX := Lib.hid h.ok.six
  have HZ := Lib.hid hz
  have HLT := Lib.hid (show ∀ A n c, vt = .slice A n c → ∀ i, Lies A n i → i < w.heap.size from fun A n c e i hx => by obtain ⟨A', n', c', e', ht⟩ := h.t; rw [e] at e'; cases e'; exact ht.lt i hx)
  clear hF hR hk h hz
  obtain ⟨d, s, t, k, y, l, o, b, r⟩ := f
  obtain ⟨d0, d1, d2, d3, d4, d5, rfl⟩ := six_of d HSIX.out.d
  obtain ⟨s0, s1, s2, s3, s4, s5, rfl⟩ := six_of s HSIX.out.s
  obtain ⟨l0, l1, l2, rfl⟩ := len3 HSIX.out.l
  obtain ⟨o0, o1, o2, rfl⟩ := len3 HSIX.out.o
  go_enter Try.func10, Try.ntmps10
  go_upto_region 1 with (fail)
  refine wp_nameE (fun W => FB W w.heap.size 28 ⟨[d0, d1, d2, d3, d4, d5], [s0, s1, s2, s3, s4, s5], t, k, y, [l0, l1, l2], [o0, o1, o2], b, r⟩ vt vb vr ∧ FB W (w.heap.size + 1) 32 Fr.zero nilv nilv nilv ∧ Kept Nil w W ∧ FrIn W ⟨[d0, d1, d2, d3, d4, d5], [s0, s1, s2, s3, s4, s5], t, k, y, [l0, l1, l2], [o0, o1, o2], b, r⟩ vt vb vr ∧ W.heap.size = w.heap.size + 2) ⟨HF.out, HR.out, HK.out, HI.out, HZ.out⟩ ?_
  clear HF HR HK HI HZ
  rintro W ⟨hF, hR, hk, hi, hz⟩
  obtain ⟨At, nt, ct, rfl, htt⟩ := hi.t
  obtain ⟨Ab, nb, cb, rfl, hbb⟩ := hi.b
  obtain ⟨Ar, nr, cr, rfl, hrr⟩ := hi.r
  have c12 := hF.ct HSIX.out
  have c13 := hF.ck HSIX.out
  have c14 := hF.cy HSIX.out
  have c21 := hF.cb HSIX.out
  have c22 := hF.cr HSIX.out
  simp only at c13 c14
  have HF := Lib.hid hF
  have HR := Lib.hid hR
  have HK := Lib.hid hk
  have HT := Lib.hid htt
  have HTN := Lib.hid hi.tn
  have HTL := Lib.hid htt.len
  have HZ := Lib.hid hz
  have HFN := Lib.hid (FB.new W 32 Fr.zero nilv nilv nilv)
  clear hF hR hk hi htt hbb hrr hz
  go_wp2_with (first
    | (refine wpList_ld rfl _ _ rfl w.heap.size 0 rfl [.int .u8 d0.toNat, .int .u8 d1.toNat, .int .u8 d2.toNat, .int .u8 d3.toNat, .int .u8 d4.toNat, .int .u8 d5.toNat] HF.out.rd _ Try.underlying23 rfl infm ?_)
    | (refine wpList_ld rfl _ _ rfl w.heap.size 6 rfl [.int .u8 s0.toNat, .int .u8 s1.toNat, .int .u8 s2.toNat, .int .u8 s3.toNat, .int .u8 s4.toNat, .int .u8 s5.toNat] (HF.out.rs HSIX.out) _ Try.underlying23 rfl infm ?_)
    | (refine wpList_ld rfl _ _ rfl w.heap.size 15 rfl [.int .u8 l0.toNat, .int .u8 l1.toNat, .int .u8 l2.toNat] (HF.out.rl HSIX.out) _ Try.underlying25 rfl inf3 ?_)
    | (refine wpList_ld rfl _ _ rfl w.heap.size 18 rfl [.int .u8 o0.toNat, .int .u8 o1.toNat, .int .u8 o2.toNat] (HF.out.ro HSIX.out) _ Try.underlying25 rfl inf3 ?_)
    | (refine wpList_st rfl _ (.tmp 3) _ rfl _ 0 rfl (fcs ⟨[d0, d1, d2, d3, d4, d5], [s0, s1, s2, s3, s4, s5], t, k, y, [l0, l1, l2], [o0, o1, o2], b, r⟩ nilv (.slice Ab nb cb) (.slice Ar nr cr)) _ rfl rfl infR 32 _ HFN.out (by rw [fcs_len Fr.zero_six, fcs_len HSIX.out]; omega) (fcs_one rfl rfl rfl) ?_; intro w2 hb2 hk2 hz2))
  have hk02 := ((Kept.refl Nil W).alloc (.cells (fcs Fr.zero nilv nilv nilv).toArray 32)).fresh hk2 (fun i hi => by cases hi; exact Nat.le_refl _)
  have hF2 := HF.out.kept hk02 (fun hf => hf)
  have hR2 := HR.out.kept hk02 (fun hf => hf)
  have hW2 := FB.of_all (f' := ⟨[d0, d1, d2, d3, d4, d5], [s0, s1, s2, s3, s4, s5], t, k, y, [l0, l1, l2], [o0, o1, o2], b, r⟩) Fr.zero_six HSIX.out hb2
  have hK2 := HK.out.then hk02
  have hT2 := HT.out.kept hk02 (fun _ _ hf => hf)
  have hs2 : w.heap.size + 2 + 1 ≤ w2.heap.size := by rw [hz2]; simp [HZ.out]
  rw [HZ.out] at hW2
  rw [HZ.out]
  obtain ⟨Fq, hFq⟩ : ∃ Fq : Fr, Fq = ⟨[d0, d1, d2, d3, d4, d5], [s0, s1, s2, s3, s4, s5], t, k, y, [l0, l1, l2], [o0, o1, o2], b, r⟩ := ⟨_, rfl⟩
  rw [← hFq] at hF2 hW2 HSIX
  have HF2 := Lib.hid hF2
  have HR2 := Lib.hid hR2
  have HW2 := Lib.hid hW2
  have HK2 := Lib.hid hK2
  have HT2 := Lib.hid hT2
  have HS2 := Lib.hid hs2
  have HFQ := Lib.hid hFq
  clear hk02 hF2 hR2 hW2 hK2 hT2 hs2 hb2 hk2 hz2 HFN HF HR HK HT c12 c13 c14 c21 c22 hFq HZ
  obtain ⟨i0, hi, hz0, hz1, hz2⟩ := info_parts Try.infr
  go_loopw [4] (fun i wr => ∃ (q : Nat) (v : Value), q ≤ nt ∧ i = .int .i64 (q : Int) ∧ Hid (FB wr (w.heap.size + 2) 32 Fq v (.slice Ab nb cb) (.slice Ar nr cr)) ∧ Hid (wr.ownsRow (w.heap.size + 2 + 1) 69 4 v q ((t.take q).map tgc).flatten) ∧ Hid (Kept Nil w wr) ∧ Hid (FB wr w.heap.size 28 Fq (.slice At nt ct) (.slice Ab nb cb) (.slice Ar nr cr)) ∧ Hid (FB wr (w.heap.size + 1) 32 Fr.zero nilv nilv nilv) ∧ Hid (Tags wr At nt ct t) ∧ Hid (w.heap.size + 2 + 1 ≤ wr.heap.size)) (fun i _ => nt - (intOf i).toNat)
  case atStart => exact ⟨0, nilv, Nat.zero_le _, rfl, HW2.out, World.ownsRow_nil _ _ _ _, HK2.out, HF2.out, HR2.out, HT2.out, HS2.out⟩
  case round =>
    obtain ⟨q, v, hq, rfl, HW, HO, HK, HF, HR, HT, HS⟩ := hrel
    clear HW2 HK2 HF2 HR2 HT2 HS2
    have c12 := HF.out.ct HSIX.out
    have HTN2 := Lib.hid (show nt ≤ 1000 by rw [← HTL.out]; exact HTN.out)
    by_cases hlt : q < nt
    · have hql : q < t.length := by rw [HTL.out]; exact hlt
      obtain ⟨bt, ot, rfl, hz9⟩ := HT.out.at hql
      clear hz9
      have HCAT := Lib.hid (show ((t.take q).map tgc).flatten ++ ([t[q]].map tgc).flatten = ((t.take (q + 1)).map tgc).flatten by rw [List.take_succ_eq_append_getElem hql, List.map_append, List.flatten_append])
      have HQL := Lib.hid hql
      obtain ⟨x, hx⟩ : ∃ x : Tg, t[q]'hql = x := ⟨_, rfl⟩
      have hcat : ((t.take q).map tgc).flatten ++ ([t[q]'hql].map tgc).flatten = ((t.take (q + 1)).map tgc).flatten := HCAT.out
      have hcells : ∀ u, Tags u (some ⟨bt, ot, none⟩) nt ct t → u.cell? ⟨bt, ot + q * 4, none⟩ = some (.int .u16 (x.k : Int)) ∧ u.cell? ⟨bt, ot + q * 4 + 1, none⟩ = some (.int .u8 (x.p : Int)) ∧ u.cell? ⟨bt, ot + q * 4 + 2, none⟩ = some (.bool x.d) ∧ u.cell? ⟨bt, ot + q * 4 + 3, none⟩ = some (.int .u16 (x.n : Int)) := by
        intro u hu
        have h4 := hu.cells hql
        simp only [hx] at h4
        exact h4
      simp only [hx] at hcat
      have HCAT2 := Lib.hid hcat
      have HCELLS := Lib.hid hcells
      have HV1 := Lib.hid (show v.oneCell' = true by obtain ⟨A, c, e⟩ := own_form HO.out; rw [e]; rfl)
      have HTLT := Lib.hid (show bt < w.heap.size from HLT.out _ _ _ rfl bt ⟨by omega, _, rfl, rfl⟩)
      obtain ⟨Aw, cw, rfl⟩ := own_form HO.out
      clear hql hx hcells hcat HCAT
      go_wp2
      refine wp_region_acts (fun i => w.heap.size + 1 < i) [1, 8, 10] (fun i vl => ((vl.flatMap fun v => v.cells.toList).toArray, 69)) (fun i => undef) (ofI (w.heap.size + 2) 32 69 Fq (.slice Aw q cw) (.slice Ab nb cb) (.slice Ar nr cr) q ((t.take q).map tgc).flatten ((t.take (q + 1)).map tgc).flatten) (fun i v' => if i = 1 then v' = .slice Aw q cw else if i = 8 then ∃ A c, v' = .slice A (q + 1) c else v' = undef) 11 (by kernel_rfl) (by kernel_rfl) (ofI_keeps _ _ _ _ _ _ _ _ _ _) ⟨HS.out, HW.out, HO.out, fun _ h => h.elim⟩ ?_
      simp only [List.take_succ_cons, List.take_zero, List.drop_succ_cons, List.drop_zero]
      refine tLex_quiets 1 rfl (by kernel_rfl) ?_
      simp only [List.take_succ_cons, List.take_zero, List.drop_succ_cons, List.drop_zero]
      apply Exists.intro
      refine ⟨?hq, ?hv, ?ht⟩
      case hq =>
        intro V hV
        clear hV
        repeat (go_big_quiet_step (fail))
        exact wpQuiet_nil rfl
      case hv => exact ⟨trivial, trivial⟩
      case ht =>
        refine tLex_raw rfl rfl ⟨_, rfl⟩ ?ha1 ?_
        case ha1 =>
          intro D u hu hI hd
          obtain ⟨hI0, hb, ho, hD⟩ := hI
          have hc : u.cell? ⟨w.heap.size + 2, 12, none⟩ = some (.slice Aw q cw) := FB.ct (f := Fq) (vt := .slice Aw q cw) hb HSIX.out
          rw [exec_ld1 30 69 _ rfl rfl hc Try.underlying30]
          exact ⟨rfl, hu, ⟨hI0, rfl, hb, ho, hD⟩, Nat.le_refl _, fun _ _ _ => rfl⟩
        rintro v1 rfl
        simp only [Act.put, List.setIfInBounds_toArray, List.set_cons_succ, List.set_cons_zero]
        refine tLex_quiets 5 rfl (by kernel_rfl) ?_
        simp only [List.take_succ_cons, List.take_zero, List.drop_succ_cons, List.drop_zero]
        apply Exists.intro
        refine ⟨?hq2, ?hv2, ?ht2⟩
        case hq2 =>
          intro V hV
          have hfv := HF.out.kept hV (fun hf => absurd hf (by omega))
          have e12 := fun d os => (hfv.kept (kept_grown' V d os) (fun hf => hf)).ct HSIX.out
          have htv := HT.out.kept hV (fun i hi hf => by obtain ⟨_, ad, e, rfl⟩ := hi; cases e; exact absurd hf (Nat.not_lt.2 (Nat.le_of_lt (Nat.lt_succ_of_lt HTLT.out))))
          have hq := fun d os => HCELLS.out _ (htv.kept (kept_grown' V d os) (fun _ _ hf => hf))
          have q0 := fun d os => (hq d os).1
          have q1 := fun d os => (hq d os).2.1
          have q2 := fun d os => (hq d os).2.2.1
          have q3 := fun d os => (hq d os).2.2.2
          clear hV hfv htv hq
          repeat (go_big_quiet_step (fail))
          exact wpQuiet_nil rfl
        case hv2 => exact ⟨trivial, trivial, trivial, trivial, trivial, trivial⟩
        case ht2 =>
          refine tLex_make (#[.int .u16 (x.k : Int), .int .u8 (x.p : Int), .bool x.d, .int .u16 (x.n : Int)], 69) rfl rfl rfl rfl (fun u => ?hm) ?_
          case hm => simp [execOp, mkVal, Instr.buildSlice, go_sem]
          intro gl hgl hL
          simp only [Act.put, mkVal, List.setIfInBounds_toArray, List.set_cons_succ, List.set_cons_zero]
          refine tLex_raw rfl rfl ⟨.slice none (q + 1) 0, _, _, rfl⟩ ?ha2 ?_
          case ha2 =>
            intro D u hu hI hd
            obtain ⟨hI0, hv0, hb, ho, hD⟩ := hI
            obtain ⟨dd1, dd2⟩ := hd gl _ ⟨_, List.mem_cons_of_mem _ (List.mem_cons_self ..), rfl⟩ (mput_same _ _ _)
            have hlit : Rws 4 u (some ⟨gl, 0, none⟩) 1 1 ([x].map tgc) := rws_blo ([x].map tgc) (tgc_len [x]) (by simp) dd2 rfl 1 rfl
            obtain ⟨v', w', hr, hown, hgrow, hob⟩ := run_appR (P := Try.prog) (ty := 30) Try.underlying30 hi hz0 hz1 hz2 rfl (by decide) ho hlit (tgc_one [x]) (by have := HTN2.out; unfold maxLen; omega) (by have := HTN2.out; omega) hI0
            rw [exec_app _ _ 30 rfl rfl rfl hr]
            rw [HCAT2.out] at hown
            have hkr : Kept (fun k => Value.ownBlock (.slice Aw q cw) = some k) u w' := (Kept.refl _ u).grown hgrow (fun k hk _ => hk)
            obtain ⟨A', c', hv'⟩ := own_form hown
            refine ⟨⟨A', c', hv'⟩, hu.trans hkr (fun i _ hi => by have := (ho.lt i hi).1; show w.heap.size + 1 < i; omega), ⟨Nat.le_trans hI0 hkr.size, hb.kept hkr (fun hf => by have := (ho.lt _ hf).1; omega), hown, fun k hk => (hD k hk).1⟩, hkr.size, fun k hk hku => hkr.block k hku (hD k hk).2⟩
          rintro v2 ⟨A2, c2, rfl⟩
          simp only [Act.put, List.setIfInBounds_toArray, List.set_cons_succ, List.set_cons_zero]
          refine tLex_quiets 1 rfl (by kernel_rfl) ?_
          simp only [List.take_succ_cons, List.take_zero, List.drop_succ_cons, List.drop_zero]
          apply Exists.intro
          refine ⟨?hq3, ?hv3, ?ht3⟩
          case hq3 =>
            intro V hV
            clear hV
            repeat (go_big_quiet_step (fail))
            exact wpQuiet_nil rfl
          case hv3 => exact ⟨trivial, trivial⟩
          case ht3 =>
            refine tLex_raw rfl rfl ⟨undef, rfl⟩ ?ha3 ?_
            case ha3 =>
              intro D u hu hI hd
              obtain ⟨hI0, hb, ho, hD⟩ := hI
              refine actUpon_st 30 _ _ rfl (g := w.heap.size + 2) (f := 12) rfl [.slice A2 (q + 1) c2] rfl rfl infSt3 hb (by rw [fcs_len HSIX.out]; simp) (by intro u hu; simp at hu; subst hu; rfl) ?_
              intro w' hb' hk' hz'
              refine ⟨rfl, hu.trans hk' (fun i _ hi => by cases hi; show w.heap.size + 1 < _; omega), ⟨by rw [hz']; exact hI0, ?_, own_kept ho hk' (fun i hi hf => by cases hf; have := (ho.lt _ hi).1; omega)⟩, hk'.size, fun k hk hku => hk'.block k hku (fun hf => hD k hk hf)⟩
              rw [← fcs_set_t (.slice A2 (q + 1) c2) HSIX.out] at hb'
              exact hb'
            rintro v3 rfl
            simp only [Act.put]
            intro w3 hs
            obtain ⟨_, hb3, ho3⟩ := hs.know
            have HW3 := Lib.hid (show FB w3 (w.heap.size + 2) 32 Fq (.slice A2 (q + 1) c2) (.slice Ab nb cb) (.slice Ar nr cr) from hb3)
            have HO3 := Lib.hid ho3
            have HK3 := Lib.hid (HK.out.fresh hs.kept (fun i hi => Nat.le_of_lt (Nat.lt_of_succ_lt hi)))
            have HF3 := Lib.hid (HF.out.kept hs.kept (fun hf => absurd hf (by omega)))
            have HT3 := Lib.hid (HT.out.kept hs.kept (fun i hi hf => by obtain ⟨_, ad, e, rfl⟩ := hi; cases e; exact absurd hf (Nat.not_lt.2 (Nat.le_of_lt (Nat.lt_succ_of_lt HTLT.out)))))
            have HS3 := Lib.hid (Nat.le_trans HS.out hs.kept.size)
            have HR3 := Lib.hid (HR.out.kept hs.kept (fun hf => Nat.lt_irrefl _ hf))
            clear hs hb3 ho3
            have hnt := HTN2.out
            go_wp2
            go_roundw
            case rel => exact ⟨q + 1, _, by omega, by go_num, HW3.out, HO3.out, HK3.out, HF3.out, HR3.out, HT3.out, HS3.out⟩
            case measure => simp [intOf]; omega
    · obtain rfl : q = nt := by omega
      have ho := HO.out
      rw [List.take_of_length_le (by rw [HTL.out]; exact Nat.le_refl _)] at ho
      obtain ⟨Aw, cw, rfl⟩ := own_form ho
      have HO1 := Lib.hid ho
      have HOK := Lib.hid HT.out.2
      clear ho
      go_wp2_with (first
        | (refine wpList_ld rfl _ (.tmp 3) rfl _ 0 rfl _ HW.out.all _ Try.underlying32 rfl (by rw [fcs_len HSIX.out]; exact infR) ?_)
        | (refine wpList_st rfl _ (.tmp 2) _ rfl _ 0 rfl (fcs Fq (.slice Aw q cw) (.slice Ab nb cb) (.slice Ar nr cr)) _ rfl rfl (by rw [fcs_len HSIX.out]; exact infR) 32 _ HR.out (by rw [fcs_len Fr.zero_six, fcs_len HSIX.out]; omega) (fcs_one rfl rfl rfl) ?_; intro w3 hb3 hk3 hz3))
      have HR3 := Lib.hid (FB.of_all (f' := Fq) Fr.zero_six HSIX.out hb3)
      refine bodyPost_ret (res_cell0 Try.results10 rfl HR3.out.all Try.underlying32 rfl (by rw [fcs_len HSIX.out]; exact infR)) rfl ?_
      have ho3 := own_kept HO1.out hk3 (fun i hi hf => by cases hf; have := (HO1.out.lt _ hi).1; omega)
      obtain ⟨A4, c4, e4, ht4, hi4⟩ := Tags.of_own (l := t) (by rw [← HTL.out] at ho3; exact ho3) HOK.out
      refine ⟨.slice Aw q cw, by rw [HFQ.out]; rfl, ⟨A4, _, c4, by rw [← e4, HTL.out], ht4, fun i hx => by have := hi4 i hx; omega⟩, HK.out.fresh hk3 (fun i hi => by cases hi; exact Nat.le_succ _)⟩
end Go.Proofs.Ytddpdopccejmbaa
