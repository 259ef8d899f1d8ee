/- Texts that belong together, one behind the other: EthN, FrameA. Conditions: those of each. -/
import Derived.Test.YtbkjobmjapbmpaaMg30
import Derived.Test.YtbkjobmjapbmpaaMg24
import Derived.Test.YtbkjobmjapbmpaaMg5
import Derived.Test.YtbkjobmjapbmpaaMg17
import Derived.Test.YtbkjobmjapbmpaaMg0
/- tolllaw04: Of. -/
namespace Go.Proofs.Ytbkjobmjapbmpaa
open Go.RowKit Go.Sort
set_option linter.unusedVariables false

theorem infR : (Try.prog.info? 47).map (·.size) = some 23 := by kernel_rfl
theorem infSt3 : (Try.prog.info? 45).map (·.size) = some 1 := by kernel_rfl
theorem inf6 : (Try.prog.info? 27).map (·.size) = some 6 := by kernel_rfl
theorem actUpon_st {P : Program} {R : Value → World → Prop} {o : Oper} {a : Act} {u : World} (ty : TypeId) (p x : Operand) (ho : o.op = .store ty p x) {g f : Nat} (hp : a.eval p = .pointer (some ⟨g, f, none⟩)) (l : List Value) {v : Value} (hx : a.eval x = v) (hvc : v.cells = l.toArray) (hi : (P.info? ty).map (·.size) = some l.length) {T : TypeId} {cs : List Value} (hb : Blo u g T cs.toArray) (hf : f + l.length ≤ cs.length) (h1 : ∀ u ∈ l, u.oneCell' = true)
    (h : ∀ w', Blo w' g T (cs.take f ++ l ++ cs.drop (f + l.length)).toArray → Kept (One g) u w' → w'.heap.size = u.heap.size → R undef w') : actUpon P R ((execOp a.eval o).run P u) := by
  obtain ⟨w', hr, h2, h3, h4⟩ := exec_st (P := P) ty p x ho hp l hx hvc hi hb hf h1
  rw [hr]
  exact h w' h2 h3 h4
/-- What an append into a field keeps up. -/
def ofI (g : Nat) (T e : TypeId) (f : Fr) (v0 vb vr : Value) (n : Nat) (xs ys : List Value) (D : Nat → Prop) (s : List Value) (u : World) : Prop := g + 1 ≤ u.heap.size ∧ match s with
  | [] => Blo u g T (fcs f v0 vb vr).toArray ∧ u.ownsRow (g + 1) e 4 v0 n xs ∧ ∀ k, D k → k ≠ g ∧ v0.ownBlock ≠ some k
  | [v] => v = v0 ∧ Blo u g T (fcs f v0 vb vr).toArray ∧ u.ownsRow (g + 1) e 4 v0 n xs ∧ ∀ k, D k → k ≠ g ∧ v0.ownBlock ≠ some k
  | [_, v] => Blo u g T (fcs f v0 vb vr).toArray ∧ u.ownsRow (g + 1) e 4 v (n + 1) ys ∧ ∀ k, D k → k ≠ g
  | _ :: v :: _ :: _ => Blo u g T (fcs f v vb vr).toArray ∧ u.ownsRow (g + 1) e 4 v (n + 1) ys
theorem ofI_keeps (g : Nat) (T e : TypeId) (f : Fr) (v0 vb vr : Value) (n : Nat) (xs ys : List Value) : Keeps (ofI g T e f v0 vb vr n xs ys) where
  quiet := fun D s u u' ⟨h1, h2⟩ hk => ⟨Nat.le_trans h1 hk.size, by
    match s, h2 with
    | [], ⟨a, b, c⟩ => exact ⟨a.kept hk (fun hf => hf), own_kept b hk (fun _ _ hf => hf), c⟩
    | [v], ⟨z, a, b, c⟩ => exact ⟨z, a.kept hk (fun hf => hf), own_kept b hk (fun _ _ hf => hf), c⟩
    | [_, v], ⟨a, b, c⟩ => exact ⟨a.kept hk (fun hf => hf), own_kept b hk (fun _ _ hf => hf), c⟩
    | _ :: v :: _ :: _, ⟨a, b⟩ => exact ⟨a.kept hk (fun hf => hf), own_kept b hk (fun _ _ hf => hf)⟩⟩
  make := fun D s u o ⟨h1, h2⟩ => ⟨by simp; omega, by
    have hk : Kept Nil u (u.alloc o) := (Kept.refl Nil u).alloc o
    match s, h2 with
    | [], ⟨a, b, c⟩ => exact ⟨a.kept hk (fun hf => hf), own_kept b hk (fun _ _ hf => hf), fun k hk' => by
        rcases hk' with hk' | rfl
        · exact c k hk'
        · exact ⟨fun e => Nat.lt_irrefl _ (e ▸ a.lt), fun e => Nat.lt_irrefl _ (b.lt _ e).2⟩⟩
    | [v], ⟨z, a, b, c⟩ => exact ⟨z, a.kept hk (fun hf => hf), own_kept b hk (fun _ _ hf => hf), fun k hk' => by
        rcases hk' with hk' | rfl
        · exact c k hk'
        · exact ⟨fun e => Nat.lt_irrefl _ (e ▸ a.lt), fun e => Nat.lt_irrefl _ (b.lt _ e).2⟩⟩
    | [_, v], ⟨a, b, c⟩ => exact ⟨a.kept hk (fun hf => hf), own_kept b hk (fun _ _ hf => hf), fun k hk' => by
        rcases hk' with hk' | rfl
        · exact c k hk'
        · exact fun e => Nat.lt_irrefl _ (e ▸ a.lt)⟩
    | _ :: v :: _ :: _, ⟨a, b⟩ => exact ⟨a.kept hk (fun hf => hf), own_kept b hk (fun _ _ hf => hf)⟩⟩
set_option maxRecDepth 100000 in
set_option maxHeartbeats 4000000 in
theorem frOf_yes (f : Fr) (vt vb vr : Value) (w : World) (h : FrIn w f vt vb vr) :
    Calls Try.prog 18 #[frv f vt vb vr] w fun e w' => ∃ v, e = .returned (frv f v vb vr) ∧ NewT w w' v f.t ∧ Kept Nil w w' := by
  have hF := (FB.new w 33 f vt vb vr).alloc (.cells (fcs Fr.zero nilv nilv nilv).toArray 47)
  have hR : FB ((w.alloc (.cells (fcs f vt vb vr).toArray 33)).alloc (.cells (fcs Fr.zero nilv nilv nilv).toArray 47)) (w.heap.size + 1) 47 Fr.zero nilv nilv nilv := by
    have := FB.new (w.alloc (.cells (fcs f vt vb vr).toArray 33)) 47 Fr.zero nilv nilv nilv
    rwa [World.size_alloc] at this
  have hk : Kept Nil w ((w.alloc (.cells (fcs f vt vb vr).toArray 33)).alloc (.cells (fcs Fr.zero nilv nilv nilv).toArray 47)) := ((Kept.refl Nil w).alloc _).alloc _
  have hz : ((w.alloc (.cells (fcs f vt vb vr).toArray 33)).alloc (.cells (fcs Fr.zero nilv nilv nilv).toArray 47)).heap.size = w.heap.size + 2 := by simp
  have HF := Lib.hid hF
  have HR := Lib.hid hR
  have HK := Lib.hid hk
  have HI := Lib.hid (h.kept hk)
  have HSIX := Lib.hid h.ok.six
  have HZ := Lib.hid hz
  have HLT := Lib.hid (show ∀ A n c, vt = .slice A n c → ∀ i, Lies A n i → i < w.heap.size from fun A n c e i hx => by obtain ⟨A', n', c', e', ht⟩ := h.t; rw [e] at e'; cases e'; exact ht.lt i hx)
  clear hF hR hk h hz
  obtain ⟨d, s, t, k, y, l, o, b, r⟩ := f
  obtain ⟨d0, d1, d2, d3, d4, d5, rfl⟩ := six_of d HSIX.out.d
  obtain ⟨s0, s1, s2, s3, s4, s5, rfl⟩ := six_of s HSIX.out.s
  obtain ⟨l0, l1, l2, rfl⟩ := len3 HSIX.out.l
  obtain ⟨o0, o1, o2, rfl⟩ := len3 HSIX.out.o
  go_enter Try.func18, Try.ntmps18
  go_upto_region 1 with (fail)
  refine wp_nameE (fun W => FB W w.heap.size 33 ⟨[d0, d1, d2, d3, d4, d5], [s0, s1, s2, s3, s4, s5], t, k, y, [l0, l1, l2], [o0, o1, o2], b, r⟩ vt vb vr ∧ FB W (w.heap.size + 1) 47 Fr.zero nilv nilv nilv ∧ Kept Nil w W ∧ FrIn W ⟨[d0, d1, d2, d3, d4, d5], [s0, s1, s2, s3, s4, s5], t, k, y, [l0, l1, l2], [o0, o1, o2], b, r⟩ vt vb vr ∧ W.heap.size = w.heap.size + 2) ⟨HF.out, HR.out, HK.out, HI.out, HZ.out⟩ ?_
  clear HF HR HK HI HZ
  rintro W ⟨hF, hR, hk, hi, hz⟩
  obtain ⟨At, nt, ct, rfl, htt⟩ := hi.t
  obtain ⟨Ab, nb, cb, rfl, hbb⟩ := hi.b
  obtain ⟨Ar, nr, cr, rfl, hrr⟩ := hi.r
  have c12 := hF.ct HSIX.out
  have c13 := hF.ck HSIX.out
  have c14 := hF.cy HSIX.out
  have c21 := hF.cb HSIX.out
  have c22 := hF.cr HSIX.out
  simp only at c13 c14
  have HF := Lib.hid hF
  have HR := Lib.hid hR
  have HK := Lib.hid hk
  have HT := Lib.hid htt
  have HTN := Lib.hid hi.tn
  have HTL := Lib.hid htt.len
  have HZ := Lib.hid hz
  have HFN := Lib.hid (FB.new W 47 Fr.zero nilv nilv nilv)
  clear hF hR hk hi htt hbb hrr hz
  go_wp2_with (first
    | (refine wpList_ld rfl _ _ rfl w.heap.size 0 rfl [.int .u8 d0.toNat, .int .u8 d1.toNat, .int .u8 d2.toNat, .int .u8 d3.toNat, .int .u8 d4.toNat, .int .u8 d5.toNat] HF.out.rd _ Try.underlying28 rfl infm ?_)
    | (refine wpList_ld rfl _ _ rfl w.heap.size 6 rfl [.int .u8 s0.toNat, .int .u8 s1.toNat, .int .u8 s2.toNat, .int .u8 s3.toNat, .int .u8 s4.toNat, .int .u8 s5.toNat] (HF.out.rs HSIX.out) _ Try.underlying28 rfl infm ?_)
    | (refine wpList_ld rfl _ _ rfl w.heap.size 15 rfl [.int .u8 l0.toNat, .int .u8 l1.toNat, .int .u8 l2.toNat] (HF.out.rl HSIX.out) _ Try.underlying30 rfl inf3 ?_)
    | (refine wpList_ld rfl _ _ rfl w.heap.size 18 rfl [.int .u8 o0.toNat, .int .u8 o1.toNat, .int .u8 o2.toNat] (HF.out.ro HSIX.out) _ Try.underlying30 rfl inf3 ?_)
    | (refine wpList_st rfl _ (.tmp 3) _ rfl _ 0 rfl (fcs ⟨[d0, d1, d2, d3, d4, d5], [s0, s1, s2, s3, s4, s5], t, k, y, [l0, l1, l2], [o0, o1, o2], b, r⟩ nilv (.slice Ab nb cb) (.slice Ar nr cr)) _ rfl rfl infR 47 _ HFN.out (by rw [fcs_len Fr.zero_six, fcs_len HSIX.out]; omega) (fcs_one rfl rfl rfl) ?_; intro w2 hb2 hk2 hz2))
  have hk02 := ((Kept.refl Nil W).alloc (.cells (fcs Fr.zero nilv nilv nilv).toArray 47)).fresh hk2 (fun i hi => by cases hi; exact Nat.le_refl _)
  have hF2 := HF.out.kept hk02 (fun hf => hf)
  have hR2 := HR.out.kept hk02 (fun hf => hf)
  have hW2 := FB.of_all (f' := ⟨[d0, d1, d2, d3, d4, d5], [s0, s1, s2, s3, s4, s5], t, k, y, [l0, l1, l2], [o0, o1, o2], b, r⟩) Fr.zero_six HSIX.out hb2
  have hK2 := HK.out.then hk02
  have hT2 := HT.out.kept hk02 (fun _ _ hf => hf)
  have hs2 : w.heap.size + 2 + 1 ≤ w2.heap.size := by rw [hz2]; simp [HZ.out]
  rw [HZ.out] at hW2
  rw [HZ.out]
  obtain ⟨Fq, hFq⟩ : ∃ Fq : Fr, Fq = ⟨[d0, d1, d2, d3, d4, d5], [s0, s1, s2, s3, s4, s5], t, k, y, [l0, l1, l2], [o0, o1, o2], b, r⟩ := ⟨_, rfl⟩
  rw [← hFq] at hF2 hW2 HSIX
  have HF2 := Lib.hid hF2
  have HR2 := Lib.hid hR2
  have HW2 := Lib.hid hW2
  have HK2 := Lib.hid hK2
  have HT2 := Lib.hid hT2
  have HS2 := Lib.hid hs2
  have HFQ := Lib.hid hFq
  clear hk02 hF2 hR2 hW2 hK2 hT2 hs2 hb2 hk2 hz2 HFN HF HR HK HT c12 c13 c14 c21 c22 hFq HZ
  obtain ⟨i0, hi, hz0, hz1, hz2⟩ := info_parts Try.infr
  go_loopw [4] (fun i wr => ∃ (q : Nat) (v : Value), q ≤ nt ∧ i = .int .i64 (q : Int) ∧ Hid (FB wr (w.heap.size + 2) 47 Fq v (.slice Ab nb cb) (.slice Ar nr cr)) ∧ Hid (wr.ownsRow (w.heap.size + 2 + 1) 109 4 v q ((t.take q).map tgc).flatten) ∧ Hid (Kept Nil w wr) ∧ Hid (FB wr w.heap.size 33 Fq (.slice At nt ct) (.slice Ab nb cb) (.slice Ar nr cr)) ∧ Hid (FB wr (w.heap.size + 1) 47 Fr.zero nilv nilv nilv) ∧ Hid (Tags wr At nt ct t) ∧ Hid (w.heap.size + 2 + 1 ≤ wr.heap.size)) (fun i _ => nt - (intOf i).toNat)
  case atStart => exact ⟨0, nilv, Nat.zero_le _, rfl, HW2.out, World.ownsRow_nil _ _ _ _, HK2.out, HF2.out, HR2.out, HT2.out, HS2.out⟩
  case round =>
    obtain ⟨q, v, hq, rfl, HW, HO, HK, HF, HR, HT, HS⟩ := hrel
    clear HW2 HK2 HF2 HR2 HT2 HS2
    have c12 := HF.out.ct HSIX.out
    have HTN2 := Lib.hid (show nt ≤ 1000 by rw [← HTL.out]; exact HTN.out)
    by_cases hlt : q < nt
    · have hql : q < t.length := by rw [HTL.out]; exact hlt
      obtain ⟨bt, ot, rfl, hz9⟩ := HT.out.at hql
      clear hz9
      have HCAT := Lib.hid (show ((t.take q).map tgc).flatten ++ ([t[q]].map tgc).flatten = ((t.take (q + 1)).map tgc).flatten by rw [List.take_succ_eq_append_getElem hql, List.map_append, List.flatten_append])
      have HQL := Lib.hid hql
      obtain ⟨x, hx⟩ : ∃ x : Tg, t[q]'hql = x := ⟨_, rfl⟩
      have hcat : ((t.take q).map tgc).flatten ++ ([t[q]'hql].map tgc).flatten = ((t.take (q + 1)).map tgc).flatten := HCAT.out
      have hcells : ∀ u, Tags u (some ⟨bt, ot, none⟩) nt ct t → u.cell? ⟨bt, ot + q * 4, none⟩ = some (.int .u16 (x.k : Int)) ∧ u.cell? ⟨bt, ot + q * 4 + 1, none⟩ = some (.int .u8 (x.p : Int)) ∧ u.cell? ⟨bt, ot + q * 4 + 2, none⟩ = some (.bool x.d) ∧ u.cell? ⟨bt, ot + q * 4 + 3, none⟩ = some (.int .u16 (x.n : Int)) := by
        intro u hu
        have h4 := hu.cells hql
        simp only [hx] at h4
        exact h4
      simp only [hx] at hcat
      have HCAT2 := Lib.hid hcat
      have HCELLS := Lib.hid hcells
      have HV1 := Lib.hid (show v.oneCell' = true by obtain ⟨A, c, e⟩ := own_form HO.out; rw [e]; rfl)
      have HTLT := Lib.hid (show bt < w.heap.size from HLT.out _ _ _ rfl bt ⟨by omega, _, rfl, rfl⟩)
      obtain ⟨Aw, cw, rfl⟩ := own_form HO.out
      clear hql hx hcells hcat HCAT
      go_wp2
      refine wp_region_acts (fun i => w.heap.size + 1 < i) [1, 8, 10] (fun i vl => ((vl.flatMap fun v => v.cells.toList).toArray, 109)) (fun i => undef) (ofI (w.heap.size + 2) 47 109 Fq (.slice Aw q cw) (.slice Ab nb cb) (.slice Ar nr cr) q ((t.take q).map tgc).flatten ((t.take (q + 1)).map tgc).flatten) (fun i v' => if i = 1 then v' = .slice Aw q cw else if i = 8 then ∃ A c, v' = .slice A (q + 1) c else v' = undef) 11 (by kernel_rfl) (by kernel_rfl) (ofI_keeps _ _ _ _ _ _ _ _ _ _) ⟨HS.out, HW.out, HO.out, fun _ h => h.elim⟩ ?_
      simp only [List.take_succ_cons, List.take_zero, List.drop_succ_cons, List.drop_zero]
      refine tLex_quiets 1 rfl (by kernel_rfl) ?_
      simp only [List.take_succ_cons, List.take_zero, List.drop_succ_cons, List.drop_zero]
      apply Exists.intro
      refine ⟨?hq, ?hv, ?ht⟩
      case hq =>
        intro V hV
        clear hV
        repeat (go_big_quiet_step (fail))
        exact wpQuiet_nil rfl
      case hv => exact ⟨trivial, trivial⟩
      case ht =>
        refine tLex_raw rfl rfl ⟨_, rfl⟩ ?ha1 ?_
        case ha1 =>
          intro D u hu hI hd
          obtain ⟨hI0, hb, ho, hD⟩ := hI
          have hc : u.cell? ⟨w.heap.size + 2, 12, none⟩ = some (.slice Aw q cw) := FB.ct (f := Fq) (vt := .slice Aw q cw) hb HSIX.out
          rw [exec_ld1 45 109 _ rfl rfl hc Try.underlying45]
          exact ⟨rfl, hu, ⟨hI0, rfl, hb, ho, hD⟩, Nat.le_refl _, fun _ _ _ => rfl⟩
        rintro v1 rfl
        simp only [Act.put, List.setIfInBounds_toArray, List.set_cons_succ, List.set_cons_zero]
        refine tLex_quiets 5 rfl (by kernel_rfl) ?_
        simp only [List.take_succ_cons, List.take_zero, List.drop_succ_cons, List.drop_zero]
        apply Exists.intro
        refine ⟨?hq2, ?hv2, ?ht2⟩
        case hq2 =>
          intro V hV
          have hfv := HF.out.kept hV (fun hf => absurd hf (by omega))
          have e12 := fun d os => (hfv.kept (kept_grown' V d os) (fun hf => hf)).ct HSIX.out
          have htv := HT.out.kept hV (fun i hi hf => by obtain ⟨_, ad, e, rfl⟩ := hi; cases e; exact absurd hf (Nat.not_lt.2 (Nat.le_of_lt (Nat.lt_succ_of_lt HTLT.out))))
          have hq := fun d os => HCELLS.out _ (htv.kept (kept_grown' V d os) (fun _ _ hf => hf))
          have q0 := fun d os => (hq d os).1
          have q1 := fun d os => (hq d os).2.1
          have q2 := fun d os => (hq d os).2.2.1
          have q3 := fun d os => (hq d os).2.2.2
          clear hV hfv htv hq
          repeat (go_big_quiet_step (fail))
          exact wpQuiet_nil rfl
        case hv2 => exact ⟨trivial, trivial, trivial, trivial, trivial, trivial⟩
        case ht2 =>
          refine tLex_make (#[.int .u16 (x.k : Int), .int .u8 (x.p : Int), .bool x.d, .int .u16 (x.n : Int)], 109) rfl rfl rfl rfl (fun u => ?hm) ?_
          case hm => simp [execOp, mkVal, Instr.buildSlice, go_sem]
          intro gl hgl hL
          simp only [Act.put, mkVal, List.setIfInBounds_toArray, List.set_cons_succ, List.set_cons_zero]
          refine tLex_raw rfl rfl ⟨.slice none (q + 1) 0, _, _, rfl⟩ ?ha2 ?_
          case ha2 =>
            intro D u hu hI hd
            obtain ⟨hI0, hv0, hb, ho, hD⟩ := hI
            obtain ⟨dd1, dd2⟩ := hd gl _ ⟨_, List.mem_cons_of_mem _ (List.mem_cons_self ..), rfl⟩ (mput_same _ _ _)
            have hlit : Rws 4 u (some ⟨gl, 0, none⟩) 1 1 ([x].map tgc) := rws_blo ([x].map tgc) (tgc_len [x]) (by simp) dd2 rfl 1 rfl
            obtain ⟨v', w', hr, hown, hgrow, hob⟩ := run_appR (P := Try.prog) (ty := 45) Try.underlying45 hi hz0 hz1 hz2 rfl (by decide) ho hlit (tgc_one [x]) (by have := HTN2.out; unfold maxLen; omega) (by have := HTN2.out; omega) hI0
            rw [exec_app _ _ 45 rfl rfl rfl hr]
            rw [HCAT2.out] at hown
            have hkr : Kept (fun k => Value.ownBlock (.slice Aw q cw) = some k) u w' := (Kept.refl _ u).grown hgrow (fun k hk _ => hk)
            obtain ⟨A', c', hv'⟩ := own_form hown
            refine ⟨⟨A', c', hv'⟩, hu.trans hkr (fun i _ hi => by have := (ho.lt i hi).1; show w.heap.size + 1 < i; omega), ⟨Nat.le_trans hI0 hkr.size, hb.kept hkr (fun hf => by have := (ho.lt _ hf).1; omega), hown, fun k hk => (hD k hk).1⟩, hkr.size, fun k hk hku => hkr.block k hku (hD k hk).2⟩
          rintro v2 ⟨A2, c2, rfl⟩
          simp only [Act.put, List.setIfInBounds_toArray, List.set_cons_succ, List.set_cons_zero]
          refine tLex_quiets 1 rfl (by kernel_rfl) ?_
          simp only [List.take_succ_cons, List.take_zero, List.drop_succ_cons, List.drop_zero]
          apply Exists.intro
          refine ⟨?hq3, ?hv3, ?ht3⟩
          case hq3 =>
            intro V hV
            clear hV
            repeat (go_big_quiet_step (fail))
            exact wpQuiet_nil rfl
          case hv3 => exact ⟨trivial, trivial⟩
          case ht3 =>
            refine tLex_raw rfl rfl ⟨undef, rfl⟩ ?ha3 ?_
            case ha3 =>
              intro D u hu hI hd
              obtain ⟨hI0, hb, ho, hD⟩ := hI
              refine actUpon_st 45 _ _ rfl (g := w.heap.size + 2) (f := 12) rfl [.slice A2 (q + 1) c2] rfl rfl infSt3 hb (by rw [fcs_len HSIX.out]; simp) (by intro u hu; simp at hu; subst hu; rfl) ?_
              intro w' hb' hk' hz'
              refine ⟨rfl, hu.trans hk' (fun i _ hi => by cases hi; show w.heap.size + 1 < _; omega), ⟨by rw [hz']; exact hI0, ?_, own_kept ho hk' (fun i hi hf => by cases hf; have := (ho.lt _ hi).1; omega)⟩, hk'.size, fun k hk hku => hk'.block k hku (fun hf => hD k hk hf)⟩
              rw [← fcs_set_t (.slice A2 (q + 1) c2) HSIX.out] at hb'
              exact hb'
            rintro v3 rfl
            simp only [Act.put]
            intro w3 hs
            obtain ⟨_, hb3, ho3⟩ := hs.know
            have HW3 := Lib.hid (show FB w3 (w.heap.size + 2) 47 Fq (.slice A2 (q + 1) c2) (.slice Ab nb cb) (.slice Ar nr cr) from hb3)
            have HO3 := Lib.hid ho3
            have HK3 := Lib.hid (HK.out.fresh hs.kept (fun i hi => Nat.le_of_lt (Nat.lt_of_succ_lt hi)))
            have HF3 := Lib.hid (HF.out.kept hs.kept (fun hf => absurd hf (by omega)))
            have HT3 := Lib.hid (HT.out.kept hs.kept (fun i hi hf => by obtain ⟨_, ad, e, rfl⟩ := hi; cases e; exact absurd hf (Nat.not_lt.2 (Nat.le_of_lt (Nat.lt_succ_of_lt HTLT.out)))))
            have HS3 := Lib.hid (Nat.le_trans HS.out hs.kept.size)
            have HR3 := Lib.hid (HR.out.kept hs.kept (fun hf => Nat.lt_irrefl _ hf))
            clear hs hb3 ho3
            have hnt := HTN2.out
            go_wp2
            go_roundw
            case rel => exact ⟨q + 1, _, by omega, by go_num, HW3.out, HO3.out, HK3.out, HF3.out, HR3.out, HT3.out, HS3.out⟩
            case measure => simp [intOf]; omega
    · obtain rfl : q = nt := by omega
      have ho := HO.out
      rw [List.take_of_length_le (by rw [HTL.out]; exact Nat.le_refl _)] at ho
      obtain ⟨Aw, cw, rfl⟩ := own_form ho
      have HO1 := Lib.hid ho
      have HOK := Lib.hid HT.out.2
      clear ho
      go_wp2_with (first
        | (refine wpList_ld rfl _ (.tmp 3) rfl _ 0 rfl _ HW.out.all _ Try.underlying47 rfl (by rw [fcs_len HSIX.out]; exact infR) ?_)
        | (refine wpList_st rfl _ (.tmp 2) _ rfl _ 0 rfl (fcs Fq (.slice Aw q cw) (.slice Ab nb cb) (.slice Ar nr cr)) _ rfl rfl (by rw [fcs_len HSIX.out]; exact infR) 47 _ HR.out (by rw [fcs_len Fr.zero_six, fcs_len HSIX.out]; omega) (fcs_one rfl rfl rfl) ?_; intro w3 hb3 hk3 hz3))
      have HR3 := Lib.hid (FB.of_all (f' := Fq) Fr.zero_six HSIX.out hb3)
      refine bodyPost_ret (res_cell0 Try.results18 rfl HR3.out.all Try.underlying47 rfl (by rw [fcs_len HSIX.out]; exact infR)) rfl ?_
      have ho3 := own_kept HO1.out hk3 (fun i hi hf => by cases hf; have := (HO1.out.lt _ hi).1; omega)
      obtain ⟨A4, c4, e4, ht4, hi4⟩ := Tags.of_own (l := t) (by rw [← HTL.out] at ho3; exact ho3) HOK.out
      refine ⟨.slice Aw q cw, by rw [HFQ.out]; rfl, ⟨A4, _, c4, by rw [← e4, HTL.out], ht4, fun i hx => by have := hi4 i hx; omega⟩, HK.out.fresh hk3 (fun i hi => by cases hi; exact Nat.le_succ _)⟩
end Go.Proofs.Ytbkjobmjapbmpaa
/- Arrays of bytes as arguments: from what is read to plain data. Nothing of the program is named here. -/
namespace Go.Proofs.Ytbkjobmjapbmpaa
open Go.RowKit Go.ChangeShapes Go.WideShapes

section
variable {H : Type} {enc : TypeId × Value → H} {P : Program} {w : World} {base : Nat} {spare : Nat → Bool} {held : Bool} {fuel : Nat} {t e : TypeId} {x : DataW H × List MemPlace}

theorem rd_arr (n : Nat) (ht : P.underlying t = some (.array n e)) (he : P.underlying e = some (.int .u8)) (hc : P.cellsOf e = 1) (hn : P.cellsOf t = n) {cs : List Value} (h : DataW.trod enc P w base spare held fuel t cs = some x) :
    ∃ l : List UInt8, l.length = n ∧ cs = bys l := by
  obtain ⟨xs, m, _, _, hl, hxs, hel⟩ := DataW.trod_array ht h
  rw [hc] at hel
  have : ∀ i, i < n → ∃ u : UInt8, cs[i]? = some (.int .u8 (u.toNat : Int)) := by
    intro i hi
    have h1 := hel i hi
    rw [List.getElem?_eq_getElem (by omega), Nat.mul_one] at h1
    have hci : i < cs.length := by omega
    have hd : (cs.drop i).take 1 = [cs[i]] := by
      rw [List.drop_eq_getElem_cons hci]
      rfl
    rw [hd] at h1
    obtain ⟨z, hz, _, hw⟩ := DataW.trod_int he h1
    have hb := wfu8 z hw
    refine ⟨UInt8.ofNat z.toNat, ?_⟩
    rw [List.getElem?_eq_getElem hci]
    simp at hz
    rw [hz]
    have : ((UInt8.ofNat z.toNat).toNat : Int) = z := by
      rw [UInt8.toNat_ofNat']
      omega
    rw [this]
  obtain ⟨l, hll, hp⟩ := pick n _ this
  refine ⟨l, hll, ?_⟩
  apply List.ext_getElem?
  intro i
  by_cases hi : i < n
  · rw [hp i (by omega)]
    simp [bys, show i < l.length by omega]
  · rw [List.getElem?_eq_none (by omega), List.getElem?_eq_none (by rw [bys_len]; omega)]

theorem open_arr (n : Nat) (ht : P.underlying t = some (.array n e)) (he : P.underlying e = some (.int .u8)) (hc : P.cellsOf e = 1) (hn : P.cellsOf t = n) {r : Reach} {b : Nat} {v : Value} {d : DataW H} {ps : List MemPlace}
    (hv : Value.okWide P w r b t v) (h : DataW.Trod enc P w base spare held t v d ps) : ∃ l : List UInt8, l.length = n ∧ v = .agg (bys l).toArray := by
  unfold Value.okWide at hv
  rw [ht] at hv
  obtain ⟨cs, rfl, _, _⟩ := hv
  obtain ⟨fuel, hf⟩ := h
  obtain ⟨l, hl, hcs⟩ := rd_arr n ht he hc hn hf
  refine ⟨l, hl, ?_⟩
  have : cs.toList = bys l := hcs
  rw [← this]
end
end Go.Proofs.Ytbkjobmjapbmpaa
