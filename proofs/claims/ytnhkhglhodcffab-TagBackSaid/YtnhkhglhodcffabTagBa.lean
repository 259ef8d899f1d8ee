/- tolllaw03.TagBack: the walk. -/
import Derived.Test.YtnhkhglhodcffabTagPu
import Derived.Test.YtnhkhglhodcffabTagM
import Derived.Deep.DeepCutAuto
namespace Go.Proofs.Ytnhkhglhodcffab
open Go.RowKit Go.Sort
set_option linter.unusedVariables false

/-- An append of bytes that is guarded, and wanted. -/
theorem wpList_any_on {P : Program} {w : World} {ops : Array Oper} {rest : List Oper} {o : Oper} {a : Act} {Q : Exit → Act → World → Prop} (hgd : Region.wanted o (yielded ops a.tmps) = true) (s x : Operand) (t : TypeId)
    (ho : o.op = .call { callee := .builtin .append, args := #[s, x], argTypes := #[t, t] }) (B e : Nat) (i : TypeInfo) (z : Value) (ht : P.underlying t = some (.slice e)) (hi : P.info? e = some i) (hz : i.zero = some z) (hsize : i.size = 1) (hby : i.bytes = 1) (hzs : z.cells.size = 1)
    (v : Value) (n : Nat) (xs : List Value) (hs : a.eval s = v) (hown : w.ownsRow B e 1 v n xs) (A : Option Addr) (m c : Nat) (l : List UInt8) (hx : a.eval x = .slice A m c) (hl : Byt w A m c l) (hb : n + m ≤ 140737488355328) (hB : B ≤ w.heap.size)
    (h : ∀ v' w', w'.ownsRow B e 1 v' (n + m) (xs ++ bys l) → w.grownBy w' v.ownBlock → (v'.ownBlock = v.ownBlock ∨ v'.ownBlock = some w.heap.size) → wpList P ops Q rest (a.put o.dst v') w') : wpList P ops Q (o :: rest) a w := by
  refine BigFrame.wpList_want hgd fun K hK => ?_
  obtain ⟨v', w', hr, h2, h3, h5⟩ := run_app (P := P) (ty := o.type) ht hi hz hsize hby hzs hown hl hb hB
  unfold Oper.wp execOp
  simp only [ho, resolve, invoke, builtin, Sem.run_bind, Sem.run_pure, Result.andThen_ok, List.map_toArray, List.map_cons, List.map_nil, hs, hx, hr]
  exact hK _ _ (h v' w' h2 h3 h5)
/-- The four stacks, where they lie. -/
def Lay4 (x y : Tg) (s : Nat) (u : World) : Prop :=
  Blo u s 38 #[.int .u16 (x.k : Int), .int .u8 (x.p : Int), .bool x.d, .int .u16 (x.n : Int)] ∧
  Blo u (s + 1) 38 #[.int .u16 (y.k : Int), .int .u8 (y.p : Int), .bool y.d, .int .u16 (y.n : Int)] ∧
  Blo u (s + 1 + 1) 38 #[.int .u16 (x.k : Int), .int .u8 (x.p : Int), .bool x.d, .int .u16 (x.n : Int), .int .u16 (y.k : Int), .int .u8 (y.p : Int), .bool y.d, .int .u16 (y.n : Int)] ∧
  Blo u (s + 1 + 1 + 1) 23 #[.slice none 0 0, .slice (some ⟨s, 0, none⟩) 1 1, .slice (some ⟨s + 1, 0, none⟩) 1 1, .slice (some ⟨s + 1 + 1, 0, none⟩) 2 2]
theorem Lay4.kept {x y : Tg} {s : Nat} {u u' : World} (h : Lay4 x y s u) (hk : Kept Nil u u') : Lay4 x y s u' :=
  ⟨h.1.kept hk (fun hf => hf), h.2.1.kept hk (fun hf => hf), h.2.2.1.kept hk (fun hf => hf), h.2.2.2.kept hk (fun hf => hf)⟩
theorem Lay4.at {x y : Tg} {s : Nat} {u : World} (h : Lay4 x y s u) (hx : x.ok) (hy : y.ok) (hmx : mayT x = true) (hmy : mayT y = true) (hyk : y.k = 33024) (k : Nat) (hk : k < 4) :
    ∃ A n l, u.cell? ⟨s + 1 + 1 + 1, k, none⟩ = some (.slice A n n) ∧ Tags u A n n l ∧ Stk l ∧ l.length = n ∧ n ≤ 2 := by
  obtain ⟨h1, h2, h3, h4⟩ := h
  rcases (show k = 0 ∨ k = 1 ∨ k = 2 ∨ k = 3 by omega) with rfl | rfl | rfl | rfl
  · exact ⟨none, 0, [], h4.cell 0, Tags.nil u, .inl rfl, rfl, by omega⟩
  · exact ⟨_, 1, [x], h4.cell 1, ⟨rws_blo ([x].map tgc) (tgc_len _) (by simp) h1 rfl 1 rfl, by simpa using hx⟩, .inr (.inl ⟨x, rfl, hmx⟩), rfl, by omega⟩
  · exact ⟨_, 1, [y], h4.cell 2, ⟨rws_blo ([y].map tgc) (tgc_len _) (by simp) h2 rfl 1 rfl, by simpa using hy⟩, .inr (.inl ⟨y, rfl, hmy⟩), rfl, by omega⟩
  · exact ⟨_, 2, [x, y], h4.cell 3, ⟨rws_blo ([x, y].map tgc) (tgc_len _) (by simp) h3 rfl 2 rfl, by simpa using ⟨hx, hy⟩⟩, .inr (.inr ⟨x, y, rfl, hmx, hmy, hyk⟩), rfl, by omega⟩

set_option maxRecDepth 100000 in
set_option maxHeartbeats 8000000 in
theorem tback_yes (x0 y0 : Tg) (hx0 : x0.ok) (hy0 : y0.ok) (A : Option Addr) (n c : Nat) (bl : List UInt8) (w : World) (h : Byt w A n c bl) :
    Calls Try.prog 4 #[tgv x0, tgv y0, .slice A n c] w fun e w' => e = .returned (.bool true) ∧ Below w.heap.size w w' := by
  have hnc := h.2.1
  have hcc := h.2.2.1
  obtain ⟨m, hmin, hmn, hm60⟩ : ∃ m : Nat, (if (60 : Int) < (n : Int) then (60 : Int) else (n : Int)) = (m : Int) ∧ m ≤ n ∧ m ≤ 60 := ⟨min n 60, by split <;> omega, by omega, by omega⟩
  have hsl := run_cut_hi (P := Try.prog) Try.underlying22 inf5.1 A n c m (m : Int) rfl (by omega)
  have hb := h.pre hmn
  generalize bl.take m = b at hb
  have hwk : ∀ u, Calls Try.prog _ _ u _ := fun u => wakes_yes u
  have bx : ∀ u, Calls Try.prog _ _ u _ := fun u => brought_yes x0 hx0 u
  have byy : ∀ u, Calls Try.prog _ _ u _ := fun u => brought_yes y0 hy0 u
  have hmx := broM_may x0
  have hmy' := broM_may y0
  have hxo := broM_ok x0
  have hyo' := broM_ok y0
  generalize broM x0 = x at *
  generalize broM y0 = y' at *
  obtain ⟨y, hyd⟩ : ∃ y : Tg, y = ⟨33024, y'.p, y'.d, y'.n⟩ := ⟨_, rfl⟩
  have hyk : y.k = 33024 := by rw [hyd]
  have hyo : y.ok := by rw [hyd]; exact ⟨by show (33024 : Nat) < 65536; decide, hyo'.p, hyo'.n⟩
  have hmy : mayT y = true := by
    rw [hyd, mayT_iff]
    exact ⟨.inr rfl, ((mayT_iff y').1 hmy').2⟩
  have hbx : Blo ((w.alloc (.cells (tgc x0).toArray 38)).alloc (.cells (tgc y0).toArray 38)) w.heap.size 38 (tgc x0).toArray := (Blo.new w 38 (tgc x0).toArray).alloc _
  have hby : Blo ((w.alloc (.cells (tgc x0).toArray 38)).alloc (.cells (tgc y0).toArray 38)) (w.heap.size + 1) 38 (tgc y0).toArray := Blo.at_new (by simp)
  have hk0 : Kept Nil w ((w.alloc (.cells (tgc x0).toArray 38)).alloc (.cells (tgc y0).toArray 38)) := ((Kept.refl Nil w).alloc _).alloc _
  simp only [tgc] at hbx hby hk0
  unfold tgv at bx byy
  have HW := Lib.hid hwk
  have BX := Lib.hid bx
  have BY := Lib.hid byy
  have HX0 := Lib.hid hbx
  have HY0 := Lib.hid hby
  have HK0 := Lib.hid hk0
  have HMX := Lib.hid hmx
  have HMY := Lib.hid hmy
  have HYD := Lib.hid hyd
  have HYK := Lib.hid hyk
  have HB := Lib.hid hb
  clear hwk bx byy hbx hby hk0 hmx hmy hmy' hyo' hx0 hy0 hyd hyk h hb
  go_enter Try.func4, Try.ntmps4
  unfold tgv
  go_wp2
  refine wp_region_tail 4 (by kernel_rfl) (by kernel_rfl) ?_
  simp only [List.take_succ_cons, List.take_zero, List.drop_succ_cons, List.drop_zero]
  have c0 := HX0.out.gcell 0
  have c1 := HX0.out.gcell 1
  have c2 := HX0.out.gcell 2
  have c3 := HX0.out.gcell 3
  have d0 := HY0.out.gcell 0
  have d1 := HY0.out.gcell 1
  have d2 := HY0.out.gcell 2
  have d3 := HY0.out.gcell 3
  simp at c0 c1 c2 c3 d0 d1 d2 d3
  repeat (go_big_quiet_step (first | (with_reducible exact quietK (BX.out _)) | (with_reducible exact quietK (BY.out _))))
  refine wpQuiet_nil ?_
  rintro wn ⟨nq, hw⟩
  have hkn : Kept Nil ((w.alloc (.cells #[.int .u16 (x0.k : Int), .int .u8 (x0.p : Int), .bool x0.d, .int .u16 (x0.n : Int)] 38)).alloc (.cells #[.int .u16 (y0.k : Int), .int .u8 (y0.p : Int), .bool y0.d, .int .u16 (y0.n : Int)] 38)) wn := by rw [hw]; exact kept_grown _ _
  have hx1 := HX0.out.kept hkn (fun hf => hf)
  have hy1 := HY0.out.kept hkn (fun hf => hf)
  obtain ⟨hx2, hk2⟩ := blo_store4 hx1 (.int .u16 (x.k : Int)) (.int .u8 (x.p : Int)) (.bool x.d) (.int .u16 (x.n : Int))
  have hy2 := hy1.kept hk2 (by intro hf; simp [One] at hf)
  obtain ⟨hy3, hk3⟩ := blo_store4 hy2 (.int .u16 (y'.k : Int)) (.int .u8 (y'.p : Int)) (.bool y'.d) (.int .u16 (y'.n : Int))
  have hx3 := hx2.kept hk3 (by intro hf; simp [One] at hf)
  have hkw := ((HK0.out.then hkn).fresh hk2 (fun i hi => by cases hi; exact Nat.le_refl _)).fresh hk3 (fun i hi => by cases hi; exact Nat.le_succ _)
  have e0 := hx1.cell 0
  have e1 := hx1.cell 1
  have e2 := hx1.cell 2
  have e3 := hx1.cell 3
  have g0 := hy1.cell 0
  have g1 := hy1.cell 1
  have g2 := hy1.cell 2
  have g3 := hy1.cell 3
  simp at e0 e1 e2 e3 g0 g1 g2 g3
  have f0 := hx1.frozen 0
  have f1 := hx1.frozen 1
  have f2 := hx1.frozen 2
  have f3 := hx1.frozen 3
  have h0 := hy1.frozen 0
  have h1 := hy1.frozen 1
  have h2 := hy1.frozen 2
  have h3 := hy1.frozen 3
  have hz : w.heap.size + 1 < wn.heap.size := hy1.lt
  have HX3 := Lib.hid hx3
  have HY3 := Lib.hid hy3
  have HKW := Lib.hid hkw
  clear hw hkn hx1 hy1 hx2 hk2 hy2 hy3 hk3 hx3 hkw c0 c1 c2 c3 d0 d1 d2 d3
  go_upto_region 3 with (fail)
  refine wp_name (fun W => Blo W w.heap.size 38 #[.int .u16 (x.k : Int), .int .u8 (x.p : Int), .bool x.d, .int .u16 (x.n : Int)] ∧ Blo W (w.heap.size + 1) 38 #[.int .u16 (y'.k : Int), .int .u8 (y'.p : Int), .bool y'.d, .int .u16 (y'.n : Int)] ∧ Kept Nil w W) ⟨HX3.out, HY3.out, HKW.out⟩ ?_
  clear e0 e1 e2 e3 g0 g1 g2 g3 f0 f1 f2 f3 h0 h1 h2 h3 hz HX3 HY3 HKW HX0 HY0 HK0 BX BY
  rintro w1 ⟨hx, hy, hk⟩
  have hy2 := hy.set 0 (.int .u16 33024)
  simp at hy2
  have hx2 := hx.kept (Kept.one w1 (w.heap.size + 1) 0 none (.int .u16 33024)) (by intro hf; simp [One] at hf)
  have hk2 := hk.fresh (Kept.one w1 (w.heap.size + 1) 0 none (.int .u16 33024)) (fun i hi => by cases hi; exact Nat.le_succ _)
  have g0 := hy.cell 0
  simp at g0
  have h0 := hy.frozen 0
  have HY2 := Lib.hid (show Blo (w1.setCell ⟨w.heap.size + 1, 0, none⟩ (.int .u16 33024)) (w.heap.size + 1) 38 #[.int .u16 (y.k : Int), .int .u8 (y.p : Int), .bool y.d, .int .u16 (y.n : Int)] by rw [HYD.out]; exact hy2)
  have HX2 := Lib.hid hx2
  have HK2 := Lib.hid hk2
  clear hx hy hk hx2 hy2 hk2
  go_upto_region 4 with (fail)
  refine wp_name (fun W => Blo W w.heap.size 38 #[.int .u16 (x.k : Int), .int .u8 (x.p : Int), .bool x.d, .int .u16 (x.n : Int)] ∧ Blo W (w.heap.size + 1) 38 #[.int .u16 (y.k : Int), .int .u8 (y.p : Int), .bool y.d, .int .u16 (y.n : Int)] ∧ Kept Nil w W) ⟨HX2.out, HY2.out, HK2.out⟩ ?_
  clear g0 h0 HX2 HY2 HK2
  rintro w2 ⟨hx, hy, hk⟩
  have c0 := hx.cell 0
  have c1 := hx.cell 1
  have c2 := hx.cell 2
  have c3 := hx.cell 3
  have d0 := hy.cell 0
  have d1 := hy.cell 1
  have d2 := hy.cell 2
  have d3 := hy.cell 3
  simp at c0 c1 c2 c3 d0 d1 d2 d3
  have hz : w.heap.size + 1 < w2.heap.size := hy.lt
  have hz0 : w.heap.size < w2.heap.size := hx.lt
  have hz1 : w.heap.size < w2.heap.size + 1 := by omega
  have hz2 : w.heap.size < w2.heap.size + 1 + 1 := by omega
  have HK := Lib.hid hk
  have hl4 : Lay4 x y w2.heap.size ((((w2.alloc (.cells #[.int .u16 (x.k : Int), .int .u8 (x.p : Int), .bool x.d, .int .u16 (x.n : Int)] 38)).alloc (.cells #[.int .u16 (y.k : Int), .int .u8 (y.p : Int), .bool y.d, .int .u16 (y.n : Int)] 38)).alloc (.cells #[.int .u16 (x.k : Int), .int .u8 (x.p : Int), .bool x.d, .int .u16 (x.n : Int), .int .u16 (y.k : Int), .int .u8 (y.p : Int), .bool y.d, .int .u16 (y.n : Int)] 38)).alloc (.cells #[.slice none 0 0, .slice (some ⟨w2.heap.size, 0, none⟩) 1 1, .slice (some ⟨w2.heap.size + 1, 0, none⟩) 1 1, .slice (some ⟨w2.heap.size + 1 + 1, 0, none⟩) 2 2] 23)) := by
    refine ⟨(((Blo.new w2 _ _).alloc _).alloc _).alloc _, ((Blo.at_new (by simp)).alloc _).alloc _, (Blo.at_new (by simp)).alloc _, Blo.at_new (by simp)⟩
  have hk4 := (((hk.alloc (.cells #[.int .u16 (x.k : Int), .int .u8 (x.p : Int), .bool x.d, .int .u16 (x.n : Int)] 38)).alloc (.cells #[.int .u16 (y.k : Int), .int .u8 (y.p : Int), .bool y.d, .int .u16 (y.n : Int)] 38)).alloc (.cells #[.int .u16 (x.k : Int), .int .u8 (x.p : Int), .bool x.d, .int .u16 (x.n : Int), .int .u16 (y.k : Int), .int .u8 (y.p : Int), .bool y.d, .int .u16 (y.n : Int)] 38)).alloc (.cells #[.slice none 0 0, .slice (some ⟨w2.heap.size, 0, none⟩) 1 1, .slice (some ⟨w2.heap.size + 1, 0, none⟩) 1 1, .slice (some ⟨w2.heap.size + 1 + 1, 0, none⟩) 2 2] 23)
  have HL4 := Lib.hid hl4
  have HK4 := Lib.hid hk4
  clear hx hy hk hl4 hk4
  go_wp2
  go_loopw [40] (fun i wr => ∃ k : Nat, k ≤ 4 ∧ i = .int .i64 (k : Int) ∧ Lay4 x y w2.heap.size wr ∧ Kept Nil w wr) (fun i _ => 4 - (intOf i).toNat)
  case atStart => exact ⟨0, by omega, rfl, HL4.out, HK4.out⟩
  case round =>
    clear HL4 HK4 HK c0 c1 c2 c3 d0 d1 d2 d3 hz hz0 hz1 hz2
    obtain ⟨k, hk, rfl, hl, hkp⟩ := hrel
    have HKR := Lib.hid hkp
    have HLR := Lib.hid hl
    have HBR := Lib.hid (HB.out.kept hkp (fun _ _ hf => hf))
    by_cases hlt : k < 4
    · obtain ⟨Al, nl, l, hcell, htg, hstk, hln, hn2⟩ := hl.at hxo hyo HMX.out HMY.out HYK.out k hlt
      have HT := Lib.hid htg
      have HS := Lib.hid hstk
      have HLN := Lib.hid hln
      clear hl hkp htg hstk hln
      go_wp2_with fail
      refine (bytes_yes Al nl nl l _ HT.out (by omega)).mono ?_
      rintro e w3 ⟨v3, rfl, hm⟩
      rw [HS.out.bytes] at hm
      obtain ⟨M, hM⟩ : ∃ M, (bytTs l).length = M := ⟨_, rfl⟩
      have hMn : M = 4 * nl := by rw [← hM, bytTs_len, HLN.out]; omega
      have hb3 := byt_own hm
      rw [hM] at hb3
      have HMN := Lib.hid hMn
      have hM8 : M ≤ 8 := by omega
      clear hMn
      obtain ⟨Aa, ca, rfl, hya, _⟩ := hb3
      have hca := hya.2.1
      have hcb := hya.2.2.1
      have HYA := Lib.hid hya
      have HM := Lib.hid hM
      have HK3 := Lib.hid (HKR.out.then hm.2)
      have HL3 := Lib.hid (HLR.out.kept hm.2)
      have HB3 := Lib.hid (HBR.out.kept hm.2 (fun _ _ hf => hf))
      have HT3 := Lib.hid (HT.out.kept hm.2 (fun _ _ hf => hf))
      clear hm hya hM hcell
      go_wp2_with fail
      refine (may_yes Al nl nl l _ HT3.out).mono ?_
      rintro e w4 ⟨rfl, hk4⟩
      rw [HS.out.may]
      have HYA4 := Lib.hid (HYA.out.kept hk4 (fun _ _ hf => hf))
      have HK4 := Lib.hid (HK3.out.then hk4)
      have HL4 := Lib.hid (HL3.out.kept hk4)
      have HB4 := Lib.hid (HB3.out.kept hk4 (fun _ _ hf => hf))
      have HT4 := Lib.hid (HT3.out.kept hk4 (fun _ _ hf => hf))
      clear hk4
      have hne : ((M : Int) != 4 * (nl : Int)) = false := by have := HMN.out; simp; omega
      have hn2' : (nl : Int) ≤ 2 := by omega
      go_upto_region 10 with (fail)
      go_cut [10] (fun s wx => s = .bool (begM b nl) ∧ Hid (w4 = wx))
      case first =>
        by_cases hm2 : m < 2
        · have hbg : begM b nl = false := by unfold begM; rw [decide_eq_false (by rw [HB4.out.1]; omega)]; rfl
          have HBG := Lib.hid hbg
          have hm2' : ¬ ((2 : Int) ≤ (m : Int)) := by omega
          clear hbg hm2
          go_wp2_with fail
          go_meet
          exact ⟨by rw [HBG.out], Lib.hid rfl⟩
        · obtain ⟨a, d, r, rfl⟩ := two_of b (by rw [HB4.out.1]; omega)
          obtain ⟨B, o, rfl, q0⟩ := HB4.out.at (i := 0) (by simp)
          obtain ⟨B', o', e', q1⟩ := HB4.out.at (i := 1) (by simp)
          cases e'
          simp at q0 q1
          have hm2' : (2 : Int) ≤ (m : Int) := by omega
          have hbeg : begM (a :: d :: r) nl = ((a == 129 && d == 0) || (a == 136 && d == 168 && nl == 0)) := by simp [begM]
          by_cases p1 : a = 129 ∧ d = 0
          · obtain ⟨rfl, rfl⟩ := p1
            simp at q0 q1
            have HBG := Lib.hid (show begM (129 :: 0 :: r) nl = true by rw [hbeg]; rfl)
            clear hbeg
            go_wp2_with fail
            go_meet
            exact ⟨by rw [HBG.out], Lib.hid rfl⟩
          · by_cases p2 : a = 136 ∧ d = 168
            · obtain ⟨rfl, rfl⟩ := p2
              simp at q0 q1
              cases hz : ((nl : Int) == 0)
              · have HBG := Lib.hid (show begM (136 :: 168 :: r) nl = false by
                  rw [hbeg]
                  have : (nl == 0) = false := by simp at hz ⊢; omega
                  rw [this]; rfl)
                clear hbeg
                go_wp2_with fail
                go_meet
                exact ⟨by rw [HBG.out], Lib.hid rfl⟩
              · have HBG := Lib.hid (show begM (136 :: 168 :: r) nl = true by
                  rw [hbeg]
                  have : (nl == 0) = true := by simp at hz ⊢; omega
                  rw [this]; rfl)
                clear hbeg
                go_wp2_with fail
                go_meet
                exact ⟨by rw [HBG.out], Lib.hid rfl⟩
            · have HBG := Lib.hid (show begM (a :: d :: r) nl = false by
                rw [hbeg]
                have h1 : (a == 129 && d == 0) = false := by rw [Bool.eq_false_iff]; intro h; simp at h; exact p1 h
                have h2 : (a == 136 && d == 168) = false := by rw [Bool.eq_false_iff]; intro h; simp at h; exact p2 h
                rw [h1, h2]; rfl)
              have P1 : ∀ x : UInt8, ((x.toNat : Int) == 129) = (x == 129) := fun x => by rw [Bool.eq_iff_iff]; simp [← UInt8.toNat_inj]; omega
              have P2 : ∀ x : UInt8, ((x.toNat : Int) == 136) = (x == 136) := fun x => by rw [Bool.eq_iff_iff]; simp [← UInt8.toNat_inj]; omega
              have P3 : ∀ x : UInt8, ((x.toNat : Int) == 0) = (x == 0) := fun x => by rw [Bool.eq_iff_iff]; simp [← UInt8.toNat_inj]
              have P4 : ∀ x : UInt8, ((x.toNat : Int) == 168) = (x == 168) := fun x => by rw [Bool.eq_iff_iff]; simp [← UInt8.toNat_inj]; omega
              have hor : (((a.toNat : Int) == 129) = true ∧ ((d.toNat : Int) == 0) = false ∧ ((a.toNat : Int) == 136) = false) ∨ (((a.toNat : Int) == 129) = false ∧ ((a.toNat : Int) == 136) = true ∧ ((d.toNat : Int) == 168) = false) ∨ (((a.toNat : Int) == 129) = false ∧ ((a.toNat : Int) == 136) = false) := by
                rw [P1 a, P2 a, P3 d, P4 d]
                by_cases h1 : a = 129
                · subst h1
                  refine .inl ⟨rfl, ?_, rfl⟩
                  simp at p1 ⊢; exact p1
                · by_cases h2 : a = 136
                  · subst h2
                    refine .inr (.inl ⟨rfl, rfl, ?_⟩)
                    simp at p2 ⊢; exact p2
                  · exact .inr (.inr ⟨by simpa using h1, by simpa using h2⟩)
              clear hbeg P1 P2 P3 P4 p1 p2
              rcases hor with ⟨f1, f2, f3⟩ | ⟨f1, f2, f3⟩ | ⟨f1, f2⟩
              · go_wp2_with fail
                go_meet
                exact ⟨by rw [HBG.out], Lib.hid rfl⟩
              · go_wp2_with fail
                go_meet
                exact ⟨by rw [HBG.out], Lib.hid rfl⟩
              · go_wp2_with fail
                go_meet
                exact ⟨by rw [HBG.out], Lib.hid rfl⟩
      case rest =>
        obtain ⟨rfl, hw4⟩ := hcut
        have ew := hw4.out
        clear hw4
        subst ew
        go_wp2_with fail
        refine (bclone Aa M ca (bytTs l) _ HYA4.out (by omega)).mono ?_
        rintro e w5 ⟨v5, rfl, hm⟩
        have ho5 := hm.1
        rw [HM.out] at ho5
        obtain ⟨A5, c5, rfl⟩ := own_form ho5
        have HO5 := Lib.hid ho5
        have HK5 := Lib.hid hm.2
        have HB5 := Lib.hid (HB4.out.kept hm.2 (fun _ _ hf => hf))
        have hsz5 := hm.2.size
        clear hm ho5
        obtain ⟨i0, hi, hz0, hz1, hz2⟩ := info_parts Try.infb
        go_wp2_with (at_builtin; refine wpList_any rfl _ _ 22 rfl w4.heap.size 5 i0 (.int .u8 0) Try.underlying22 hi hz0 hz1 hz2 rfl _ _ _ rfl HO5.out A m c b rfl HB5.out (by omega) hsz5 ?_; intro v' w6 hown' hgrow _)
        have hk6 : Kept Nil w4 w6 := HK5.out.grown hgrow (fun j hj hj' => absurd hj' (Nat.not_lt.2 (own_block_ge HO5.out j hj)))
        rw [← bys_app] at hown'
        obtain ⟨A6, c6, rfl, hy6, _⟩ := Byt.of_own hown'
        have HY6 := Lib.hid hy6
        have HK6 := Lib.hid hk6
        clear hown' hgrow hy6 hk6 hsz5 hi hz0 hz1 hz2
        go_wp2_with fail
        refine (read_yes A6 (M + m) c6 (bytTs l ++ b) _ HY6.out (by omega)).mono ?_
        rintro e w7 ⟨v7, v8, rfl, hm⟩
        obtain ⟨R, hR⟩ : ∃ R, readM (bytTs l ++ b) = R := ⟨_, rfl⟩
        rw [hR] at hm ⊢
        obtain ⟨ts, rr, er⟩ := R
        simp only at hm ⊢
        obtain ⟨A7, c7, rfl, ht7, _⟩ := Tags.of_own hm.tags hm.ok
        obtain ⟨A8, c8, rfl, hy8, _⟩ := Byt.of_own hm.rest
        have HK7 := Lib.hid (HK6.out.then hm.kept)
        have HT7 := Lib.hid ht7
        have HY8 := Lib.hid hy8
        have HTL := Lib.hid (HT4.out.kept HK7.out (fun _ _ hf => hf))
        have HB7 := Lib.hid (HB4.out.kept HK7.out (fun _ _ hf => hf))
        have HYA7 := Lib.hid (HYA4.out.kept HK7.out (fun _ _ hf => hf))
        have HKW7 := Lib.hid (HK4.out.then HK7.out)
        have HL7 := Lib.hid (HL4.out.kept HK7.out)
        have HRR := Lib.hid hR
        clear hm ht7 hy8 hR
        go_upto_region 12 with (fail)
        go_cut [10, 120] (fun s10 s120 wx => ∃ bb, s10 = .bool bb ∧ s120 = .bool false ∧ Hid (Kept Nil w7 wx))
        case first =>
          by_cases hc1 : nl = 2 ∨ begM b nl = false
          · have hr := HS.out.read b (by rw [HLN.out]; exact hc1)
            rw [HRR.out] at hr
            simp only [Prod.mk.injEq] at hr
            have HE1 := Lib.hid hr.1
            have HE2 := Lib.hid (show (rr == b) = true by rw [hr.2.1]; exact beq_self_eq_true b)
            have her : (er != 0) = false := by rw [hr.2.2]; rfl
            clear hr
            by_cases hn : nl = 2
            · have hnb : ((nl : Int) == 2) = true := by simp; omega
              clear hc1 hn
              go_wp2_with fail
              refine (equal_t _ _ _ _ _ _ _ _ _ HT7.out HTL.out).mono ?_
              rintro e w9 ⟨rfl, hk9⟩
              rw [decide_eq_true HE1.out]
              have HY9 := Lib.hid (HY8.out.kept hk9 (fun _ _ hf => hf))
              have HB9 := Lib.hid (HB7.out.kept hk9 (fun _ _ hf => hf))
              have HK9 := Lib.hid hk9
              clear hk9
              go_wp2_with fail
              refine (equal _ _ _ _ _ _ _ _ _ HY9.out HB9.out).mono ?_
              rintro e w10 ⟨rfl, rfl⟩
              rw [HE2.out]
              go_wp2_with fail
              go_meet
              exact ⟨_, rfl, rfl, HK9⟩
            · have hbf := hc1.resolve_left hn
              have hnb : ((nl : Int) == 2) = false := by simp; omega
              rw [hbf]
              clear hc1 hn hbf
              go_wp2_with fail
              refine (equal_t _ _ _ _ _ _ _ _ _ HT7.out HTL.out).mono ?_
              rintro e w9 ⟨rfl, hk9⟩
              rw [decide_eq_true HE1.out]
              have HY9 := Lib.hid (HY8.out.kept hk9 (fun _ _ hf => hf))
              have HB9 := Lib.hid (HB7.out.kept hk9 (fun _ _ hf => hf))
              have HK9 := Lib.hid hk9
              clear hk9
              go_wp2_with fail
              refine (equal _ _ _ _ _ _ _ _ _ HY9.out HB9.out).mono ?_
              rintro e w10 ⟨rfl, rfl⟩
              rw [HE2.out]
              go_wp2_with fail
              go_meet
              exact ⟨_, rfl, rfl, HK9⟩
          · have hn : ¬ nl = 2 := fun e => hc1 (.inl e)
            have hbf : begM b nl = true := by
              cases hb9 : begM b nl
              · exact absurd (.inr hb9) hc1
              · rfl
            have hnb : ((nl : Int) == 2) = false := by simp; omega
            rw [hbf]
            clear hc1 hn hbf
            go_wp2_with fail
            go_meet
            exact ⟨_, rfl, rfl, Lib.hid (Kept.refl _ _)⟩
        case rest =>
          obtain ⟨bb, rfl, rfl, HK8⟩ := hcut
          have HKW8 := Lib.hid (HKW7.out.then HK8.out)
          have HL8 := Lib.hid (HL7.out.kept HK8.out)
          have HYA8 := Lib.hid (HYA7.out.kept HK8.out (fun _ _ hf => hf))
          go_wp2
          go_loopw [123] (fun i wi => ∃ j : Nat, j ≤ M ∧ i = .int .i64 (j : Int) ∧ Hid (Kept Nil wc wi)) (fun i _ => M - (intOf i).toNat)
          case atStart => exact ⟨0, by omega, rfl, Lib.hid (Kept.refl _ _)⟩
          case round =>
            obtain ⟨j, hj, rfl, HJ⟩ := hrel
            by_cases hjl : j < M
            · have hslj := run_cut_hi (P := Try.prog) Try.underlying22 inf5.1 Aa M ca j (j : Int) rfl (by omega)
              have hpre := (HYA8.out.kept HJ.out (fun _ _ hf => hf)).pre (hi := j) (by omega)
              have HP := Lib.hid hpre
              have hcut := HS.out.cut j (by have := HMN.out; rw [HLN.out]; omega)
              have HC := Lib.hid hcut
              clear hpre hcut
              go_wp2_with fail
              refine (read_yes Aa j ca ((bytTs l).take j) _ HP.out (by omega)).mono ?_
              rintro e w9 ⟨v9, v10, rfl, hm⟩
              obtain ⟨A9, c9, rfl⟩ := own_form hm.tags
              obtain ⟨A10, c10, rfl⟩ := own_form hm.rest
              have HK9 := Lib.hid (HJ.out.then hm.kept)
              rw [HC.out]
              clear hm
              by_cases h2 : 2 ≤ j % 4
              · rw [if_pos h2]
                have h2' : (2 : Int) ≤ (j : Int) % 4 := by omega
                clear h2
                go_wp2
                go_roundw
                case rel => exact ⟨j + 1, by omega, by go_num, HK9⟩
                case measure => simp [intOf]; omega
              · rw [if_neg h2]
                have h2' : ¬ (2 : Int) ≤ (j : Int) % 4 := by omega
                clear h2
                go_wp2
                go_roundw
                case rel => exact ⟨j + 1, by omega, by go_num, HK9⟩
                case measure => simp [intOf]; omega
            · obtain rfl : j = M := by omega
              have HKE := Lib.hid (HKW8.out.then HJ.out)
              have HLE := Lib.hid (HL8.out.kept HJ.out)
              go_wp2
              go_roundw
              case rel => exact ⟨k + 1, by omega, by go_num, HLE.out, HKE.out⟩
              case measure => simp [intOf]; omega
    · obtain rfl : k = 4 := by omega
      have HWU := HW
      clear HMX HMY HYD HYK HLR hl hkp hxo hyo
      go_wp2_with fail
      refine (read_yes A m c b _ HBR.out (by omega)).mono ?_
      rintro e w3 ⟨v3, v4, rfl, hm⟩
      have hback := readM_back b
      obtain ⟨R, hR⟩ : ∃ R, readM b = R := ⟨_, rfl⟩
      rw [hR] at hm hback ⊢
      obtain ⟨ts, rr, er⟩ := R
      simp only at hm hback ⊢
      obtain ⟨A7, c7, rfl, ht7, _⟩ := Tags.of_own hm.tags hm.ok
      obtain ⟨A8, c8, rfl, hy8, _⟩ := Byt.of_own hm.rest
      have HK3 := Lib.hid (HKR.out.then hm.kept)
      have HT3 := Lib.hid ht7
      have HY3 := Lib.hid hy8
      have HB3 := Lib.hid (HBR.out.kept hm.kept (fun _ _ hf => hf))
      clear hm ht7 hy8 hR
      rcases hback with ⟨rfl, rfl, rfl⟩ | ⟨rfl, hmay, hbk⟩
      · go_wp2_with fail
        refine (HW.out _).mono ?_
        rintro e w5 ⟨rfl, hk5⟩
        have HK5 := Lib.hid (HK3.out.then hk5)
        clear hk5
        go_wp2
        go_ret
        exact ⟨rfl, HK5.out.below (Nat.le_refl _) (fun _ hf => hf.elim)⟩
      · have HBK := Lib.hid hbk
        have HMAY := Lib.hid hmay
        have hts : ts.length ≤ 2 := by
          rcases (mayL_iff ts).1 hmay with rfl | ⟨_, rfl, _⟩ | ⟨_, _, rfl, _⟩ <;> simp
        have hrl : rr.length ≤ 60 := by
          have h1 := HB3.out.1
          rw [← hbk, List.length_append] at h1
          omega
        have hbl : (bytesM ts).length ≤ 60 := by
          have h1 := HB3.out.1
          rw [← hbk, List.length_append] at h1
          omega
        clear hbk hmay
        go_wp2_with fail
        refine (may_yes _ _ _ _ _ HT3.out).mono ?_
        rintro e w4 ⟨rfl, hk4⟩
        rw [HMAY.out]
        have HK4 := Lib.hid (HK3.out.then hk4)
        have HT4 := Lib.hid (HT3.out.kept hk4 (fun _ _ hf => hf))
        have HY4 := Lib.hid (HY3.out.kept hk4 (fun _ _ hf => hf))
        have HB4 := Lib.hid (HB3.out.kept hk4 (fun _ _ hf => hf))
        clear hk4
        go_wp2_with fail
        refine (bytes_yes _ _ _ ts _ HT4.out (by omega)).mono ?_
        rintro e w5 ⟨v5, rfl, hm⟩
        obtain ⟨A5, c5, hv5⟩ := own_form hm.1
        subst hv5
        have HO5 := Lib.hid hm.1
        have HK5 := Lib.hid hm.2
        have HY5 := Lib.hid (HY4.out.kept hm.2 (fun _ _ hf => hf))
        have HB5 := Lib.hid (HB4.out.kept hm.2 (fun _ _ hf => hf))
        have hsz5 := hm.2.size
        clear hm
        obtain ⟨i0, hi, hz0, hz1, hz2⟩ := info_parts Try.infb
        have HH := Lib.hid (And.intro hi (And.intro hz0 (And.intro hz1 hz2)))
        have HSZ := Lib.hid hsz5
        clear hi hz0 hz1 hz2 hsz5
        go_wp2_with (at_builtin; refine wpList_any_on rfl _ _ 22 rfl w4.heap.size 5 i0 (.int .u8 0) Try.underlying22 HH.out.1 HH.out.2.1 HH.out.2.2.1 HH.out.2.2.2 rfl _ _ _ rfl HO5.out A8 rr.length c8 rr rfl HY5.out (by omega) HSZ.out ?_; intro v' w6 hown' hgrow _)
        have hk6 : Kept Nil w4 w6 := HK5.out.grown hgrow (fun j hj hj' => absurd hj' (Nat.not_lt.2 (own_block_ge HO5.out j hj)))
        rw [← bys_app, HBK.out] at hown'
        obtain ⟨A6, c6, rfl, hy6, _⟩ := Byt.of_own hown'
        have HY6 := Lib.hid hy6
        have HB6 := Lib.hid (HB4.out.kept hk6 (fun _ _ hf => hf))
        have HK6 := Lib.hid (HK4.out.then hk6)
        clear hown' hgrow hy6 hk6
        go_wp2_with fail
        refine (equal _ _ _ _ _ _ _ _ _ HY6.out HB6.out).mono ?_
        rintro e w7 ⟨rfl, rfl⟩
        rw [beq_self_eq_true]
        go_wp2_with fail
        refine (HW.out _).mono ?_
        rintro e w8 ⟨rfl, hk8⟩
        have HK8 := Lib.hid (HK6.out.then hk8)
        clear hk8
        go_wp2
        go_ret
        exact ⟨rfl, HK8.out.below (Nat.le_refl _) (fun _ hf => hf.elim)⟩
theorem tback_all (x0 y0 : Tg) (A : Option Addr) (n c : Nat) (bl : List UInt8) (w : World) (hx0 : x0.ok) (hy0 : y0.ok) (h : Byt w A n c bl) :
    Calls Try.prog 4 #[tgv x0, tgv y0, .slice A n c] w fun e w' => e = .returned (.bool true) ∧ Below w.heap.size w w' := tback_yes x0 y0 hx0 hy0 A n c bl w h
end Go.Proofs.Ytnhkhglhodcffab
