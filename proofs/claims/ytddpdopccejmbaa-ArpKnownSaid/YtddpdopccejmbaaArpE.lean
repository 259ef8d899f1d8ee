/- tollref05: contracts of number and Get. -/
import Derived.Test.YtddpdopccejmbaaArpC
import Derived.Test.YtddpdopccejmbaaUpto
namespace Go.Proofs.Ytddpdopccejmbaa
open Go.RowKit Go.Sort
set_option linter.unusedVariables false

theorem ret_eq {k : IntKind} {a b : Int} (h : a = b) : Ending.returned (.int k a) = .returned (.int k b) := by rw [h]
theorem four_of (l : List UInt8) (h : 4 ≤ l.length) : ∃ a b c d r, l = a :: b :: c :: d :: r := by
  match l, h with
  | a :: b :: c :: d :: r, _ => exact ⟨a, b, c, d, r, rfl⟩
theorem num_four (a b c d : UInt8) : numM [a, b, c, d] = a.toNat * 16777216 + b.toNat * 65536 + c.toNat * 256 + d.toNat := by simp only [numM, List.foldl_cons, List.foldl_nil]; omega
theorem num_wrap (a b c d : UInt8) : IntKind.wrap .u32 (a.toNat : Int) = (a.toNat : Int) ∧ IntKind.wrap .u32 ((a.toNat : Int) * 16777216) = (a.toNat : Int) * 16777216 ∧ IntKind.wrap .u32 (b.toNat : Int) = (b.toNat : Int) ∧ IntKind.wrap .u32 ((b.toNat : Int) * 65536) = (b.toNat : Int) * 65536 ∧
    IntKind.wrap .u32 ((a.toNat : Int) * 16777216 + (b.toNat : Int) * 65536) = (a.toNat : Int) * 16777216 + (b.toNat : Int) * 65536 ∧ IntKind.wrap .u32 (c.toNat : Int) = (c.toNat : Int) ∧ IntKind.wrap .u32 ((c.toNat : Int) * 256) = (c.toNat : Int) * 256 ∧
    IntKind.wrap .u32 ((a.toNat : Int) * 16777216 + (b.toNat : Int) * 65536 + (c.toNat : Int) * 256) = (a.toNat : Int) * 16777216 + (b.toNat : Int) * 65536 + (c.toNat : Int) * 256 ∧ IntKind.wrap .u32 (d.toNat : Int) = (d.toNat : Int) ∧
    IntKind.wrap .u32 ((a.toNat : Int) * 16777216 + (b.toNat : Int) * 65536 + (c.toNat : Int) * 256 + (d.toNat : Int)) = (numM [a, b, c, d] : Int) := by
  have ha := a.toNat_lt
  have hb := b.toNat_lt
  have hc := c.toNat_lt
  have hd := d.toNat_lt
  rw [num_four]
  refine ⟨IntWalk.u32_in _ (by omega), IntWalk.u32_in _ (by omega), IntWalk.u32_in _ (by omega), IntWalk.u32_in _ (by omega), IntWalk.u32_in _ (by omega), IntWalk.u32_in _ (by omega), IntWalk.u32_in _ (by omega), IntWalk.u32_in _ (by omega), IntWalk.u32_in _ (by omega), ?_⟩
  rw [IntWalk.u32_in _ (by omega)]
  omega
set_option maxRecDepth 100000 in
theorem number_yes (A : Option Addr) (n c : Nat) (l : List UInt8) (w : World) (h : Byt w A n c l) (h4 : 4 ≤ n) : Calls Try.prog 49 #[.slice A n c] w fun e w' => e = .returned (.int .u32 (numM (l.take 4) : Int)) ∧ Kept Nil w w' := by
  obtain ⟨b0, b1, b2, b3, r, rfl⟩ := four_of l (by rw [h.1]; exact h4)
  obtain ⟨b, o, rfl, -⟩ := h.2.2.2 (by omega)
  have c0 := fun d os => byt_ge (h.kept (kept_grown' w d os) (fun _ _ hf => hf)) 0 b0 rfl
  have c1 := fun d os => byt_ge (h.kept (kept_grown' w d os) (fun _ _ hf => hf)) 1 b1 rfl
  have c2 := fun d os => byt_ge (h.kept (kept_grown' w d os) (fun _ _ hf => hf)) 2 b2 rfl
  have c3 := fun d os => byt_ge (h.kept (kept_grown' w d os) (fun _ _ hf => hf)) 3 b3 rfl
  simp only [Nat.add_zero] at c0
  obtain ⟨w1, w2, w3, w4, w5, w6, w7, w8, w9, w10⟩ := num_wrap b0 b1 b2 b3
  have n0 : 0 < n := by omega
  have n1 : 1 < n := by omega
  have n2 : 2 < n := by omega
  have n3 : 3 < n := by omega
  have HR := Lib.hid (show (b0 :: b1 :: b2 :: b3 :: r).take 4 = [b0, b1, b2, b3] from rfl)
  clear h h4
  go_enter Try.func49, Try.ntmps49
  go_wp2_with (fail)
  refine wp_region_quiet_below (by kernel_rfl) (by kernel_rfl) ?_
  repeat (go_big_quiet_step (fail))
  refine wpQuiet_nil ?_
  rintro w' ⟨nq, hw⟩
  have hk : Kept Nil w w' := by rw [hw]; exact kept_grown _ _
  go_wp2
  go_ret
  rw [HR.out]
  exact ⟨rfl, hk⟩
/-- The first seven bytes. -/
def hd7 : List UInt8 := [0, 1, 8, 0, 6, 4, 0]
theorem eight_of (l : List UInt8) (h : 8 ≤ l.length) : ∃ a0 a1 a2 a3 a4 a5 a6 a7 r, l = a0 :: a1 :: a2 :: a3 :: a4 :: a5 :: a6 :: a7 :: r := by
  match l, h with
  | a0 :: a1 :: a2 :: a3 :: a4 :: a5 :: a6 :: a7 :: r, _ => exact ⟨a0, a1, a2, a3, a4, a5, a6, a7, r, rfl⟩
theorem getP_alt (l : List UInt8) (h : 28 ≤ l.length) (a7 : UInt8) (h7 : l[7]? = some a7) : getP l = if l.take 7 = hd7 ∧ (a7 = 1 ∨ a7 = 2) then
    (⟨a7.toNat, (l.drop 8).take 6, numM ((l.drop 14).take 4), (l.drop 18).take 6, numM ((l.drop 24).take 4)⟩, 0) else (Pk.zero, 5) := by
  obtain ⟨a0, a1, a2, a3, a4, a5, a6, b7, r, rfl⟩ := eight_of l (by omega)
  obtain rfl : b7 = a7 := by simpa using h7
  unfold getP
  rw [if_neg (by omega)]
  have e1 : ((a0 :: a1 :: a2 :: a3 :: a4 :: a5 :: a6 :: b7 :: r).drop 6).take 2 = [a6, b7] := rfl
  have e2 : numM [a6, b7] = a6.toNat * 256 + b7.toNat := by simp [numM]
  rw [e1, e2]
  by_cases hc : (a0 :: a1 :: a2 :: a3 :: a4 :: a5 :: a6 :: b7 :: r).take 7 = hd7 ∧ (b7 = 1 ∨ b7 = 2)
  · rw [if_pos hc]
    obtain ⟨h1, h2⟩ := hc
    simp only [List.take_succ_cons, List.take_zero, hd7, List.cons.injEq, and_true] at h1
    obtain ⟨rfl, rfl, rfl, rfl, rfl, rfl, rfl⟩ := h1
    rw [show (0 : UInt8).toNat * 256 + b7.toNat = b7.toNat by simp]
    rw [if_pos ⟨rfl, by rcases h2 with rfl | rfl <;> rfl⟩]
  · rw [if_neg hc, if_neg]
    rintro ⟨h1, h2⟩
    apply hc
    simp only [List.take_succ_cons, List.take_zero, headL, List.cons.injEq, and_true] at h1
    obtain ⟨rfl, rfl, rfl, rfl, rfl, rfl⟩ := h1
    have h3 := of_decide_eq_true h2
    simp only at h3
    have hb := b7.toNat_lt
    have ha : a6 = 0 := UInt8.toNat_inj.1 (by show a6.toNat = 0; omega)
    subst ha
    refine ⟨rfl, ?_⟩
    rcases h3 with h3 | h3
    · exact .inl (UInt8.toNat_inj.1 (by show b7.toNat = 1; simpa using h3))
    · exact .inr (UInt8.toNat_inj.1 (by show b7.toNat = 2; simpa using h3))
section
variable {w : World} {g : Nat} {T : TypeId} {p : Pk}
theorem QB.set_o (o : Nat) (h : Blo w g T ((qcs p).take 0 ++ [Value.int .i64 (o : Int)] ++ (qcs p).drop (0 + [Value.int .i64 (o : Int)].length)).toArray) : QB w g T { p with o := o } := h
theorem QB.set_f (q : Nat) (x : UInt8) (hq : q < 6) (hp : p.ok) (h : Blo w g T ((qcs p).take (1 + q) ++ [Value.int .u8 (x.toNat : Int)] ++ (qcs p).drop (1 + q + [Value.int .u8 (x.toNat : Int)].length)).toArray) : QB w g T { p with f := p.f.set q x } := by
  rw [set_split _ _ _ (by rw [qcs_len hp]; omega)] at h
  have e : (qcs p).set (1 + q) (Value.int .u8 (x.toNat : Int)) = qcs { p with f := p.f.set q x } := by
    unfold qcs
    rw [List.set_append_right _ _ (by simp), List.set_append_left _ _ (by simp [bys_len, hp.f] <;> omega), show 1 + q - [Value.int .i64 (p.o : Int)].length = q by first | (simp; done) | (simp; omega), bys_put]
  rw [e] at h
  exact h
theorem QB.set_t (q : Nat) (x : UInt8) (hq : q < 6) (hp : p.ok) (h : Blo w g T ((qcs p).take (7 + q) ++ [Value.int .u8 (x.toNat : Int)] ++ (qcs p).drop (7 + q + [Value.int .u8 (x.toNat : Int)].length)).toArray) : QB w g T { p with t := p.t.set q x } := by
  rw [set_split _ _ _ (by rw [qcs_len hp]; omega)] at h
  have e : (qcs p).set (7 + q) (Value.int .u8 (x.toNat : Int)) = qcs { p with t := p.t.set q x } := by
    unfold qcs
    rw [List.set_append_right _ _ (by first | (simp; done) | (simp; omega)), List.set_append_right _ _ (by simp [bys_len, hp.f] <;> omega), List.set_append_left _ _ (by simp [bys_len, hp.f, hp.t] <;> omega), show 7 + q - [Value.int .i64 (p.o : Int)].length - (bys p.f).length = q by first | (simp [bys_len, hp.f]; done) | (simp [bys_len, hp.f]; omega), bys_put]
  rw [e] at h
  exact h
theorem QB.set_x (x : Nat) (hp : p.ok) (h : Blo w g T ((qcs p).take 13 ++ [Value.int .u32 (x : Int)] ++ (qcs p).drop (13 + [Value.int .u32 (x : Int)].length)).toArray) : QB w g T { p with x := x } := by
  rw [set_split _ _ _ (by rw [qcs_len hp]; omega)] at h
  have e : (qcs p).set 13 (Value.int .u32 (x : Int)) = qcs { p with x := x } := by
    unfold qcs
    rw [List.set_append_right _ _ (by simp), List.set_append_right _ _ (by simp [bys_len, hp.f]), List.set_append_right _ _ (by simp [bys_len, hp.f, hp.t]), show 13 - [Value.int .i64 (p.o : Int)].length - (bys p.f).length - (bys p.t).length = 0 by simp [bys_len, hp.f, hp.t]]
    rfl
  rw [e] at h
  exact h
theorem QB.set_y (y : Nat) (hp : p.ok) (h : Blo w g T ((qcs p).take 14 ++ [Value.int .u32 (y : Int)] ++ (qcs p).drop (14 + [Value.int .u32 (y : Int)].length)).toArray) : QB w g T { p with y := y } := by
  rw [set_split _ _ _ (by rw [qcs_len hp]; omega)] at h
  have e : (qcs p).set 14 (Value.int .u32 (y : Int)) = qcs { p with y := y } := by
    unfold qcs
    rw [List.set_append_right _ _ (by simp), List.set_append_right _ _ (by simp [bys_len, hp.f]), List.set_append_right _ _ (by simp [bys_len, hp.f, hp.t]), show 14 - [Value.int .i64 (p.o : Int)].length - (bys p.f).length - (bys p.t).length = 1 by simp [bys_len, hp.f, hp.t]]
    rfl
  rw [e] at h
  exact h
end
theorem infI : (Try.prog.info? 3).map (·.size) = some 1 := by kernel_rfl
theorem infU32 : (Try.prog.info? 46).map (·.size) = some 1 := by kernel_rfl
set_option maxRecDepth 100000 in
set_option maxHeartbeats 4000000 in
theorem rget_yes (A : Option Addr) (n c : Nat) (l : List UInt8) (w : World) (h : Byt w A n c l) : Calls Try.prog 18 #[.slice A n c] w fun e w' => e = .returned (.tuple #[qkv (getP l).1, .int .i64 (getP l).2]) ∧ Kept Nil w w' := by
  have hQ2 : QB ((w.alloc (.cells (qcs Pk.zero).toArray 53)).alloc (.cells (qcs Pk.zero).toArray 53)) w.heap.size 53 Pk.zero := Blo.alloc (QB.new w 53 _) _
  have hQ4 : QB ((w.alloc (.cells (qcs Pk.zero).toArray 53)).alloc (.cells (qcs Pk.zero).toArray 53)) (w.heap.size + 1) 53 Pk.zero := by
    have := QB.new (w.alloc (.cells (qcs Pk.zero).toArray 53)) 53 Pk.zero
    rwa [World.size_alloc] at this
  have hk : Kept Nil w ((w.alloc (.cells (qcs Pk.zero).toArray 53)).alloc (.cells (qcs Pk.zero).toArray 53)) := ((Kept.refl Nil w).alloc _).alloc _
  have HBL := Lib.hid h.lt
  have HLN := Lib.hid h.1
  have hnc := h.2.1
  have hcc := h.2.2.1
  have hB := h.kept hk (fun _ _ hf => hf)
  clear h
  go_enter Try.func18, Try.ntmps18
  go_upto_region 2 with (fail)
  refine wp_nameE (fun W => QB W w.heap.size 53 Pk.zero ∧ QB W (w.heap.size + 1) 53 Pk.zero ∧ Kept Nil w W ∧ Byt W A n c l ∧ W.heap.size = w.heap.size + 2) ⟨hQ2, hQ4, hk, hB, by simp⟩ ?_
  clear hQ2 hQ4 hk hB
  rintro W ⟨hQ2, hQ4, hk, hB, hz⟩
  have HQ2 := Lib.hid hQ2
  have HQ4 := Lib.hid hQ4
  have HK := Lib.hid hk
  have HB := Lib.hid hB
  have HZ := Lib.hid hz
  clear hQ2 hQ4 hk hB hz
  by_cases h28 : n < 28
  · have h28' : (n : Int) < 28 := by omega
    have HG := Lib.hid (show getP l = (Pk.zero, 4) by unfold getP; rw [if_pos (by rw [HLN.out]; exact h28)])
    go_wp2_with (first
      | (refine wpList_ld rfl _ _ rfl (w.heap.size + 1) 0 rfl (qcs Pk.zero) HQ4.out.all _ Try.underlying53 rfl (infQ _ Pk.zero_ok) ?_)
      | (refine wpList_st rfl _ (.tmp 2) _ rfl w.heap.size 0 rfl (qcs Pk.zero) _ rfl rfl (infQ _ Pk.zero_ok) 53 _ HQ2.out (by rw [qcs_len Pk.zero_ok]; omega) (qcs_one _) ?_; intro w9 hb9 hk9 hz9))
    have h2 := QB.of_all Pk.zero_ok Pk.zero_ok hb9
    refine bodyPost_ret (res_cell1 Try.results18 rfl rfl h2.all Try.underlying53 rfl (infQ _ Pk.zero_ok)) rfl ⟨by rw [HG.out]; rfl, ?_⟩
    exact HK.out.fresh hk9 (fun i hi => by cases hi; exact Nat.le_refl _)
  · have h28' : ¬ (n : Int) < 28 := by omega
    obtain ⟨bb, ob, rfl, -⟩ := HB.out.2.2.2 (by omega)
    have hl28 : 28 ≤ l.length := by rw [HLN.out]; omega
    obtain ⟨a7, h7⟩ : ∃ a, l[7]? = some a := ⟨l[7], List.getElem?_eq_getElem (by omega)⟩
    have HGA := Lib.hid (getP_alt l hl28 a7 h7)
    have H7 := Lib.hid h7
    have HL28 := Lib.hid hl28
    have HA7 := Lib.hid a7.toNat_lt
    have HH5 := Lib.hid (Blo.new W 5 (bys hd7).toArray)
    have hk5 := (Kept.refl Nil W).alloc (.cells (bys hd7).toArray 5)
    have HQ25 := Lib.hid (HQ2.out.kept hk5 (fun hf => hf))
    have HQ45 := Lib.hid (HQ4.out.kept hk5 (fun hf => hf))
    have HK5 := Lib.hid (HK.out.then hk5)
    have HB5 := Lib.hid (HB.out.kept hk5 (fun _ _ hf => hf))
    rw [HZ.out] at HH5
    clear h7 hl28 hk5 HQ2 HQ4 HK HB
    go_wp2
    rw [HZ.out]
    go_loopw [6] (fun i wr => ∃ q : Nat, q ≤ 7 ∧ i = .int .i64 (q : Int) ∧ Hid (l.take q = hd7.take q) ∧ Hid (QB wr w.heap.size 53 Pk.zero) ∧ Hid (QB wr (w.heap.size + 1) 53 Pk.zero) ∧ Hid (Blo wr (w.heap.size + 2) 5 (bys hd7).toArray) ∧ Hid (Byt wr (some ⟨bb, ob, none⟩) n c l) ∧ Hid (Kept Nil w wr)) (fun i _ => 7 - (intOf i).toNat)
    case atStart => exact ⟨0, by omega, rfl, Lib.hid rfl, HQ25, HQ45, HH5, HB5, HK5⟩
    case round =>
      obtain ⟨q, hq, rfl, HT, HQ2, HQ4, HH, HB, HK⟩ := hrel
      clear HQ25 HQ45 HH5 HB5 HK5
      by_cases hlt : q < 7
      · have hq1 : q < l.length := by have := HL28.out; omega
        have hq2 : q < hd7.length := hlt
        obtain ⟨x, hx⟩ : ∃ x, l[q] = x := ⟨_, rfl⟩
        obtain ⟨y, hy⟩ : ∃ y, hd7[q] = y := ⟨_, rfl⟩
        have hx? : l[q]? = some x := by rw [List.getElem?_eq_getElem hq1, hx]
        have hy? : hd7[q]? = some y := by rw [List.getElem?_eq_getElem hq2, hy]
        have cx := fun d os => byt_ge (HB.out.kept (kept_grown' wr d os) (fun _ _ hf => hf)) q x hx?
        have cy : ∀ d os, (grow (redrawn wr d) os).cell? ⟨w.heap.size + 2, q, none⟩ = some (.int .u8 (y.toNat : Int)) := fun d os => by
          rw [HH.out.gcell q d os]
          simp [bys, hy?]
        have hqn : q < n := by omega
        have HTX := Lib.hid (show l.take (q + 1) = l.take q ++ [x] by rw [List.take_succ_eq_append_getElem hq1, hx])
        have HTY := Lib.hid (show hd7.take (q + 1) = hd7.take q ++ [y] by rw [List.take_succ_eq_append_getElem hq2, hy])
        clear hx hy hx? hy? hq1 hq2
        by_cases hxy : x = y
        · subst hxy
          have b1 : ((x.toNat : Int) != (x.toNat : Int)) = false := by simp
          go_wp2_with (fail)
          refine wp_region_quiet_below (by kernel_rfl) (by kernel_rfl) ?_
          repeat (go_big_quiet_step (fail))
          refine wpQuiet_nil ?_
          rintro w2 ⟨nq, hw⟩
          have hk2 : Kept Nil wr w2 := by rw [hw]; exact kept_grown _ _
          have HQ22 := Lib.hid (HQ2.out.kept hk2 (fun hf => hf))
          have HQ42 := Lib.hid (HQ4.out.kept hk2 (fun hf => hf))
          have HH2 := Lib.hid (HH.out.kept hk2 (fun hf => hf))
          have HB2 := Lib.hid (HB.out.kept hk2 (fun _ _ hf => hf))
          have HK2 := Lib.hid (HK.out.then hk2)
          clear hk2 hw cx cy
          go_wp2
          go_roundw
          case rel => exact ⟨q + 1, by omega, by go_num, Lib.hid (by rw [HTX.out, HTY.out, HT.out]), HQ22, HQ42, HH2, HB2, HK2⟩
          case measure => simp [intOf]; omega
        · have b1 : ((x.toNat : Int) != (y.toNat : Int)) = true := by
            simp only [bne_iff_ne, ne_eq]
            intro he
            exact hxy (UInt8.toNat_inj.1 (by omega))
          have HG := Lib.hid (show getP l = (Pk.zero, 5) by
            rw [HGA.out, if_neg]
            rintro ⟨h1, _⟩
            have h2 : l.take (q + 1) = hd7.take (q + 1) := by rw [← h1, List.take_take, Nat.min_eq_left (by omega)]
            rw [HTX.out, HTY.out, HT.out] at h2
            exact hxy (by simpa using h2))
          clear hxy
          go_wp2_with (fail)
          refine wp_region_quiet_below (by kernel_rfl) (by kernel_rfl) ?_
          repeat (go_big_quiet_step (fail))
          refine wpQuiet_nil ?_
          rintro w2 ⟨nq, hw⟩
          have hk2 : Kept Nil wr w2 := by rw [hw]; exact kept_grown _ _
          have HQ22 := Lib.hid (HQ2.out.kept hk2 (fun hf => hf))
          have HQ42 := Lib.hid (HQ4.out.kept hk2 (fun hf => hf))
          have HK2 := Lib.hid (HK.out.then hk2)
          clear hk2 hw cx cy
          go_wp2_with (first
            | (refine wpList_ld rfl _ _ rfl (w.heap.size + 1) 0 rfl (qcs Pk.zero) HQ42.out.all _ Try.underlying53 rfl (infQ _ Pk.zero_ok) ?_)
            | (refine wpList_st rfl _ (.tmp 2) _ rfl w.heap.size 0 rfl (qcs Pk.zero) _ rfl rfl (infQ _ Pk.zero_ok) 53 _ HQ22.out (by rw [qcs_len Pk.zero_ok]; omega) (qcs_one _) ?_; intro w9 hb9 hk9 hz9))
          have h2 := QB.of_all Pk.zero_ok Pk.zero_ok hb9
          refine bodyPost_ret (res_cell1 Try.results18 rfl rfl h2.all Try.underlying53 rfl (infQ _ Pk.zero_ok)) rfl ⟨by rw [HG.out]; rfl, ?_⟩
          exact HK2.out.fresh hk9 (fun i hi => by cases hi; exact Nat.le_refl _)
      · obtain rfl : q = 7 := by omega
        have c7 := byt_ge HB.out 7 a7 H7.out
        have h7n : 7 < n := by omega
        have hw7 : IntKind.wrap .i64 (a7.toNat : Int) = (a7.toNat : Int) := by rw [IntKind.wrap_i64]; have := HA7.out; omega
        by_cases h1 : a7 = 1
        · have HG := Lib.hid (show getP l = _ by rw [HGA.out, if_pos ⟨HT.out, .inl h1⟩])
          have b1 : ((a7.toNat : Int) != 1) = false := by rw [h1]; rfl
          clear h1
          go_wp2_with (first
            | (refine wpList_st rfl _ _ _ rfl (w.heap.size + 1) 0 rfl [.int .i64 (a7.toNat : Int)] _ rfl rfl infI 53 _ HQ4.out (by rw [qcs_len Pk.zero_ok, List.length_singleton]; omega) (by intro u hu; simp at hu; subst hu; rfl) ?_; intro w3 hb3 hk3 hz3)
            | fail)
          have HQ43 := Lib.hid (show QB w3 (w.heap.size + 1) 53 ⟨a7.toNat, upto 6 0 (l.drop 8), 0, upto 6 0 (l.drop 18), 0⟩ from QB.set_o (p := Pk.zero) a7.toNat hb3)
          have HQ23 := Lib.hid (HQ2.out.kept hk3 (fun hf => by unfold One at hf; omega))
          have HB3 := Lib.hid (HB.out.kept hk3 (fun i hi hf => by have := HBL.out i hi; cases hf; omega))
          have HK3 := Lib.hid (HK.out.fresh hk3 (fun i hi => by cases hi; omega))
          clear hb3 hk3 hz3 HQ4 HQ2 HB HK c7
          go_loopw [7] (fun i wr => ∃ q : Nat, q ≤ 6 ∧ i = .int .i64 (q : Int) ∧ Hid (QB wr (w.heap.size + 1) 53 ⟨a7.toNat, upto 6 q (l.drop 8), 0, upto 6 q (l.drop 18), 0⟩) ∧ Hid (QB wr w.heap.size 53 Pk.zero) ∧ Hid (Byt wr (some ⟨bb, ob, none⟩) n c l) ∧ Hid (Kept Nil w wr)) (fun i _ => 6 - (intOf i).toNat)
          case atStart => exact ⟨0, by omega, rfl, HQ43, HQ23, HB3, HK3⟩
          case round =>
            obtain ⟨q, hq, rfl, HQ4, HQ2, HB, HK⟩ := hrel
            clear HQ43 HQ23 HB3 HK3
            have hu6 : (upto 6 q (l.drop 8)).length = 6 := upto_len 6 q _ (by rw [List.length_drop, HLN.out]; omega) hq
            have hv6 : (upto 6 q (l.drop 18)).length = 6 := upto_len 6 q _ (by rw [List.length_drop, HLN.out]; omega) hq
            have HOQ := Lib.hid (show (⟨a7.toNat, upto 6 q (l.drop 8), 0, upto 6 q (l.drop 18), 0⟩ : Pk).ok from ⟨Nat.lt_trans HA7.out (by decide), hu6, show 0 < 4294967296 by decide, hv6, show 0 < 4294967296 by decide⟩)
            by_cases hlt : q < 6
            · have hq1 : q < (l.drop 8).length := by rw [List.length_drop, HLN.out]; omega
              have hq2 : q < (l.drop 18).length := by rw [List.length_drop, HLN.out]; omega
              obtain ⟨x, hx⟩ : ∃ x, (l.drop 8)[q] = x := ⟨_, rfl⟩
              obtain ⟨y, hy⟩ : ∃ y, (l.drop 18)[q] = y := ⟨_, rfl⟩
              have hx? : l[8 + q]? = some x := by rw [← List.getElem?_drop, List.getElem?_eq_getElem hq1, hx]
              have hy? : l[18 + q]? = some y := by rw [← List.getElem?_drop, List.getElem?_eq_getElem hq2, hy]
              have cx := byt_ge HB.out (8 + q) x hx?
              have hu1 := upto_set 6 q (l.drop 8) hq1 hlt
              have hu2 := upto_set 6 q (l.drop 18) hq2 hlt
              rw [hx] at hu1
              rw [hy] at hu2
              have hu7 : (upto 6 (q + 1) (l.drop 8)).length = 6 := by rw [← hu1, List.length_set]; exact hu6
              have HOR := Lib.hid (show (⟨a7.toNat, upto 6 (q + 1) (l.drop 8), 0, upto 6 q (l.drop 18), 0⟩ : Pk).ok from ⟨Nat.lt_trans HA7.out (by decide), hu7, show 0 < 4294967296 by decide, hv6, show 0 < 4294967296 by decide⟩)
              have HX := Lib.hid hy?
              have HU := Lib.hid (And.intro hu1 hu2)
              have HN8 := Lib.hid (show 8 + q < n by omega)
              have hn8 : 8 + q < n := by omega
              have hn18 : 18 + q < n := by omega
              clear hx hy hx? hy? hu1 hu2 hq1 hq2 hu6 hv6 hu7
              go_wp2_with (first
                | (refine wpList_st rfl _ _ _ rfl (w.heap.size + 1) (1 + q) rfl [.int .u8 (x.toNat : Int)] _ rfl rfl sz5 53 _ HQ4.out (by rw [qcs_len HOQ.out, List.length_singleton]; omega) (by intro u hu; simp at hu; subst hu; rfl) ?_; intro w4 hb4 hk4 hz4; have HQ44 := Lib.hid (show QB w4 (w.heap.size + 1) 53 ⟨a7.toNat, upto 6 (q + 1) (l.drop 8), 0, upto 6 q (l.drop 18), 0⟩ from by rw [← HU.out.1]; exact QB.set_f q x hlt HOQ.out hb4); have HQ24 := Lib.hid (HQ2.out.kept hk4 (fun hf => by unfold One at hf; omega)); have HB4 := Lib.hid (HB.out.kept hk4 (fun i hi hf => by have := HBL.out i hi; cases hf; omega)); have HK4 := Lib.hid (HK.out.fresh hk4 (fun i hi => by cases hi; omega)); have cy := byt_ge HB4.out (18 + q) y HX.out; clear hb4 hk4 hz4)
                | (refine wpList_st rfl _ _ _ rfl (w.heap.size + 1) (7 + q) rfl [.int .u8 (y.toNat : Int)] _ rfl rfl sz5 53 _ HQ44.out (by rw [qcs_len HOR.out, List.length_singleton]; omega) (by intro u hu; simp at hu; subst hu; rfl) ?_; intro w5 hb5 hk5 hz5))
              have HQ45 := Lib.hid (show QB w5 (w.heap.size + 1) 53 ⟨a7.toNat, upto 6 (q + 1) (l.drop 8), 0, upto 6 (q + 1) (l.drop 18), 0⟩ from by rw [← HU.out.2]; exact QB.set_t q y hlt HOR.out hb5)
              have HQ25 := Lib.hid (HQ24.out.kept hk5 (fun hf => by unfold One at hf; omega))
              have HB5 := Lib.hid (HB4.out.kept hk5 (fun i hi hf => by have := HBL.out i hi; cases hf; omega))
              have HK5 := Lib.hid (HK4.out.fresh hk5 (fun i hi => by cases hi; omega))
              clear hb5 hk5 hz5 HQ44 HQ24 HB4 HK4 cx cy
              go_wp2
              go_roundw
              case rel => exact ⟨q + 1, by omega, by go_num, HQ45, HQ25, HB5, HK5⟩
              case measure => simp [intOf]; omega
            · obtain rfl : q = 6 := by omega
              have hqf := HQ4.out
              have hokf := HOQ.out
              rw [upto_all, upto_all] at hqf hokf
              have HQF := Lib.hid hqf
              have HOF := Lib.hid hokf
              have hln := HLN.out
              have hc1 := HB.out.cut (lo := 14) (hi := n) (by omega) (Nat.le_refl _)
              have hc2 := HB.out.cut (lo := 24) (hi := n) (by omega) (Nat.le_refl _)
              rw [List.take_of_length_le (by omega)] at hc1 hc2
              have hs1 := run_cut_lo (P := Try.prog) Try.underlying26 inf5.1 inf5.2 (some ⟨bb, ob, none⟩) n c 14 (14 : Int) rfl (by omega)
              have hs2 := run_cut_lo (P := Try.prog) Try.underlying26 inf5.1 inf5.2 (some ⟨bb, ob, none⟩) n c 24 (24 : Int) rfl (by omega)
              have HC1 := Lib.hid hc1
              have HC2 := Lib.hid hc2
              have hm2 : numM ((l.drop 14).take 4) < 4294967296 := numM_le (n := 4) (by simp; omega)
              have hm3 : numM ((l.drop 24).take 4) < 4294967296 := numM_le (n := 4) (by simp; omega)
              have HM2 := Lib.hid hm2
              have HM3 := Lib.hid hm3
              obtain ⟨m1, hm1⟩ : ∃ m, n - 14 = m := ⟨_, rfl⟩
              obtain ⟨m4, hm4⟩ : ∃ m, n - 24 = m := ⟨_, rfl⟩
              have hm1' : 4 ≤ m1 := by omega
              have hm4' : 4 ≤ m4 := by omega
              rw [hm1] at HC1 hs1
              rw [hm4] at HC2 hs2
              clear hqf hokf hln hc1 hc2 HQ4 HOQ hu6 hv6 hm2 hm3 hm1 hm4
              go_wp2_with (fail)
              refine (number_yes _ _ _ _ _ HC1.out hm1').mono ?_
              rintro e w5 ⟨rfl, hk5⟩
              have HQ5 := Lib.hid (HQF.out.kept hk5 (fun hf => hf))
              have HQ25 := Lib.hid (HQ2.out.kept hk5 (fun hf => hf))
              have HB5 := Lib.hid (HB.out.kept hk5 (fun _ _ hf => hf))
              have HK5 := Lib.hid (HK.out.then hk5)
              have HC25 := Lib.hid (HC2.out.kept hk5 (fun _ _ hf => hf))
              clear hk5 HQF HQ2 HB HK HC1 HC2
              go_wp2_with (first
                | (refine wpList_st rfl _ _ _ rfl (w.heap.size + 1) 13 rfl [.int .u32 (numM ((l.drop 14).take 4) : Int)] _ rfl rfl infU32 53 _ HQ5.out (by rw [qcs_len HOF.out, List.length_singleton]; omega) (by intro u hu; simp at hu; subst hu; rfl) ?_; intro w6 hb6 hk6 hz6)
                | fail)
              have HQ6 := Lib.hid (QB.set_x (numM ((l.drop 14).take 4)) HOF.out hb6)
              have HOG := Lib.hid (show (⟨a7.toNat, (l.drop 8).take 6, numM ((l.drop 14).take 4), (l.drop 18).take 6, 0⟩ : Pk).ok from ⟨HOF.out.o, HOF.out.f, HM2.out, HOF.out.t, show 0 < 4294967296 by decide⟩)
              have HQ26 := Lib.hid (HQ25.out.kept hk6 (fun hf => by unfold One at hf; omega))
              have HC26 := Lib.hid (HC25.out.kept hk6 (fun i hi hf => by have := HBL.out i (by obtain ⟨g1, ad, g2, g3⟩ := Lies.cut i hi; exact ⟨by omega, ad, g2, g3⟩); cases hf; omega))
              have HK6 := Lib.hid (HK5.out.fresh hk6 (fun i hi => by cases hi; omega))
              clear hb6 hk6 hz6 HQ5 HQ25 HB5 HK5 HC25
              go_wp2_with (fail)
              refine (number_yes _ _ _ _ _ HC26.out hm4').mono ?_
              rintro e w7 ⟨rfl, hk7⟩
              have HQ7 := Lib.hid (HQ6.out.kept hk7 (fun hf => hf))
              have HQ27 := Lib.hid (HQ26.out.kept hk7 (fun hf => hf))
              have HK7 := Lib.hid (HK6.out.then hk7)
              clear hk7 HQ6 HQ26 HK6 HC26
              go_wp2_with (first
                | (refine wpList_st rfl _ _ _ rfl (w.heap.size + 1) 14 rfl [.int .u32 (numM ((l.drop 24).take 4) : Int)] _ rfl rfl infU32 53 _ HQ7.out (by rw [qcs_len HOG.out, List.length_singleton]; omega) (by intro u hu; simp at hu; subst hu; rfl) ?_; intro w8 hb8 hk8 hz8; have HQ8 := Lib.hid (QB.set_y (numM ((l.drop 24).take 4)) HOG.out hb8); have HQ28 := Lib.hid (HQ27.out.kept hk8 (fun hf => by unfold One at hf; omega)); have HK8 := Lib.hid (HK7.out.fresh hk8 (fun i hi => by cases hi; omega)); have HOH := Lib.hid (show (⟨a7.toNat, (l.drop 8).take 6, numM ((l.drop 14).take 4), (l.drop 18).take 6, numM ((l.drop 24).take 4)⟩ : Pk).ok from ⟨HOF.out.o, HOF.out.f, HM2.out, HOF.out.t, HM3.out⟩))
                | (refine wpList_ld rfl _ _ rfl (w.heap.size + 1) 0 rfl (qcs ⟨a7.toNat, (l.drop 8).take 6, numM ((l.drop 14).take 4), (l.drop 18).take 6, numM ((l.drop 24).take 4)⟩) HQ8.out.all _ Try.underlying53 rfl (infQ _ HOH.out) ?_)
                | (refine wpList_st rfl _ (.tmp 2) _ rfl w.heap.size 0 rfl (qcs ⟨a7.toNat, (l.drop 8).take 6, numM ((l.drop 14).take 4), (l.drop 18).take 6, numM ((l.drop 24).take 4)⟩) _ rfl rfl (infQ _ HOH.out) 53 _ HQ28.out (by rw [qcs_len Pk.zero_ok, qcs_len HOH.out]; omega) (qcs_one _) ?_; intro w9 hb9 hk9 hz9))
              have h2 := QB.of_all Pk.zero_ok HOH.out hb9
              refine bodyPost_ret (res_cell1 Try.results18 rfl rfl h2.all Try.underlying53 rfl (infQ _ HOH.out)) rfl ⟨by rw [HG.out]; rfl, ?_⟩
              exact HK8.out.fresh hk9 (fun i hi => by cases hi; exact Nat.le_refl _)
        · have b1 : ((a7.toNat : Int) != 1) = true := by
            simp only [bne_iff_ne, ne_eq]
            intro he
            exact h1 (UInt8.toNat_inj.1 (by show a7.toNat = 1; omega))
          by_cases h2 : a7 = 2
          · have HG := Lib.hid (show getP l = _ by rw [HGA.out, if_pos ⟨HT.out, .inr h2⟩])
            have b2 : ((a7.toNat : Int) != 2) = false := by rw [h2]; rfl
            clear h1 h2
            go_wp2_with (first
              | (refine wpList_st rfl _ _ _ rfl (w.heap.size + 1) 0 rfl [.int .i64 (a7.toNat : Int)] _ rfl rfl infI 53 _ HQ4.out (by rw [qcs_len Pk.zero_ok, List.length_singleton]; omega) (by intro u hu; simp at hu; subst hu; rfl) ?_; intro w3 hb3 hk3 hz3)
              | fail)
            have HQ43 := Lib.hid (show QB w3 (w.heap.size + 1) 53 ⟨a7.toNat, upto 6 0 (l.drop 8), 0, upto 6 0 (l.drop 18), 0⟩ from QB.set_o (p := Pk.zero) a7.toNat hb3)
            have HQ23 := Lib.hid (HQ2.out.kept hk3 (fun hf => by unfold One at hf; omega))
            have HB3 := Lib.hid (HB.out.kept hk3 (fun i hi hf => by have := HBL.out i hi; cases hf; omega))
            have HK3 := Lib.hid (HK.out.fresh hk3 (fun i hi => by cases hi; omega))
            clear hb3 hk3 hz3 HQ4 HQ2 HB HK c7
            go_loopw [7] (fun i wr => ∃ q : Nat, q ≤ 6 ∧ i = .int .i64 (q : Int) ∧ Hid (QB wr (w.heap.size + 1) 53 ⟨a7.toNat, upto 6 q (l.drop 8), 0, upto 6 q (l.drop 18), 0⟩) ∧ Hid (QB wr w.heap.size 53 Pk.zero) ∧ Hid (Byt wr (some ⟨bb, ob, none⟩) n c l) ∧ Hid (Kept Nil w wr)) (fun i _ => 6 - (intOf i).toNat)
            case atStart => exact ⟨0, by omega, rfl, HQ43, HQ23, HB3, HK3⟩
            case round =>
              obtain ⟨q, hq, rfl, HQ4, HQ2, HB, HK⟩ := hrel
              clear HQ43 HQ23 HB3 HK3
              have hu6 : (upto 6 q (l.drop 8)).length = 6 := upto_len 6 q _ (by rw [List.length_drop, HLN.out]; omega) hq
              have hv6 : (upto 6 q (l.drop 18)).length = 6 := upto_len 6 q _ (by rw [List.length_drop, HLN.out]; omega) hq
              have HOQ := Lib.hid (show (⟨a7.toNat, upto 6 q (l.drop 8), 0, upto 6 q (l.drop 18), 0⟩ : Pk).ok from ⟨Nat.lt_trans HA7.out (by decide), hu6, show 0 < 4294967296 by decide, hv6, show 0 < 4294967296 by decide⟩)
              by_cases hlt : q < 6
              · have hq1 : q < (l.drop 8).length := by rw [List.length_drop, HLN.out]; omega
                have hq2 : q < (l.drop 18).length := by rw [List.length_drop, HLN.out]; omega
                obtain ⟨x, hx⟩ : ∃ x, (l.drop 8)[q] = x := ⟨_, rfl⟩
                obtain ⟨y, hy⟩ : ∃ y, (l.drop 18)[q] = y := ⟨_, rfl⟩
                have hx? : l[8 + q]? = some x := by rw [← List.getElem?_drop, List.getElem?_eq_getElem hq1, hx]
                have hy? : l[18 + q]? = some y := by rw [← List.getElem?_drop, List.getElem?_eq_getElem hq2, hy]
                have cx := byt_ge HB.out (8 + q) x hx?
                have hu1 := upto_set 6 q (l.drop 8) hq1 hlt
                have hu2 := upto_set 6 q (l.drop 18) hq2 hlt
                rw [hx] at hu1
                rw [hy] at hu2
                have hu7 : (upto 6 (q + 1) (l.drop 8)).length = 6 := by rw [← hu1, List.length_set]; exact hu6
                have HOR := Lib.hid (show (⟨a7.toNat, upto 6 (q + 1) (l.drop 8), 0, upto 6 q (l.drop 18), 0⟩ : Pk).ok from ⟨Nat.lt_trans HA7.out (by decide), hu7, show 0 < 4294967296 by decide, hv6, show 0 < 4294967296 by decide⟩)
                have HX := Lib.hid hy?
                have HU := Lib.hid (And.intro hu1 hu2)
                have HN8 := Lib.hid (show 8 + q < n by omega)
                have hn8 : 8 + q < n := by omega
                have hn18 : 18 + q < n := by omega
                clear hx hy hx? hy? hu1 hu2 hq1 hq2 hu6 hv6 hu7
                go_wp2_with (first
                  | (refine wpList_st rfl _ _ _ rfl (w.heap.size + 1) (1 + q) rfl [.int .u8 (x.toNat : Int)] _ rfl rfl sz5 53 _ HQ4.out (by rw [qcs_len HOQ.out, List.length_singleton]; omega) (by intro u hu; simp at hu; subst hu; rfl) ?_; intro w4 hb4 hk4 hz4; have HQ44 := Lib.hid (show QB w4 (w.heap.size + 1) 53 ⟨a7.toNat, upto 6 (q + 1) (l.drop 8), 0, upto 6 q (l.drop 18), 0⟩ from by rw [← HU.out.1]; exact QB.set_f q x hlt HOQ.out hb4); have HQ24 := Lib.hid (HQ2.out.kept hk4 (fun hf => by unfold One at hf; omega)); have HB4 := Lib.hid (HB.out.kept hk4 (fun i hi hf => by have := HBL.out i hi; cases hf; omega)); have HK4 := Lib.hid (HK.out.fresh hk4 (fun i hi => by cases hi; omega)); have cy := byt_ge HB4.out (18 + q) y HX.out; clear hb4 hk4 hz4)
                  | (refine wpList_st rfl _ _ _ rfl (w.heap.size + 1) (7 + q) rfl [.int .u8 (y.toNat : Int)] _ rfl rfl sz5 53 _ HQ44.out (by rw [qcs_len HOR.out, List.length_singleton]; omega) (by intro u hu; simp at hu; subst hu; rfl) ?_; intro w5 hb5 hk5 hz5))
                have HQ45 := Lib.hid (show QB w5 (w.heap.size + 1) 53 ⟨a7.toNat, upto 6 (q + 1) (l.drop 8), 0, upto 6 (q + 1) (l.drop 18), 0⟩ from by rw [← HU.out.2]; exact QB.set_t q y hlt HOR.out hb5)
                have HQ25 := Lib.hid (HQ24.out.kept hk5 (fun hf => by unfold One at hf; omega))
                have HB5 := Lib.hid (HB4.out.kept hk5 (fun i hi hf => by have := HBL.out i hi; cases hf; omega))
                have HK5 := Lib.hid (HK4.out.fresh hk5 (fun i hi => by cases hi; omega))
                clear hb5 hk5 hz5 HQ44 HQ24 HB4 HK4 cx cy
                go_wp2
                go_roundw
                case rel => exact ⟨q + 1, by omega, by go_num, HQ45, HQ25, HB5, HK5⟩
                case measure => simp [intOf]; omega
              · obtain rfl : q = 6 := by omega
                have hqf := HQ4.out
                have hokf := HOQ.out
                rw [upto_all, upto_all] at hqf hokf
                have HQF := Lib.hid hqf
                have HOF := Lib.hid hokf
                have hln := HLN.out
                have hc1 := HB.out.cut (lo := 14) (hi := n) (by omega) (Nat.le_refl _)
                have hc2 := HB.out.cut (lo := 24) (hi := n) (by omega) (Nat.le_refl _)
                rw [List.take_of_length_le (by omega)] at hc1 hc2
                have hs1 := run_cut_lo (P := Try.prog) Try.underlying26 inf5.1 inf5.2 (some ⟨bb, ob, none⟩) n c 14 (14 : Int) rfl (by omega)
                have hs2 := run_cut_lo (P := Try.prog) Try.underlying26 inf5.1 inf5.2 (some ⟨bb, ob, none⟩) n c 24 (24 : Int) rfl (by omega)
                have HC1 := Lib.hid hc1
                have HC2 := Lib.hid hc2
                have hm2 : numM ((l.drop 14).take 4) < 4294967296 := numM_le (n := 4) (by simp; omega)
                have hm3 : numM ((l.drop 24).take 4) < 4294967296 := numM_le (n := 4) (by simp; omega)
                have HM2 := Lib.hid hm2
                have HM3 := Lib.hid hm3
                obtain ⟨m1, hm1⟩ : ∃ m, n - 14 = m := ⟨_, rfl⟩
                obtain ⟨m4, hm4⟩ : ∃ m, n - 24 = m := ⟨_, rfl⟩
                have hm1' : 4 ≤ m1 := by omega
                have hm4' : 4 ≤ m4 := by omega
                rw [hm1] at HC1 hs1
                rw [hm4] at HC2 hs2
                clear hqf hokf hln hc1 hc2 HQ4 HOQ hu6 hv6 hm2 hm3 hm1 hm4
                go_wp2_with (fail)
                refine (number_yes _ _ _ _ _ HC1.out hm1').mono ?_
                rintro e w5 ⟨rfl, hk5⟩
                have HQ5 := Lib.hid (HQF.out.kept hk5 (fun hf => hf))
                have HQ25 := Lib.hid (HQ2.out.kept hk5 (fun hf => hf))
                have HB5 := Lib.hid (HB.out.kept hk5 (fun _ _ hf => hf))
                have HK5 := Lib.hid (HK.out.then hk5)
                have HC25 := Lib.hid (HC2.out.kept hk5 (fun _ _ hf => hf))
                clear hk5 HQF HQ2 HB HK HC1 HC2
                go_wp2_with (first
                  | (refine wpList_st rfl _ _ _ rfl (w.heap.size + 1) 13 rfl [.int .u32 (numM ((l.drop 14).take 4) : Int)] _ rfl rfl infU32 53 _ HQ5.out (by rw [qcs_len HOF.out, List.length_singleton]; omega) (by intro u hu; simp at hu; subst hu; rfl) ?_; intro w6 hb6 hk6 hz6)
                  | fail)
                have HQ6 := Lib.hid (QB.set_x (numM ((l.drop 14).take 4)) HOF.out hb6)
                have HOG := Lib.hid (show (⟨a7.toNat, (l.drop 8).take 6, numM ((l.drop 14).take 4), (l.drop 18).take 6, 0⟩ : Pk).ok from ⟨HOF.out.o, HOF.out.f, HM2.out, HOF.out.t, show 0 < 4294967296 by decide⟩)
                have HQ26 := Lib.hid (HQ25.out.kept hk6 (fun hf => by unfold One at hf; omega))
                have HC26 := Lib.hid (HC25.out.kept hk6 (fun i hi hf => by have := HBL.out i (by obtain ⟨g1, ad, g2, g3⟩ := Lies.cut i hi; exact ⟨by omega, ad, g2, g3⟩); cases hf; omega))
                have HK6 := Lib.hid (HK5.out.fresh hk6 (fun i hi => by cases hi; omega))
                clear hb6 hk6 hz6 HQ5 HQ25 HB5 HK5 HC25
                go_wp2_with (fail)
                refine (number_yes _ _ _ _ _ HC26.out hm4').mono ?_
                rintro e w7 ⟨rfl, hk7⟩
                have HQ7 := Lib.hid (HQ6.out.kept hk7 (fun hf => hf))
                have HQ27 := Lib.hid (HQ26.out.kept hk7 (fun hf => hf))
                have HK7 := Lib.hid (HK6.out.then hk7)
                clear hk7 HQ6 HQ26 HK6 HC26
                go_wp2_with (first
                  | (refine wpList_st rfl _ _ _ rfl (w.heap.size + 1) 14 rfl [.int .u32 (numM ((l.drop 24).take 4) : Int)] _ rfl rfl infU32 53 _ HQ7.out (by rw [qcs_len HOG.out, List.length_singleton]; omega) (by intro u hu; simp at hu; subst hu; rfl) ?_; intro w8 hb8 hk8 hz8; have HQ8 := Lib.hid (QB.set_y (numM ((l.drop 24).take 4)) HOG.out hb8); have HQ28 := Lib.hid (HQ27.out.kept hk8 (fun hf => by unfold One at hf; omega)); have HK8 := Lib.hid (HK7.out.fresh hk8 (fun i hi => by cases hi; omega)); have HOH := Lib.hid (show (⟨a7.toNat, (l.drop 8).take 6, numM ((l.drop 14).take 4), (l.drop 18).take 6, numM ((l.drop 24).take 4)⟩ : Pk).ok from ⟨HOF.out.o, HOF.out.f, HM2.out, HOF.out.t, HM3.out⟩))
                  | (refine wpList_ld rfl _ _ rfl (w.heap.size + 1) 0 rfl (qcs ⟨a7.toNat, (l.drop 8).take 6, numM ((l.drop 14).take 4), (l.drop 18).take 6, numM ((l.drop 24).take 4)⟩) HQ8.out.all _ Try.underlying53 rfl (infQ _ HOH.out) ?_)
                  | (refine wpList_st rfl _ (.tmp 2) _ rfl w.heap.size 0 rfl (qcs ⟨a7.toNat, (l.drop 8).take 6, numM ((l.drop 14).take 4), (l.drop 18).take 6, numM ((l.drop 24).take 4)⟩) _ rfl rfl (infQ _ HOH.out) 53 _ HQ28.out (by rw [qcs_len Pk.zero_ok, qcs_len HOH.out]; omega) (qcs_one _) ?_; intro w9 hb9 hk9 hz9))
                have h2 := QB.of_all Pk.zero_ok HOH.out hb9
                refine bodyPost_ret (res_cell1 Try.results18 rfl rfl h2.all Try.underlying53 rfl (infQ _ HOH.out)) rfl ⟨by rw [HG.out]; rfl, ?_⟩
                exact HK8.out.fresh hk9 (fun i hi => by cases hi; exact Nat.le_refl _)
          · have b2 : ((a7.toNat : Int) != 2) = true := by
              simp only [bne_iff_ne, ne_eq]
              intro he
              exact h2 (UInt8.toNat_inj.1 (by show a7.toNat = 2; omega))
            have HG := Lib.hid (show getP l = (Pk.zero, 5) by rw [HGA.out, if_neg]; rintro ⟨_, h3 | h3⟩; exact h1 h3; exact h2 h3)
            clear h1 h2
            go_wp2_with (first
              | (refine wpList_ld rfl _ _ rfl (w.heap.size + 1) 0 rfl (qcs Pk.zero) HQ4.out.all _ Try.underlying53 rfl (infQ _ Pk.zero_ok) ?_)
              | (refine wpList_st rfl _ (.tmp 2) _ rfl w.heap.size 0 rfl (qcs Pk.zero) _ rfl rfl (infQ _ Pk.zero_ok) 53 _ HQ2.out (by rw [qcs_len Pk.zero_ok]; omega) (qcs_one _) ?_; intro w9 hb9 hk9 hz9))
            have h2 := QB.of_all Pk.zero_ok Pk.zero_ok hb9
            refine bodyPost_ret (res_cell1 Try.results18 rfl rfl h2.all Try.underlying53 rfl (infQ _ Pk.zero_ok)) rfl ⟨by rw [HG.out]; rfl, ?_⟩
            exact HK.out.fresh hk9 (fun i hi => by cases hi; exact Nat.le_refl _)
end Go.Proofs.Ytddpdopccejmbaa
