/- Texts that belong together, one behind the other: RfC, RfE. Conditions: those of each. -/
import Derived.Test.YtddpdopccejmbaaMg30
import Derived.Test.YtddpdopccejmbaaEthTh
import Derived.Test.YtddpdopccejmbaaEthSn
import Derived.Test.YtddpdopccejmbaaMg14
/- tollref03.Bytes: contract. -/
namespace Go.Proofs.Ytddpdopccejmbaa
open Go.RowKit Go.Sort
set_option linter.unusedVariables false
theorem wordM_sum (t : Tg) (h : mayT t = true) : wordM t = t.p * 8192 + t.n + (if t.d then 4096 else 0) := by
  obtain ⟨_, hp, hn⟩ := (mayT_iff t).1 h
  have e1 : t.p * 8192 ||| t.n = t.p * 8192 + t.n := nat_join 13 _ _ (by omega) (by omega)
  have e2 : t.p * 8192 ||| 4096 = t.p * 8192 + 4096 := nat_join 13 _ _ (by omega) (by omega)
  unfold wordM
  rw [Nat.mod_eq_of_lt (by omega)]
  cases t.d with
  | false => simp [e1]
  | true =>
    simp only [if_true]
    rw [Nat.or_assoc, Nat.or_comm t.n 4096, ← Nat.or_assoc, e2, nat_join 12 _ _ (by omega) (by omega)]
    omega
theorem bytT_cells (t : Tg) (hk : t.k < 65536) (W : Nat) (hW : wordM t = W) (hw : W < 65536) : bys (bytT t) = [.int .u8 ((t.k : Int) / 256), .int .u8 ((t.k : Int) % 256), .int .u8 ((W : Int) / 256), .int .u8 ((W : Int) % 256)] := by
  have e : bytT t = twoM t.k ++ twoM W := by rw [← hW]; simp [bytT, beAll, beM, twoM, List.range_succ]
  rw [e, bys_app, two_cells _ (by omega), two_cells _ (by omega)]
  rfl
theorem bytesM_fail (l : List Tg) (k : Nat) (hk : k < l.length) (h : mayT l[k] = false) : bytesM l = [] := by
  unfold bytesM
  rw [if_neg]
  intro ha
  rw [List.all_eq_true] at ha
  rw [ha _ (List.getElem_mem hk)] at h
  cases h
set_option maxHeartbeats 8000000 in
theorem rbytes_yes (A : Option Addr) (n c : Nat) (l : List Tg) (w : World) (h : Tags w A n c l) (hn : n ≤ 1000000) :
    Calls Try.prog 37 #[.slice A n c] w fun e w' => ∃ v, e = .returned v ∧ Made w w' v (bytesM l) := by
  have hnc := h.1.2.1
  have hcc := h.1.2.2.1
  have hlen := h.len
  obtain ⟨i0, hi, hz0, hz1, hz2⟩ := info_parts Try.infb
  go_enter Try.func37, Try.ntmps37
  go_wp2
  go_loopw [3, 4] (fun v i wr => ∃ k : Nat, k ≤ n ∧ i = .int .i64 (k : Int) ∧ (l.take k).all mayT = true ∧ Hid (wr.ownsRow w.heap.size 5 1 v (4 * k) (bys (bytTs (l.take k)))) ∧ Hid (Kept Nil w wr)) (fun _ i _ => n - (intOf i).toNat)
  case atStart => exact ⟨0, Nat.zero_le _, rfl, rfl, Lib.hid (World.ownsRow_nil _ _ _ _), Lib.hid (Kept.refl _ _)⟩
  case round =>
    obtain ⟨k, hk, rfl, hm, HO, HK⟩ := hrel
    by_cases hlt : k < n
    · have hkl : k < l.length := by omega
      obtain ⟨b, o, rfl, q0, q1, q2, q3⟩ := (h.kept HK.out (fun _ _ hf => hf)).at hkl
      have hok := h.2 _ (List.getElem_mem hkl)
      have htk : (l.take (k + 1)).all mayT = ((l.take k).all mayT && mayT l[k]) := by rw [List.take_succ_eq_append_getElem hkl, List.all_append]; simp
      rw [hm, Bool.true_and] at htk
      have hbf := bytesM_fail l k hkl
      have hbt := bytTs_take l k hkl
      generalize ht : l[k] = t at *
      have HT := Lib.hid htk
      have HBF := Lib.hid hbf
      have HBT := Lib.hid hbt
      have HOK := Lib.hid hok
      have cm : ∀ u, Calls Try.prog _ _ u _ := rmt_yes t hok
      unfold tgv at cm
      have Cm := Lib.hid cm
      have hB := Blo.new wr 69 #[.int .u16 (t.k : Int), .int .u8 (t.p : Int), .bool t.d, .int .u16 (t.n : Int)]
      have HB := Lib.hid hB
      obtain ⟨Av, cv, rfl⟩ := own_form HO.out
      clear ht cm hm htk hbf hbt hok hB
      go_wp2_with fail
      refine (Cm.out _).mono ?_
      rintro e w1 ⟨rfl, hk1⟩
      have hk01 := ((Kept.refl Nil wr).alloc (.cells #[.int .u16 (t.k : Int), .int .u8 (t.p : Int), .bool t.d, .int .u16 (t.n : Int)] 69)).then hk1
      have HB1 := Lib.hid (HB.out.kept hk1 (fun hf => hf))
      have c0 := HB1.out.cell 0
      have c1 := HB1.out.cell 1
      have c2 := HB1.out.cell 2
      have c3 := HB1.out.cell 3
      simp at c0 c1 c2 c3
      have HO1 := Lib.hid (own_kept HO.out hk01 (fun _ _ hf => hf))
      have HK1 := Lib.hid (HK.out.then hk01)
      clear hk01 hk1 HO HK HB
      cases hmt : mayT t
      · have HF := Lib.hid (HBF.out hmt)
        clear hmt
        go_wp2
        go_ret
        exact ⟨_, rfl, by rw [HF.out]; exact World.ownsRow_nil _ _ _ _, HK1.out⟩
      · obtain ⟨hkk, hpp, hnn⟩ := (mayT_iff t).1 hmt
        have hf := HT.out
        rw [hmt] at hf
        have HF := Lib.hid hf
        obtain ⟨W, hW⟩ : ∃ W, wordM t = W := ⟨_, rfl⟩
        have hsum := wordM_sum t hmt
        rw [hW] at hsum
        have hwl : W < 65536 := by rw [← hW]; exact wordM_lt t HOK.out
        have hkl2 : t.k < 65536 := HOK.out.k
        have HCS := Lib.hid (bytT_cells t hkl2 W hW hwl)
        have HWL := Lib.hid (And.intro hwl (And.intro hlen hkl))
        have HS1 := Lib.hid (show w1.heap.size ≤ (w1.alloc (.cells #[.int .u8 ((t.k : Int) / 256), .int .u8 ((t.k : Int) % 256), .int .u8 ((W : Int) / 256), .int .u8 ((W : Int) % 256)] 5)).heap.size by simp)
        have HKB := Lib.hid ((Kept.refl Nil w1).alloc (.cells #[.int .u8 ((t.k : Int) / 256), .int .u8 ((t.k : Int) % 256), .int .u8 ((W : Int) / 256), .int .u8 ((W : Int) % 256)] 5))
        have HYL := Lib.hid (byt_lit w1 (bytT t) 5 #[.int .u8 ((t.k : Int) / 256), .int .u8 ((t.k : Int) % 256), .int .u8 ((W : Int) / 256), .int .u8 ((W : Int) % 256)] (by rw [HCS.out]) 4 (bytT_len t) w1.heap.size rfl (by rw [bytT_len]; decide))
        have HO2 := Lib.hid (own_kept HO1.out HKB.out (fun _ _ hf => hf))
        have HSW := Lib.hid (show w.heap.size ≤ (w1.alloc (.cells #[.int .u8 ((t.k : Int) / 256), .int .u8 ((t.k : Int) % 256), .int .u8 ((W : Int) / 256), .int .u8 ((W : Int) % 256)] 5)).heap.size from Nat.le_trans HK1.out.size HS1.out)
        clear hf hmt hW hlen hkl
        obtain ⟨K4, hK4⟩ : ∃ K4, 4 * k = K4 := ⟨_, rfl⟩
        rw [hK4] at HO2 HO1 ⊢
        have hkb : K4 + 4 ≤ 140737488355328 := by omega
        have HK4 := Lib.hid hK4
        clear hK4
        cases hd : t.d
        · rw [hd] at c2 hsum
          simp only [Bool.false_eq_true, if_false, Nat.add_zero] at hsum
          have hwv : (t.p : Int) * 8192 + (t.n : Int) = (W : Int) := by omega
          clear hd hsum
          go_wp2_with (at_builtin; refine wpList_any rfl _ _ 26 rfl w.heap.size 5 i0 (.int .u8 0) Try.underlying26 hi hz0 hz1 hz2 rfl (.slice Av K4 cv) K4 _ rfl HO2.out _ 4 4 (bytT t) rfl HYL.out hkb HSW.out ?_; intro v5 w5 hown5 hgr5 hob5)
          have hk5 := (HK1.out.then HKB.out).grown hgr5 (fun k hk hlt => by have := (HO2.out.lt k hk).1; omega)
          rw [← bys_app, ← HBT.out, show K4 + 4 = 4 * (k + 1) by rw [← HK4.out]; omega] at hown5
          have HO5 := Lib.hid hown5
          have HK5 := Lib.hid hk5
          clear hown5 hgr5 hob5 hk5 c0 c1 c2 c3
          go_wp2
          go_roundw
          case rel => exact ⟨k + 1, by omega, by go_num, HF.out, HO5, HK5⟩
          case measure => simp [intOf]; omega
        · rw [hd] at c2 hsum
          simp only [if_true] at hsum
          have hwv : (t.p : Int) * 8192 + (t.n : Int) + 4096 = (W : Int) := by omega
          clear hd hsum
          go_wp2_with (at_builtin; refine wpList_any rfl _ _ 26 rfl w.heap.size 5 i0 (.int .u8 0) Try.underlying26 hi hz0 hz1 hz2 rfl (.slice Av K4 cv) K4 _ rfl HO2.out _ 4 4 (bytT t) rfl HYL.out hkb HSW.out ?_; intro v5 w5 hown5 hgr5 hob5)
          have hk5 := (HK1.out.then HKB.out).grown hgr5 (fun k hk hlt => by have := (HO2.out.lt k hk).1; omega)
          rw [← bys_app, ← HBT.out, show K4 + 4 = 4 * (k + 1) by rw [← HK4.out]; omega] at hown5
          have HO5 := Lib.hid hown5
          have HK5 := Lib.hid hk5
          clear hown5 hgr5 hob5 hk5 c0 c1 c2 c3
          go_wp2
          go_roundw
          case rel => exact ⟨k + 1, by omega, by go_num, HF.out, HO5, HK5⟩
          case measure => simp [intOf]; omega
    · obtain rfl : k = n := by omega
      rw [List.take_of_length_le (by omega)] at hm
      have ho := HO.out
      rw [List.take_of_length_le (by omega)] at ho
      have HFB := Lib.hid (show bytesM l = bytTs l by unfold bytesM; rw [if_pos hm])
      have HLB := Lib.hid (show (bytTs l).length = 4 * k by rw [bytTs_len, hlen]; omega)
      obtain ⟨Av, cv, rfl⟩ := own_form ho
      have HO5 := Lib.hid ho
      clear ho hm HO
      go_wp2
      go_ret
      exact ⟨_, rfl, by rw [HFB.out, HLB.out]; exact HO5.out, HK.out⟩
end Go.Proofs.Ytddpdopccejmbaa
/- tollref04.Put: what it knows. -/
namespace Go.Proofs.Ytddpdopccejmbaa
open Go.RowKit Go.Sort
set_option linter.unusedVariables false
/-- What the reference's Put knows. -/
structure RP (w : World) (f : Fr) (At : Option Addr) (nt ct : Nat) (Ab : Option Addr) (nb cb : Nat) (Ar : Option Addr) (nr cr : Nat) (u : World) : Prop where
  fb : FB u w.heap.size 32 f (.slice At nt ct) (.slice Ab nb cb) (.slice Ar nr cr)
  zr : Row u (w.heap.size + 1) 0 (bys z3)
  tt : Tags u At nt ct f.t
  bb : Byt u Ab nb cb f.b
  br : Byt u Ar nr cr f.r
  lt : ∀ i, (Lies At nt i ∨ Lies Ab nb i ∨ Lies Ar nr i) → i < w.heap.size
  kk : Kept Nil w u
theorem Row.kept' {u u' : World} {g o : Nat} {l : List Value} (h : Row u g o l) (k : Kept Nil u u') : Row u' g o l := h.kept k (fun hf => hf)
theorem RP.kept {w u u' : World} {f : Fr} {At : Option Addr} {nt ct : Nat} {Ab : Option Addr} {nb cb : Nat} {Ar : Option Addr} {nr cr : Nat} (h : RP w f At nt ct Ab nb cb Ar nr cr u) (k : Kept Nil u u') : RP w f At nt ct Ab nb cb Ar nr cr u' :=
  ⟨h.fb.kept k (fun hf => hf), h.zr.kept' k, h.tt.kept k (fun _ _ hf => hf), h.bb.kept k (fun _ _ hf => hf), h.br.kept k (fun _ _ hf => hf), h.lt, h.kk.then k⟩
theorem RP.far {w u u' : World} {f : Fr} {At : Option Addr} {nt ct : Nat} {Ab : Option Addr} {nb cb : Nat} {Ar : Option Addr} {nr cr : Nat} {F : Nat → Prop} (h : RP w f At nt ct Ab nb cb Ar nr cr u) (k : Kept F u u') (hF : ∀ i, F i → w.heap.size + 2 ≤ i) : RP w f At nt ct Ab nb cb Ar nr cr u' :=
  ⟨h.fb.kept k (fun hf => by have := hF _ hf; omega), h.zr.kept k (fun hf => by have := hF _ hf; omega), h.tt.kept k (fun i hi hf => by have := hF _ hf; have := h.lt i (.inl hi); omega), h.bb.kept k (fun i hi hf => by have := hF _ hf; have := h.lt i (.inr (.inl hi)); omega), h.br.kept k (fun i hi hf => by have := hF _ hf; have := h.lt i (.inr (.inr hi)); omega), h.lt, h.kk.fresh k (fun i hi => by have := hF _ hi; omega)⟩
theorem put_none1 (f : Fr) (h : mayL f.t = false ∨ carryM f = false) : putM f = ([], 1) := by
  unfold putM
  rw [if_pos (by rcases h with h | h <;> simp [h])]
theorem car_no (f : Fr) (h : (f.y < 0 ∧ 1 ≤ f.k) ∨ 65535 < f.y ∨ (f.k = 1 ∧ (f.y < 1536 ∨ f.l ≠ z3 ∨ f.o ≠ z3 ∨ 0 < f.r.length ∨ standM f.y.toNat (f.t.length : Int) = true)) ∨ (f.k = 2 ∧ (f.y ≠ 0 ∨ f.o ≠ z3 ∨ f.l = snapL ∨ 1500 < 3 + f.b.length)) ∨ (f.k = 3 ∧ (f.l ≠ snapL ∨ 1500 < 8 + f.b.length))) : carryM f = false := by
  cases hc : carryM f with
  | false => rfl
  | true =>
    exfalso
    unfold carryM at hc
    split at hc
    · rename_i hk
      simp only [Bool.and_eq_true, decide_eq_true_eq, Bool.not_eq_true'] at hc
      obtain ⟨⟨⟨⟨⟨h1, h2⟩, h3⟩, h4⟩, h5⟩, h6⟩ := hc
      rcases h with h | h | ⟨_, h⟩ | ⟨h, _⟩ | ⟨h, _⟩
      · omega
      · omega
      · rcases h with h | h | h | h | h
        · omega
        · exact h h4
        · exact h h5
        · omega
        · rw [h3] at h; cases h
      · omega
      · omega
    · split at hc
      · rename_i hk
        simp only [Bool.and_eq_true, decide_eq_true_eq, Bool.not_eq_true', decide_eq_false_iff_not] at hc
        obtain ⟨⟨⟨h1, h2⟩, h3⟩, h4⟩ := hc
        rcases h with h | h | ⟨h, _⟩ | ⟨_, h⟩ | ⟨h, _⟩
        · omega
        · omega
        · omega
        · rcases h with h | h | h | h
          · exact h h1
          · exact h h2
          · exact h3 h
          · omega
        · omega
      · split at hc
        · rename_i hk
          simp only [Bool.and_eq_true, decide_eq_true_eq] at hc
          obtain ⟨⟨⟨h1, h2⟩, h3⟩, h4⟩ := hc
          rcases h with h | h | ⟨h, _⟩ | ⟨h, _⟩ | ⟨_, h⟩
          · omega
          · omega
          · omega
          · omega
          · rcases h with h | h
            · exact h h3
            · omega
        · cases hc
theorem car_range (f : Fr) (h : f.k < 1 ∨ 3 < f.k ∨ f.y < 0 ∨ 65535 < f.y) : carryM f = false := by
  by_cases h1 : 1 ≤ f.k ∧ f.k ≤ 3
  · rcases h with h | h | h | h
    · omega
    · omega
    · exact car_no f (.inl ⟨h, h1.1⟩)
    · exact car_no f (.inr (.inl h))
  · unfold carryM
    rw [if_neg (by omega), if_neg (by omega), if_neg (by omega)]
theorem may_le2 (l : List Tg) (h : mayL l = true) : l.length ≤ 2 := by
  rcases (mayL_iff l).1 h with rfl | ⟨_, rfl, _⟩ | ⟨_, _, rfl, _⟩ <;> simp
theorem bytesM_mayR {t : List Tg} (h : mayL t = true) : bytesM t = bytTs t := by
  rcases (mayL_iff _).1 h with rfl | ⟨x, rfl, h1⟩ | ⟨x, z, rfl, h1, h2, _⟩
  · rfl
  · simp [bytesM, h1]
  · simp [bytesM, h1, h2]
theorem twoM_len (n : Nat) : (twoM n).length = 2 := rfl
theorem two_cellsA (T : Nat) (h : T < 65536) : (#[.int .u8 ((T : Int) / 256), .int .u8 ((T : Int) % 256)] : Array Value) = (bys (twoM T)).toArray := by rw [two_cells T (by omega)]
/-- An append of bytes onto a row of the call's own. -/
theorem wpList_ap {w : World} {ops : Array Oper} {rest : List Oper} {o : Oper} {a : Act} {Q : Exit → Act → World → Prop} (hgd : o.guard = none) (s x : Operand)
    (ho : o.op = .call { callee := .builtin .append, args := #[s, x], argTypes := #[26, 26] }) (B : Nat) (v : Value) (L : List UInt8) (hs : a.eval s = v) (hown : w.ownsRow B 5 1 v L.length (bys L)) (A : Option Addr) (m c : Nat) (l : List UInt8) (hx : a.eval x = .slice A m c) (hl : Byt w A m c l) (hb : L.length + l.length ≤ 1000000000) (hB : B ≤ w.heap.size)
    (h : ∀ v' w', w'.ownsRow B 5 1 v' (L ++ l).length (bys (L ++ l)) → Kept (fun k => v.ownBlock = some k) w w' → wpList Try.prog ops Q rest (a.put o.dst v') w') : wpList Try.prog ops Q (o :: rest) a w := by
  obtain ⟨i0, hi, hz0, hz1, hz2⟩ := info_parts Try.infb
  have hlm := hl.1
  refine wpList_any hgd s x 26 ho B 5 i0 (.int .u8 0) Try.underlying26 hi hz0 hz1 hz2 rfl v L.length (bys L) hs hown A m c l hx hl (by omega) hB ?_
  intro v' w' h1 h2 _
  refine h v' w' ?_ ((Kept.refl _ w).grown h2 (fun k hk _ => hk))
  rw [List.length_append, hlm, bys_app]
  exact h1
end Go.Proofs.Ytddpdopccejmbaa
