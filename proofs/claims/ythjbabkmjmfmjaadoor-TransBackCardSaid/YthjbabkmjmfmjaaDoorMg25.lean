/- Texts that belong together, one behind the other: TrP, EthT. Conditions: those of each. -/
import Derived.Test.YthjbabkmjmfmjaaDoorMg19
import Derived.Test.YthjbabkmjmfmjaaDoorMg5
import Derived.Test.YthjbabkmjmfmjaaDoorMg4
/- Package trans: contract of Ports. -/
namespace Go.Proofs.YthjbabkmjmfmjaaDoor
open Go.RowKit Go.Sort
set_option linter.unusedVariables false

def portsM (p : Nat) (l : List UInt8) : Nat × Nat × Bool := if p = 6 then ((getT l).1.f, (getT l).1.t, decide ((getT l).2 = 0)) else if p = 17 then ((getU l).1.f, (getU l).1.t, decide ((getU l).2 = 0)) else (0, 0, false)
set_option maxRecDepth 100000 in
set_option maxHeartbeats 8000000 in
theorem tports_yes (p : Nat) (hp : p < 256) (A : Option Addr) (n c : Nat) (l : List UInt8) (w : World) (h : Byt w A n c l) (hn : n ≤ 1099511627776) :
    Calls Tryd.prog 14 #[.int .u8 (p : Int), .slice A n c] w fun e w' => e = .returned (.tuple #[.int .u16 ((portsM p l).1 : Int), .int .u16 ((portsM p l).2.1 : Int), .bool (portsM p l).2.2]) ∧ Kept Nil w w' := by
  have CT := Lib.hid (tget_yes A n c l w h hn)
  have CU := Lib.hid (uget_yes A n c l w h hn)
  clear h
  by_cases h6 : p = 6
  · subst h6
    have hb6 : (((6 : Nat) : Int) == 6) = true := rfl
    have HR := Lib.hid (show portsM 6 l = ((getT l).1.f, (getT l).1.t, decide ((getT l).2 = 0)) from rfl)
    obtain ⟨R, hR⟩ : ∃ R, getT l = R := ⟨_, rfl⟩
    rw [hR] at CT HR
    obtain ⟨h, er⟩ := R
    clear CU hR
    go_enter Tryd.func14, Tryd.ntmps14
    go_wp2_with (fail)
    refine (CT.out).mono ?_
    rintro e w1 ⟨A1, n1, c1, B1, m1, d1, rfl, hx, hb, hk⟩
    dsimp only
    have HZ := Lib.hid (TB.new w1 29 Tc.zero none 0 0 none 0 0)
    have HK1 := Lib.hid hk
    clear hx hb hk CT
    go_upto_region 4 with (first
      | (refine wpList_st rfl _ (.tmp 7) _ rfl w1.heap.size 0 rfl (tcs h A1 n1 c1 B1 m1 d1) _ rfl rfl (infTc _ _ _ _ _ _ _) 29 _ HZ.out (by show 0 + 11 ≤ 11; omega) (tcs_one _ _ _ _ _ _ _) ?_; intro w3 hb3 hk3 hz3; simp only [Act.put])
      | fail)
    have HT := Lib.hid (show TB w3 w1.heap.size 29 h A1 n1 c1 B1 m1 d1 from hb3)
    have HK3 := Lib.hid (HK1.out.then (((Kept.refl Nil w1).alloc (.cells (tcs Tc.zero none 0 0 none 0 0).toArray 29)).fresh hk3 (fun i hi => by cases hi; exact Nat.le_refl _)))
    obtain ⟨g, hg⟩ : ∃ g, w1.heap.size = g := ⟨_, rfl⟩
    rw [hg] at HT ⊢
    have e0 := fun d os => ((HT.out).kept (kept_grown' w3 d os) (fun hf => hf)).cf
    have e1 := fun d os => ((HT.out).kept (kept_grown' w3 d os) (fun hf => hf)).ct
    have her : (er == 0) = decide (er = 0) := rfl
    clear hb3 hk3 hz3 HZ HK1 hg
    refine wp_region_quiet_below (by kernel_rfl) (by kernel_rfl) ?_
    repeat (go_big_quiet_step (fail))
    refine wpQuiet_nil ?_
    rintro wz ⟨nq, hw⟩
    have HKz := Lib.hid (HK3.out.then (show Kept Nil w3 wz by rw [hw]; exact kept_grown _ _))
    clear hw e0 e1
    go_wp2
    go_ret3
    exact ⟨by rw [HR.out]; rfl, HKz.out⟩
  · have hb6 : ((p : Int) == 6) = false := by simp; omega
    by_cases h17 : p = 17
    · subst h17
      have hb17 : (((17 : Nat) : Int) == 17) = true := rfl
      have hb6' : (((17 : Nat) : Int) == 6) = false := rfl
      have HR := Lib.hid (show portsM 17 l = ((getU l).1.f, (getU l).1.t, decide ((getU l).2 = 0)) from rfl)
      obtain ⟨R, hR⟩ : ∃ R, getU l = R := ⟨_, rfl⟩
      rw [hR] at CU HR
      obtain ⟨h, er⟩ := R
      clear CT hR h6 hb6
      go_enter Tryd.func14, Tryd.ntmps14
      go_wp2_with (fail)
      refine (CU.out).mono ?_
      rintro e w1 ⟨B1, m1, d1, rfl, hb, hk⟩
      dsimp only
      have HZ := Lib.hid (UB.new w1 38 Ud.zero none 0 0)
      have HK1 := Lib.hid hk
      clear hb hk CU
      go_upto_region 7 with (first
        | (refine wpList_st rfl _ (.tmp 9) _ rfl w1.heap.size 0 rfl (ucs h B1 m1 d1) _ rfl rfl (infUc _ _ _ _) 38 _ HZ.out (by show 0 + 5 ≤ 5; omega) (ucs_one _ _ _ _) ?_; intro w3 hb3 hk3 hz3; simp only [Act.put])
        | fail)
      have HT := Lib.hid (show UB w3 w1.heap.size 38 h B1 m1 d1 from hb3)
      have HK3 := Lib.hid (HK1.out.then (((Kept.refl Nil w1).alloc (.cells (ucs Ud.zero none 0 0).toArray 38)).fresh hk3 (fun i hi => by cases hi; exact Nat.le_refl _)))
      obtain ⟨g, hg⟩ : ∃ g, w1.heap.size = g := ⟨_, rfl⟩
      rw [hg] at HT ⊢
      have e0 := fun d os => ((HT.out).kept (kept_grown' w3 d os) (fun hf => hf)).cf
      have e1 := fun d os => ((HT.out).kept (kept_grown' w3 d os) (fun hf => hf)).ct
      clear hb3 hk3 hz3 HZ HK1 hg
      refine wp_region_quiet_below (by kernel_rfl) (by kernel_rfl) ?_
      repeat (go_big_quiet_step (fail))
      refine wpQuiet_nil ?_
      rintro wz ⟨nq, hw⟩
      have HKz := Lib.hid (HK3.out.then (show Kept Nil w3 wz by rw [hw]; exact kept_grown _ _))
      clear hw e0 e1
      go_wp2
      go_ret3
      exact ⟨by rw [HR.out]; rfl, HKz.out⟩
    · have hb17 : ((p : Int) == 17) = false := by simp; omega
      have HR := Lib.hid (show portsM p l = (0, 0, false) by unfold portsM; rw [if_neg h6, if_neg h17])
      clear h6 h17 CT CU
      go_enter Tryd.func14, Tryd.ntmps14
      go_wp2
      go_ret3
      exact ⟨by rw [HR.out]; rfl, Kept.refl _ _⟩
end Go.Proofs.YthjbabkmjmfmjaaDoor
/- Regions that draw their order and store into the fields of one block. Nothing of the program is named here. -/
namespace Go.Proofs.YthjbabkmjmfmjaaDoor
open Go.RowKit Go.Sort
set_option linter.unusedVariables false

theorem wpQuiet_ld {P : Program} {ops : Array Oper} {C : World → Prop} {Q : Act → Prop} {o : Oper} {rest : List Oper} {a : Act} (hgd : Region.wanted o (yielded ops a.tmps) = true) (ty : TypeId) (p : Operand) (ho : o.op = .load ty p)
    (g f : Nat) (hp : a.eval p = .pointer (some ⟨g, f, none⟩)) (l : List Value) (hl : ∀ w, C w → Row w g f l) (d : TypeDesc) (hu : P.underlying ty = some d) (hd : aggB d = true) (hi : (P.info? ty).map (·.size) = some l.length)
    (h : wpQuiet P ops C Q rest (a.put o.dst (.agg l.toArray))) : wpQuiet P ops C Q (o :: rest) a := by
  unfold wpQuiet
  rw [if_pos hgd]
  refine ⟨_, fun w hw => ?_, h⟩
  unfold Oper.quietAt execOp
  simp only [ho, hp, Instr.loadAt, Instr.sureAddr, Sem.run_bind, Sem.run_pure, Result.andThen_ok, run_loadRow (hl w hw) hu hd hi]
  exact ⟨rfl, rfl⟩
theorem row_grown {V w : World} {g f : Nat} {l : List Value} (h : Row V g f l) (hw : ∃ p : Regrown, w = grow (redrawn V p.d) p.os) : Row w g f l := by
  obtain ⟨p, rfl⟩ := hw
  exact h.kept (kept_grown V p) (fun hf => hf)
/-- A block that is stored into, step by step. -/
def stI (g : Nat) (T : TypeId) (cs : Nat → List Value) (D : Nat → Prop) (s : List Value) (u : World) : Prop := Blo u g T (cs s.length).toArray ∧ ∀ k, D k → k ≠ g
theorem stI_keeps (g : Nat) (T : TypeId) (cs : Nat → List Value) : Keeps (stI g T cs) where
  quiet := fun D s u u' h k => ⟨h.1.kept k (fun hf => hf), h.2⟩
  make := fun D s u o h => ⟨h.1.alloc o, fun k hk => by
    rcases hk with hk | rfl
    · exact h.2 k hk
    · exact fun e => Nat.lt_irrefl _ (e ▸ h.1.lt)⟩
theorem tLex_st {P : Program} {ops : Array Oper} {F : Nat → Prop} {W : World} {acts : List Nat} {Z : Nat → List Value → Array Value × TypeId} {vs : Nat → Value} {Pv : Nat → Value → Prop} {Tf : Act → Mad → List Value → Prop} {o : Oper} {rest : List Oper} {k : Nat} {a : Act} {L : Mad} {s : List Value}
    {g : Nat} {T : TypeId} {cs : Nat → List Value} (hF : F g) (f : Nat) (ty : TypeId) (p x : Operand) (ho : o.op = .store ty p x) (hg : Region.wanted o (yielded ops a.tmps) = true) (hk : acts.contains k = true) (hv : Pv k undef) (n : Nat) (hn : s.length = n)
    (hp : a.eval p = .pointer (some ⟨g, f, none⟩)) (l : List Value) (v : Value) (hx : a.eval x = v) (hvc : v.cells = l.toArray) (hi : (P.info? ty).map (·.size) = some l.length) (hf : f + l.length ≤ (cs n).length) (h1 : ∀ u ∈ l, u.oneCell' = true)
    (hcs : cs (n + 1) = (cs n).take f ++ l ++ (cs n).drop (f + l.length)) (hpv : ∀ v, Pv k v → v = undef)
    (h : tLex P ops F W acts Z vs (stI g T cs) Pv Tf rest (k + 1) (a.put o.dst undef) L (s ++ [undef])) : tLex P ops F W acts Z vs (stI g T cs) Pv Tf (o :: rest) k a L s := by
  have hkd : kdOf ops acts k o a = .act := by
    unfold kdOf
    rw [if_pos hg, if_pos hk]
  show tO P ops F W acts Z vs (stI g T cs) Pv k o _ a L s
  unfold tO
  simp only [hkd]
  refine ⟨fun D u hu hI hd => ?_, ⟨undef, hv⟩, fun v hv => by rw [hpv v hv]; exact h⟩
  have hb := hI.1
  rw [hn] at hb
  have hs := run_storeRow (P := P) g f T l 0 (cs n).toArray u hb (by simpa using hf) h1
  have hsv : (storeVar ty ⟨g, f, none⟩ v).run P u = .ok () (u.setRow g ((cs n).take f ++ l ++ (cs n).drop (f + l.length)).toArray) := by
    cases hq : P.info? ty with
    | none => simp [hq] at hi
    | some i =>
      have hz : i.size = l.length := by simpa [hq] using hi
      simp only [Nat.add_zero] at hs
      simp [storeVar, sizeOf, typeInfo, hq, hvc, hz, hs]
  unfold execOp
  simp only [ho, hp, hx, Instr.storeAt, Instr.sureAddr, Sem.run_bind, Sem.run_pure, Result.andThen_ok, hsv, actUpon]
  have hk2 := kept_setRow u g ((cs n).take f ++ l ++ (cs n).drop (f + l.length)).toArray
  refine ⟨hv, hu.trans hk2 (fun i _ hi => by cases hi; exact hF), ⟨?_, hI.2⟩, by simp [World.setRow], fun k hDk hku => hk2.block k hku (fun hf => hI.2 k hDk hf)⟩
  have := setRow_heap u g _ ((cs n).take f ++ l ++ (cs n).drop (f + l.length)).toArray T _ hb
  unfold Blo
  rw [List.length_append, hn, List.length_singleton, hcs]
  exact this
theorem exec_app {P : Program} {o : Oper} {a : Act} {u w' : World} (s x : Operand) (t : TypeId) (ho : o.op = .call { callee := .builtin .append, args := #[s, x], argTypes := #[t, t] }) {v vx v' : Value} (hs : a.eval s = v) (hx : a.eval x = vx)
    (hr : (Builtin.append_ #[t, t] o.type #[v, vx]).run P u = .ok v' w') : (execOp a.eval o).run P u = .ok (.value v') w' := by
  unfold execOp
  simp only [ho, resolve, invoke, builtin, Sem.run_bind, Sem.run_pure, Result.andThen_ok, List.map_toArray, List.map_cons, List.map_nil, hs, hx, hr]
theorem exec_ld1 {P : Program} {o : Oper} {a : Act} {u : World} (ty e : TypeId) (p : Operand) (ho : o.op = .load ty p) {g f : Nat} {v : Value} (hp : a.eval p = .pointer (some ⟨g, f, none⟩)) (hc : u.cell? ⟨g, f, none⟩ = some v) (hu : P.underlying ty = some (.slice e)) :
    (execOp a.eval o).run P u = .ok (.value v) u := by
  have hl : (loadVar ty ⟨g, f, none⟩).run P u = .ok v u := by simp [loadVar, isAgg, run_underlying hu, hc, go_sem]
  unfold execOp
  simp only [ho, hp, Instr.loadAt, Instr.sureAddr, Sem.run_bind, Sem.run_pure, Result.andThen_ok, hl]
theorem exec_st {P : Program} {o : Oper} {a : Act} {u : World} (ty : TypeId) (p x : Operand) (ho : o.op = .store ty p x) {g f : Nat} (hp : a.eval p = .pointer (some ⟨g, f, none⟩)) (l : List Value) {v : Value} (hx : a.eval x = v) (hvc : v.cells = l.toArray) (hi : (P.info? ty).map (·.size) = some l.length) {T : TypeId} {cs : List Value} (hb : Blo u g T cs.toArray) (hf : f + l.length ≤ cs.length) (h1 : ∀ u ∈ l, u.oneCell' = true) :
    ∃ w', (execOp a.eval o).run P u = .ok .skip w' ∧ Blo w' g T (cs.take f ++ l ++ cs.drop (f + l.length)).toArray ∧ Kept (One g) u w' ∧ w'.heap.size = u.heap.size := by
  have hs := run_storeRow (P := P) g f T l 0 cs.toArray u hb (by simpa using hf) h1
  have hsv : (storeVar ty ⟨g, f, none⟩ v).run P u = .ok () (u.setRow g (cs.take f ++ l ++ cs.drop (f + l.length)).toArray) := by
    cases hq : P.info? ty with
    | none => simp [hq] at hi
    | some i =>
      have hz : i.size = l.length := by simpa [hq] using hi
      simp only [Nat.add_zero] at hs
      simp [storeVar, sizeOf, typeInfo, hq, hvc, hz, hs]
  refine ⟨_, ?_, setRow_heap u g _ _ T _ hb, kept_setRow u g _, by simp [World.setRow]⟩
  unfold execOp
  simp only [ho, hp, hx, Instr.storeAt, Instr.sureAddr, Sem.run_bind, Sem.run_pure, Result.andThen_ok, hsv]
/-- Any act, by what it does. -/
theorem tLex_raw {P : Program} {ops : Array Oper} {F : Nat → Prop} {W : World} {acts : List Nat} {Z : Nat → List Value → Array Value × TypeId} {vs : Nat → Value} {I : (Nat → Prop) → List Value → World → Prop} {Pv : Nat → Value → Prop} {Tf : Act → Mad → List Value → Prop} {o : Oper} {rest : List Oper} {k : Nat} {a : Act} {L : Mad} {s : List Value}
    (hg : Region.wanted o (yielded ops a.tmps) = true) (hk : acts.contains k = true) (hv : ∃ v, Pv k v)
    (hA : ∀ D u, Kept F W u → I D s u → (∀ g x, Dep (opVals o a) g → L g = some x → D g ∧ Blo u g x.2 x.1) →
      actUpon P (fun v w' => Pv k v ∧ Kept F W w' ∧ I D (s ++ [v]) w' ∧ u.heap.size ≤ w'.heap.size ∧ ∀ k, D k → k < u.heap.size → w'.heap[k]? = u.heap[k]?) ((execOp a.eval o).run P u))
    (h : ∀ v, Pv k v → tLex P ops F W acts Z vs I Pv Tf rest (k + 1) (a.put o.dst v) L (s ++ [v])) : tLex P ops F W acts Z vs I Pv Tf (o :: rest) k a L s := by
  have hkd : kdOf ops acts k o a = .act := by
    unfold kdOf
    rw [if_pos hg, if_pos hk]
  show tO P ops F W acts Z vs I Pv k o _ a L s
  unfold tO
  simp only [hkd]
  exact ⟨hA, hv, h⟩
end Go.Proofs.YthjbabkmjmfmjaaDoor
