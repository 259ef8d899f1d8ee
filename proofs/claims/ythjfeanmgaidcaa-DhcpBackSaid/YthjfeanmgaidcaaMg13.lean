/- Texts that belong together, one behind the other: DhE, EthT. Conditions: those of each. -/
import Derived.Test.YthjfeanmgaidcaaMg12
import Derived.Deep.LoopGhost
import Derived.Test.YthjfeanmgaidcaaMg3
import Derived.Test.YthjfeanmgaidcaaMg2
/- Package dhcp: contract of takeOptions. -/
namespace Go.Proofs.Ythjfeanmgaidcaa
open Go.RowKit Go.Sort
set_option linter.unusedVariables false

/-- A row of the call's own that reads as options; their values lie in D. -/
def OwnO (B : Nat) (D : Nat → Prop) (k : IntKind) (w : World) (T : TypeId) (v : Value) (os : List Opn) : Prop :=
  ∃ rs : List (List Value), w.ownsRow B T 2 v os.length rs.flatten ∧ rs.length = os.length ∧ (∀ r ∈ rs, r.length = 2) ∧ ∀ (i : Nat) (r : List Value) (o : Opn), rs[i]? = some r → os[i]? = some o → OpR D k w r o
section
variable {B : Nat} {D D' : Nat → Prop} {k : IntKind} {w w' : World} {T : TypeId} {v : Value} {os : List Opn}
theorem OwnO.nil (B : Nat) (D : Nat → Prop) (k : IntKind) (w : World) (T : TypeId) : OwnO B D k w T (.slice none 0 0) [] := ⟨[], World.ownsRow_nil _ _ _ _, rfl, fun r h => by simp at h, fun i r o h => by simp at h⟩
theorem OwnO.kept {F : Nat → Prop} (h : OwnO B D k w T v os) (q : Kept F w w') (hv : ∀ i, v.ownBlock = some i → ¬ F i) (hD : ∀ i, D i → ¬ F i) : OwnO B D k w' T v os := by
  obtain ⟨rs, h1, h2, h3, h4⟩ := h
  exact ⟨rs, own_kept h1 q hv, h2, h3, fun i r o hr ho => (h4 i r o hr ho).kept q hD⟩
theorem OwnO.nilk (h : OwnO B D k w T v os) (q : Kept Nil w w') : OwnO B D k w' T v os := h.kept q (fun _ _ hf => hf) (fun _ _ hf => hf)
theorem OwnO.mono {B' : Nat} (h : OwnO B D k w T v os) (hB : B' ≤ B) (hD : ∀ i, D i → D' i) : OwnO B' D' k w T v os := by
  obtain ⟨rs, h1, h2, h3, h4⟩ := h
  exact ⟨rs, own_mono h1 hB, h2, h3, fun i r o hr ho => (h4 i r o hr ho).mono hD⟩
theorem OwnO.ge (h : OwnO B D k w T v os) : ∀ i, v.ownBlock = some i → B ≤ i := by
  obtain ⟨rs, h1, h2, h3, h4⟩ := h
  exact fun i hi => (h1.lt i hi).1
theorem OwnO.form (h : OwnO B D k w T v os) : ∃ A c, v = .slice A os.length c := by
  obtain ⟨rs, h1, h2, h3, h4⟩ := h
  exact own_form h1
/-- One more. -/
theorem OwnO.snoc {w1 : World} {v' : Value} {o : Opn} {r : List Value} (hr : r.length = 2) (rs : List (List Value)) (h2 : rs.length = os.length) (h3 : ∀ r ∈ rs, r.length = 2) (h4 : ∀ (i : Nat) (r : List Value) (o : Opn), rs[i]? = some r → os[i]? = some o → OpR D k w1 r o) (ho : OpR D k w1 r o) (hn : w1.ownsRow B T 2 v' (os.length + 1) (rs.flatten ++ [r].flatten)) : OwnO B D k w1 T v' (os ++ [o]) := by
  refine ⟨rs ++ [r], by simpa using hn, by simp [h2], fun x hx => ?_, fun i x y hx hy => ?_⟩
  · rcases List.mem_append.1 hx with hx | hx
    · exact h3 x hx
    · simp at hx; subst hx; exact hr
  · rcases Nat.lt_or_ge i os.length with hi | hi
    · rw [List.getElem?_append_left (by omega)] at hx hy
      exact h4 i x y hx hy
    · rw [List.getElem?_append_right (by omega)] at hx hy
      have hi0 : i - os.length = 0 := by
        rcases Nat.eq_zero_or_pos (i - os.length) with h | h
        · exact h
        · rw [List.getElem?_eq_none (by simp; omega)] at hy; cases hy
      rw [h2, hi0] at hx
      rw [hi0] at hy
      simp at hx hy
      subst hx hy
      exact ho
/-- Such a row as a slice. -/
theorem OwnO.opts (h : OwnO B D k w T v os) : ∃ A c, v = .slice A os.length c ∧ Opts (fun i => D i ∨ B ≤ i) k w A os.length c os := by
  obtain ⟨rs, h1, h2, h3, h4⟩ := h
  obtain ⟨A, c, hv, hr, hl⟩ := Rws.of_own (by decide) h3 h1
  exact ⟨A, c, hv, rfl, ⟨rs, hr, fun i r o hx hy => (h4 i r o hx hy).mono (fun _ h => .inl h)⟩, fun i hi => .inr (hl i hi)⟩
end
/-- What one byte more is. -/
theorem tk1 (s : Cst) (hk : s.k ≤ s.l.length) : (s.er = 0 ∧ s.k < s.l.length ∧ ∃ c : UInt8, s.l.drop s.k = c :: s.l.drop (s.k + 1) ∧ numM (takeM s 1).1 = c.toNat ∧ (takeM s 1).2 = ⟨s.l, s.k + 1, 0⟩) ∨ (s.er = 0 ∧ s.l.drop s.k = [] ∧ numM (takeM s 1).1 = 0 ∧ (takeM s 1).2 = ⟨s.l, s.k, 4⟩) ∨ (s.er ≠ 0 ∧ numM (takeM s 1).1 = 0 ∧ (takeM s 1).2 = s) := by
  obtain ⟨l, k, er⟩ := s
  simp only at hk
  by_cases he : er = 0
  · subst he
    rcases Nat.lt_or_ge k l.length with h | h
    · refine .inl ⟨rfl, h, l[k], List.drop_eq_getElem_cons h, ?_⟩
      rw [show ((1 : Int)) = ((1 : Nat) : Int) from rfl, takeM_ok l k 1 (by omega), List.drop_eq_getElem_cons h, List.take_succ_cons, List.take_zero]
      exact ⟨by simp [numM], rfl⟩
    · refine .inr (.inl ⟨rfl, List.drop_of_length_le h, ?_⟩)
      rw [show ((1 : Int)) = ((1 : Nat) : Int) from rfl, takeM_short l k 1 hk (by omega)]
      exact ⟨rfl, rfl⟩
  · refine .inr (.inr ⟨he, ?_⟩)
    rw [takeM_err l k er he]
    exact ⟨rfl, rfl⟩
/-- Between two options. -/
def MInv (s0 : Cst) (os : List Opn) (s : Cst) : Prop :=
  (s0.er ≠ 0 ∧ s = s0) ∨ (s0.er = 0 ∧ s.l = s0.l ∧ s.er = 0 ∧ optM (s0.l.drop s0.k) = (optM (s.l.drop s.k)).map (fun x => (os ++ x.1, x.2)) ∧ os.length ≤ s.k) ∨ (s0.er = 0 ∧ s.l = s0.l ∧ s.er = 4 ∧ optM (s0.l.drop s0.k) = none)
/-- The next code has been taken. -/
def OInv (s0 : Cst) (os : List Opn) (c : UInt8) (s : Cst) : Prop :=
  (s0.er ≠ 0 ∧ s = s0) ∨ (s0.er = 0 ∧ s.l = s0.l ∧ s.er = 0 ∧ optM (s0.l.drop s0.k) = (optM (c :: s.l.drop s.k)).map (fun x => (os ++ x.1, x.2)) ∧ os.length ≤ s.k) ∨ (s0.er = 0 ∧ s.l = s0.l ∧ s.er = 4 ∧ optM (s0.l.drop s0.k) = none)
theorem MInv.start (s0 : Cst) : MInv s0 [] s0 := by
  by_cases h : s0.er = 0
  · exact .inr (.inl ⟨h, rfl, h, by cases optM (s0.l.drop s0.k) <;> rfl, Nat.zero_le _⟩)
  · exact .inl ⟨h, rfl⟩
theorem MInv.byte {s0 s : Cst} {os : List Opn} (h : MInv s0 os s) (hk : s.k ≤ s.l.length) : ∃ (c : UInt8) (s' : Cst), numM (takeM s 1).1 = c.toNat ∧ (takeM s 1).2 = s' ∧ OInv s0 os c s' ∧ (s'.er = 0 → s.er = 0 ∧ s'.k = s.k + 1 ∧ s'.l = s.l) := by
  rcases h with ⟨h1, rfl⟩ | ⟨h1, h2, h3, h4, h5⟩ | ⟨h1, h2, h3, h4⟩
  · rcases tk1 s hk with h | h | ⟨_, h6, h7⟩
    · exact absurd h.1 h1
    · exact absurd h.1 h1
    · exact ⟨0, s, h6, h7, .inl ⟨h1, rfl⟩, fun h => absurd h h1⟩
  · rcases tk1 s hk with ⟨_, _, c, h6, h7, h8⟩ | ⟨_, h6, h7, h8⟩ | h
    · exact ⟨c, _, h7, h8, .inr (.inl ⟨h1, h2, rfl, by rw [h4, h6], by simp only; omega⟩), fun _ => ⟨h3, rfl, rfl⟩⟩
    · exact ⟨0, _, h7, h8, .inr (.inr ⟨h1, h2, rfl, by rw [h4, h6]; rfl⟩), fun h => by cases h⟩
    · exact absurd h3 h.1
  · rcases tk1 s hk with h | h | ⟨_, h6, h7⟩
    · rw [h3] at h; cases h.1
    · rw [h3] at h; cases h.1
    · exact ⟨0, s, h6, h7, .inr (.inr ⟨h1, h2, h3, h4⟩), fun h => by rw [h3] at h; cases h⟩
theorem OInv.zero {s0 s : Cst} {os : List Opn} (h : OInv s0 os 0 s) : MInv s0 os s := by
  rcases h with h | ⟨h1, h2, h3, h4, h5⟩ | h
  · exact .inl h
  · exact .inr (.inl ⟨h1, h2, h3, by rw [h4, optM_zero], h5⟩)
  · exact .inr (.inr h)
theorem OInv.opt {s0 s : Cst} {os : List Opn} {c : UInt8} (h : OInv s0 os c s) (he : s.er = 0) (h0 : c ≠ 0) (h255 : c ≠ 255) (hk : s.k ≤ s.l.length) :
    ∃ (b : UInt8) (s1 : Cst) (vl : List UInt8) (s2 : Cst), numM (takeM s 1).1 = b.toNat ∧ (takeM s 1).2 = s1 ∧ (takeM s1 (b.toNat : Int)).1 = vl ∧ (takeM s1 (b.toNat : Int)).2 = s2 ∧ vl.length ≤ 255 ∧ MInv s0 (os ++ [(c, vl)]) s2 ∧ (s2.er = 0 → s.k + 1 ≤ s2.k ∧ s2.l = s.l) ∧ os.length ≤ s.k := by
  rcases h with ⟨h1, rfl⟩ | ⟨h1, h2, h3, h4, h5⟩ | ⟨h1, h2, h3, h4⟩
  · exact absurd he h1
  · rcases tk1 s hk with ⟨_, hlt, b, h6, h7, h8⟩ | ⟨_, h6, h7, h8⟩ | h
    · refine ⟨b, _, _, _, h7, h8, rfl, rfl, ?_⟩
      rw [h6, optM_cons c b _ h255 h0] at h4
      have hb := b.toNat_lt
      have hdl : (s.l.drop (s.k + 1)).length = s.l.length - (s.k + 1) := by simp
      rcases Nat.lt_or_ge s.l.length (s.k + 1 + b.toNat) with hs | hs
      · rw [takeM_short s.l (s.k + 1) b.toNat (by omega) hs]
        rw [if_pos (by omega)] at h4
        exact ⟨by simp, .inr (.inr ⟨h1, h2, rfl, by rw [h4]; rfl⟩), fun h => (by cases h), h5⟩
      · rw [takeM_ok s.l (s.k + 1) b.toNat hs]
        rw [if_neg (by omega), List.drop_drop] at h4
        refine ⟨by simp; omega, .inr (.inl ⟨h1, h2, rfl, ?_, by simp only [List.length_append, List.length_singleton]; omega⟩), fun _ => ⟨by simp only; omega, rfl⟩, h5⟩
        rw [h4]
        simp only [Option.map_map]
        congr 1
        funext x
        simp
    · refine ⟨0, _, _, _, h7, h8, rfl, rfl, ?_⟩
      rw [h6, optM_one c h255 h0] at h4
      rw [takeM_err s.l s.k 4 (by decide)]
      exact ⟨by simp, .inr (.inr ⟨h1, h2, rfl, by rw [h4]; rfl⟩), fun h => (by cases h), h5⟩
    · exact absurd h3 h.1
  · rw [h3] at he; cases he
/-- What takeOptions leaves. -/
def OptRes (s0 : Cst) (os : List Opn) (s' : Cst) : Prop :=
  (s0.er ≠ 0 ∧ s' = s0) ∨ (s0.er = 0 ∧ s'.er = 0 ∧ s'.l = s0.l ∧ optM (s0.l.drop s0.k) = some (os, s'.l.drop s'.k)) ∨ (s0.er = 0 ∧ s'.er = 4 ∧ s'.l = s0.l ∧ optM (s0.l.drop s0.k) = none)
theorem OInv.fin {s0 s : Cst} {os : List Opn} {c : UInt8} (h : OInv s0 os c s) (hc : c = 255 ∨ s.er ≠ 0) : OptRes s0 os s := by
  rcases h with h | ⟨h1, h2, h3, h4, h5⟩ | ⟨h1, h2, h3, h4⟩
  · exact .inl h
  · rcases hc with rfl | hc
    · refine .inr (.inl ⟨h1, h3, h2, ?_⟩)
      rw [h4, optM_end]
      simp
    · exact absurd h3 hc
  · exact .inr (.inr ⟨h1, h3, h2, h4⟩)
theorem infOpt : (Try.prog.info? 47).map (fun i => (i.zero, i.size, i.bytes)) = some (some (.agg #[.int .u8 0, .slice none 0 0]), 2, 32) := by kernel_rfl
end Go.Proofs.Ythjfeanmgaidcaa
/- Regions that draw their order and store into the fields of one block. Nothing of the program is named here. -/
namespace Go.Proofs.Ythjfeanmgaidcaa
open Go.RowKit Go.Sort
set_option linter.unusedVariables false

theorem wpQuiet_ld {P : Program} {ops : Array Oper} {C : World → Prop} {Q : Act → Prop} {o : Oper} {rest : List Oper} {a : Act} (hgd : Region.wanted o (yielded ops a.tmps) = true) (ty : TypeId) (p : Operand) (ho : o.op = .load ty p)
    (g f : Nat) (hp : a.eval p = .pointer (some ⟨g, f, none⟩)) (l : List Value) (hl : ∀ w, C w → Row w g f l) (d : TypeDesc) (hu : P.underlying ty = some d) (hd : aggB d = true) (hi : (P.info? ty).map (·.size) = some l.length)
    (h : wpQuiet P ops C Q rest (a.put o.dst (.agg l.toArray))) : wpQuiet P ops C Q (o :: rest) a := by
  unfold wpQuiet
  rw [if_pos hgd]
  refine ⟨_, fun w hw => ?_, h⟩
  unfold Oper.quietAt execOp
  simp only [ho, hp, Instr.loadAt, Instr.sureAddr, Sem.run_bind, Sem.run_pure, Result.andThen_ok, run_loadRow (hl w hw) hu hd hi]
  exact ⟨rfl, rfl⟩
theorem row_grown {V w : World} {g f : Nat} {l : List Value} (h : Row V g f l) (hw : ∃ p : Regrown, w = grow (redrawn V p.d) p.os) : Row w g f l := by
  obtain ⟨p, rfl⟩ := hw
  exact h.kept (kept_grown V p) (fun hf => hf)
/-- A block that is stored into, step by step. -/
def stI (g : Nat) (T : TypeId) (cs : Nat → List Value) (D : Nat → Prop) (s : List Value) (u : World) : Prop := Blo u g T (cs s.length).toArray ∧ ∀ k, D k → k ≠ g
theorem stI_keeps (g : Nat) (T : TypeId) (cs : Nat → List Value) : Keeps (stI g T cs) where
  quiet := fun D s u u' h k => ⟨h.1.kept k (fun hf => hf), h.2⟩
  make := fun D s u o h => ⟨h.1.alloc o, fun k hk => by
    rcases hk with hk | rfl
    · exact h.2 k hk
    · exact fun e => Nat.lt_irrefl _ (e ▸ h.1.lt)⟩
theorem tLex_st {P : Program} {ops : Array Oper} {F : Nat → Prop} {W : World} {acts : List Nat} {Z : Nat → List Value → Array Value × TypeId} {vs : Nat → Value} {Pv : Nat → Value → Prop} {Tf : Act → Mad → List Value → Prop} {o : Oper} {rest : List Oper} {k : Nat} {a : Act} {L : Mad} {s : List Value}
    {g : Nat} {T : TypeId} {cs : Nat → List Value} (hF : F g) (f : Nat) (ty : TypeId) (p x : Operand) (ho : o.op = .store ty p x) (hg : Region.wanted o (yielded ops a.tmps) = true) (hk : acts.contains k = true) (hv : Pv k undef) (n : Nat) (hn : s.length = n)
    (hp : a.eval p = .pointer (some ⟨g, f, none⟩)) (l : List Value) (v : Value) (hx : a.eval x = v) (hvc : v.cells = l.toArray) (hi : (P.info? ty).map (·.size) = some l.length) (hf : f + l.length ≤ (cs n).length) (h1 : ∀ u ∈ l, u.oneCell' = true)
    (hcs : cs (n + 1) = (cs n).take f ++ l ++ (cs n).drop (f + l.length)) (hpv : ∀ v, Pv k v → v = undef)
    (h : tLex P ops F W acts Z vs (stI g T cs) Pv Tf rest (k + 1) (a.put o.dst undef) L (s ++ [undef])) : tLex P ops F W acts Z vs (stI g T cs) Pv Tf (o :: rest) k a L s := by
  have hkd : kdOf ops acts k o a = .act := by
    unfold kdOf
    rw [if_pos hg, if_pos hk]
  show tO P ops F W acts Z vs (stI g T cs) Pv k o _ a L s
  unfold tO
  simp only [hkd]
  refine ⟨fun D u hu hI hd => ?_, ⟨undef, hv⟩, fun v hv => by rw [hpv v hv]; exact h⟩
  have hb := hI.1
  rw [hn] at hb
  have hs := run_storeRow (P := P) g f T l 0 (cs n).toArray u hb (by simpa using hf) h1
  have hsv : (storeVar ty ⟨g, f, none⟩ v).run P u = .ok () (u.setRow g ((cs n).take f ++ l ++ (cs n).drop (f + l.length)).toArray) := by
    cases hq : P.info? ty with
    | none => simp [hq] at hi
    | some i =>
      have hz : i.size = l.length := by simpa [hq] using hi
      simp only [Nat.add_zero] at hs
      simp [storeVar, sizeOf, typeInfo, hq, hvc, hz, hs]
  unfold execOp
  simp only [ho, hp, hx, Instr.storeAt, Instr.sureAddr, Sem.run_bind, Sem.run_pure, Result.andThen_ok, hsv, actUpon]
  have hk2 := kept_setRow u g ((cs n).take f ++ l ++ (cs n).drop (f + l.length)).toArray
  refine ⟨hv, hu.trans hk2 (fun i _ hi => by cases hi; exact hF), ⟨?_, hI.2⟩, by simp [World.setRow], fun k hDk hku => hk2.block k hku (fun hf => hI.2 k hDk hf)⟩
  have := setRow_heap u g _ ((cs n).take f ++ l ++ (cs n).drop (f + l.length)).toArray T _ hb
  unfold Blo
  rw [List.length_append, hn, List.length_singleton, hcs]
  exact this
theorem exec_app {P : Program} {o : Oper} {a : Act} {u w' : World} (s x : Operand) (t : TypeId) (ho : o.op = .call { callee := .builtin .append, args := #[s, x], argTypes := #[t, t] }) {v vx v' : Value} (hs : a.eval s = v) (hx : a.eval x = vx)
    (hr : (Builtin.append_ #[t, t] o.type #[v, vx]).run P u = .ok v' w') : (execOp a.eval o).run P u = .ok (.value v') w' := by
  unfold execOp
  simp only [ho, resolve, invoke, builtin, Sem.run_bind, Sem.run_pure, Result.andThen_ok, List.map_toArray, List.map_cons, List.map_nil, hs, hx, hr]
theorem exec_ld1 {P : Program} {o : Oper} {a : Act} {u : World} (ty e : TypeId) (p : Operand) (ho : o.op = .load ty p) {g f : Nat} {v : Value} (hp : a.eval p = .pointer (some ⟨g, f, none⟩)) (hc : u.cell? ⟨g, f, none⟩ = some v) (hu : P.underlying ty = some (.slice e)) :
    (execOp a.eval o).run P u = .ok (.value v) u := by
  have hl : (loadVar ty ⟨g, f, none⟩).run P u = .ok v u := by simp [loadVar, isAgg, run_underlying hu, hc, go_sem]
  unfold execOp
  simp only [ho, hp, Instr.loadAt, Instr.sureAddr, Sem.run_bind, Sem.run_pure, Result.andThen_ok, hl]
theorem exec_st {P : Program} {o : Oper} {a : Act} {u : World} (ty : TypeId) (p x : Operand) (ho : o.op = .store ty p x) {g f : Nat} (hp : a.eval p = .pointer (some ⟨g, f, none⟩)) (l : List Value) {v : Value} (hx : a.eval x = v) (hvc : v.cells = l.toArray) (hi : (P.info? ty).map (·.size) = some l.length) {T : TypeId} {cs : List Value} (hb : Blo u g T cs.toArray) (hf : f + l.length ≤ cs.length) (h1 : ∀ u ∈ l, u.oneCell' = true) :
    ∃ w', (execOp a.eval o).run P u = .ok .skip w' ∧ Blo w' g T (cs.take f ++ l ++ cs.drop (f + l.length)).toArray ∧ Kept (One g) u w' ∧ w'.heap.size = u.heap.size := by
  have hs := run_storeRow (P := P) g f T l 0 cs.toArray u hb (by simpa using hf) h1
  have hsv : (storeVar ty ⟨g, f, none⟩ v).run P u = .ok () (u.setRow g (cs.take f ++ l ++ cs.drop (f + l.length)).toArray) := by
    cases hq : P.info? ty with
    | none => simp [hq] at hi
    | some i =>
      have hz : i.size = l.length := by simpa [hq] using hi
      simp only [Nat.add_zero] at hs
      simp [storeVar, sizeOf, typeInfo, hq, hvc, hz, hs]
  refine ⟨_, ?_, setRow_heap u g _ _ T _ hb, kept_setRow u g _, by simp [World.setRow]⟩
  unfold execOp
  simp only [ho, hp, hx, Instr.storeAt, Instr.sureAddr, Sem.run_bind, Sem.run_pure, Result.andThen_ok, hsv]
/-- Any act, by what it does. -/
theorem tLex_raw {P : Program} {ops : Array Oper} {F : Nat → Prop} {W : World} {acts : List Nat} {Z : Nat → List Value → Array Value × TypeId} {vs : Nat → Value} {I : (Nat → Prop) → List Value → World → Prop} {Pv : Nat → Value → Prop} {Tf : Act → Mad → List Value → Prop} {o : Oper} {rest : List Oper} {k : Nat} {a : Act} {L : Mad} {s : List Value}
    (hg : Region.wanted o (yielded ops a.tmps) = true) (hk : acts.contains k = true) (hv : ∃ v, Pv k v)
    (hA : ∀ D u, Kept F W u → I D s u → (∀ g x, Dep (opVals o a) g → L g = some x → D g ∧ Blo u g x.2 x.1) →
      actUpon P (fun v w' => Pv k v ∧ Kept F W w' ∧ I D (s ++ [v]) w' ∧ u.heap.size ≤ w'.heap.size ∧ ∀ k, D k → k < u.heap.size → w'.heap[k]? = u.heap[k]?) ((execOp a.eval o).run P u))
    (h : ∀ v, Pv k v → tLex P ops F W acts Z vs I Pv Tf rest (k + 1) (a.put o.dst v) L (s ++ [v])) : tLex P ops F W acts Z vs I Pv Tf (o :: rest) k a L s := by
  have hkd : kdOf ops acts k o a = .act := by
    unfold kdOf
    rw [if_pos hg, if_pos hk]
  show tO P ops F W acts Z vs I Pv k o _ a L s
  unfold tO
  simp only [hkd]
  exact ⟨hA, hv, h⟩
end Go.Proofs.Ythjfeanmgaidcaa
