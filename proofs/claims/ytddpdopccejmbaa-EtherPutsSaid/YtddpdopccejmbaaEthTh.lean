/- tolllaw04.EtherTags: the region that puts other tags on. -/
import Derived.Test.YtddpdopccejmbaaMg20
import Derived.Test.YtddpdopccejmbaaEthBk
import Derived.Test.YtddpdopccejmbaaMg18
import Derived.Test.YtddpdopccejmbaaMg30
namespace Go.Proofs.Ytddpdopccejmbaa
open Go.RowKit Go.Sort
set_option linter.unusedVariables false

theorem frv_inj {f : Fr} {a b c a' b' c' : Value} (h : frv f a b c = frv f a' b' c') : a = a' ∧ b = b' ∧ c = c' := by
  unfold frv fcs at h
  injection h with h
  have := congrArg Array.toList h
  simp at this
  exact this
theorem wp_nameA {P : Program} {c : Code} {Q : Exit → Act → World → Prop} {a : Act} {w : World} (h : ∀ A, A = a → Code.wp P c Q A w) : Code.wp P c Q a w := h a rfl
def trueU (_ : Nat) (_ : World) : Prop := True
def tgD : List Nat := [114, 115, 116, 117, 118, 119, 120, 121, 122, 123, 113, 124, 125, 11, 12]
def Far (g : Nat) (v : Value) : Prop := ∀ A n c, v = .slice A n c → ∀ i, Lies A n i → i ≠ g
/-- What the region keeps up: F2: the frame that is read; zz: the bytes that it is read of. -/
structure tgI (w7 : World) (F2 : Fr) (ZL : Nat) (zz : List UInt8) (a0 a : Act) (u : World) : Prop where
  size : a.tmps.size = a0.tmps.size
  defs : a.defers = a0.defers
  fr : ∀ d, d ∉ tgD → a.tmps.getD d undef = a0.tmps.getD d undef
  kept : Kept Nil w7 u
  al : ∀ g f', a.eval (.tmp 11) = .pointer (some ⟨g, f', none⟩) → w7.heap.size ≤ g ∧ g < u.heap.size ∧ ∃ F' x y z, F'.six ∧ FB u g 28 F' x y z
  by8 : ∀ A n c, a.eval (.tmp 122) = .slice A n c → n = ZL ∧ Byt u A n c zz ∧ ∀ g f', a.eval (.tmp 11) = .pointer (some ⟨g, f', none⟩) → ∀ i, Lies A n i → i ≠ g
  fr9 : ∀ pt pb pr, a.eval (.tmp 123) = .tuple #[frv F2 pt pb pr, .int .i64 0] → FrIn u F2 pt pb pr ∧ ∀ g f', a.eval (.tmp 11) = .pointer (some ⟨g, f', none⟩) → Far g pt ∧ Far g pb ∧ Far g pr
def tgR (F2 : Fr) (ZL : Nat) (v1 v3 v4 v5 v7 : Value) (v6 : Value) (g2 : Nat) (i : Nat) (a : Act) (u : World) : Prop := match i with
  | 0 => a.eval (.tmp 114) = pAt g2 6
  | 1 => a.eval (.tmp 115) = v1
  | 2 => a.eval (.tmp 116) = pAt g2 0
  | 3 => a.eval (.tmp 117) = v3
  | 4 => a.eval (.tmp 118) = v4
  | 5 => a.eval (.tmp 119) = v5
  | 6 => a.eval (.tmp 120) = v6
  | 7 => a.eval (.tmp 121) = v7
  | 8 => ∃ A c, a.eval (.tmp 122) = .slice A ZL c
  | 9 => ∃ pt pb pr, a.eval (.tmp 123) = .tuple #[frv F2 pt pb pr, .int .i64 0]
  | 10 => a.eval (.tmp 113) = a.eval (.tmp 123) ∧ ∃ pt pb pr, a.eval (.tmp 123) = .tuple #[frv F2 pt pb pr, .int .i64 0]
  | 11 => a.eval (.tmp 113) = .tuple #[a.eval (.tmp 124), .int .i64 0]
  | 12 => a.eval (.tmp 125) = .int .i64 0
  | 13 => ∃ g, a.eval (.tmp 11) = pAt g 0
  | 14 => ∃ g x y z, a.eval (.tmp 11) = pAt g 0 ∧ a.eval (.tmp 124) = frv F2 x y z ∧ FB u g 28 F2 x y z
  | 15 => a.eval (.tmp 12) = .int .i64 0
  | _ => True
section
variable {w7 : World} {F2 : Fr} {ZL : Nat} {zz : List UInt8} {a0 a : Act} {u u' : World}
theorem tgI.put (h : tgI w7 F2 ZL zz a0 a u) (d : Nat) (v : Value) (hd : d ∈ tgD) (h11 : d ≠ 11) (h122 : d ≠ 122) (h123 : d ≠ 123) : tgI w7 F2 ZL zz a0 (a.put (some d) v) u where
  size := (put_size _ _ _).trans h.size
  defs := h.defs
  fr := fun k hk => by
    have hne : d ≠ k := fun e => hk (e ▸ hd)
    exact (eval_put a d v k hne).trans (h.fr k hk)
  kept := h.kept
  al := fun g f' e => h.al g f' (by rwa [eval_put _ _ _ _ h11] at e)
  by8 := fun A n c e => by
    rw [eval_put _ _ _ _ h122] at e
    obtain ⟨e1, e2, e3⟩ := h.by8 A n c e
    exact ⟨e1, e2, fun g f' eg => e3 g f' (by rwa [eval_put _ _ _ _ h11] at eg)⟩
  fr9 := fun pt pb pr e => by
    rw [eval_put _ _ _ _ h123] at e
    obtain ⟨e1, e2⟩ := h.fr9 pt pb pr e
    exact ⟨e1, fun g f' eg => e2 g f' (by rwa [eval_put _ _ _ _ h11] at eg)⟩
theorem tgI.next (h : tgI w7 F2 ZL zz a0 a u) (k : Kept Nil u u') : tgI w7 F2 ZL zz a0 a u' where
  size := h.size
  defs := h.defs
  fr := h.fr
  kept := h.kept.then k
  al := fun g f' e => by
    obtain ⟨h1, h2, F', x, y, z, h3, h4⟩ := h.al g f' e
    exact ⟨h1, Nat.lt_of_lt_of_le h2 k.size, F', x, y, z, h3, h4.kept k (fun hf => hf)⟩
  by8 := fun A n c e => by
    obtain ⟨e1, e2, e3⟩ := h.by8 A n c e
    exact ⟨e1, e2.kept k (fun _ _ hf => hf), e3⟩
  fr9 := fun pt pb pr e => by
    obtain ⟨e1, e2⟩ := h.fr9 pt pb pr e
    exact ⟨e1.kept k, e2⟩
theorem tgR_next {v1 v3 v4 v5 v7 v6 : Value} {g2 i : Nat} (h : tgR F2 ZL v1 v3 v4 v5 v7 v6 g2 i a u) (k : Kept Nil u u') : tgR F2 ZL v1 v3 v4 v5 v7 v6 g2 i a u' := by
  unfold tgR at h ⊢
  split at h <;> first | exact h | (obtain ⟨g, x, y, z, h1, h2, h3⟩ := h; exact ⟨g, x, y, z, h1, h2, h3.kept k (fun hf => hf)⟩)
theorem tgR_st {v1 v3 v4 v5 v7 v6 : Value} {g2 i : Nat} (h : tgR F2 ZL v1 v3 v4 v5 v7 v6 g2 i a u) (hi : i ≠ 14) : tgR F2 ZL v1 v3 v4 v5 v7 v6 g2 i a u' := by
  unfold tgR at h ⊢
  split at h <;> first | exact h | exact absurd rfl hi
structure tgW (F2 : Fr) (ZL : Nat) (v1 v3 v4 v5 v7 : Value) (v6 : Value) (g2 : Nat) (i : Nat) (a : Act) (u : World) : Prop where
  out : tgR F2 ZL v1 v3 v4 v5 v7 v6 g2 i a u
theorem tgW.next {v1 v3 v4 v5 v7 v6 : Value} {g2 i : Nat} (h : tgW F2 ZL v1 v3 v4 v5 v7 v6 g2 i a u) (k : Kept Nil u u') : tgW F2 ZL v1 v3 v4 v5 v7 v6 g2 i a u' := ⟨tgR_next h.out k⟩
theorem tgW.st {v1 v3 v4 v5 v7 v6 : Value} {g2 i : Nat} (h : tgW F2 ZL v1 v3 v4 v5 v7 v6 g2 i a u) (hi : i ≠ 14) : tgW F2 ZL v1 v3 v4 v5 v7 v6 g2 i a u' := ⟨tgR_st h.out hi⟩
theorem eval_same (a : Act) (d : Nat) (v : Value) (h : d < a.tmps.size) : (a.put (some d) v).eval (.tmp d) = v := by
  simp only [Act.put, Act.eval, Array.getD_eq_getD_getElem?, Array.getElem?_setIfInBounds_self]
  rw [if_pos h]
  rfl
end
section exec
variable {P : Program} {o : Oper} {a : Act} {u : World}
theorem exec_ldR (ty : TypeId) (p : Operand) (ho : o.op = .load ty p) {g f : Nat} (hp : a.eval p = .pointer (some ⟨g, f, none⟩)) (l : List Value) (hl : Row u g f l) (d : TypeDesc) (hu : P.underlying ty = some d) (hd : aggB d = true) (hi : (P.info? ty).map (·.size) = some l.length) :
    (execOp a.eval o).run P u = .ok (.value (.agg l.toArray)) u := by
  unfold execOp
  simp only [ho, hp, Instr.loadAt, Instr.sureAddr, Sem.run_bind, Sem.run_pure, Result.andThen_ok, run_loadRow hl hu hd hi]
theorem exec_mv (x : Operand) (ho : o.op = .move x) {v : Value} (hx : a.eval x = v) : (execOp a.eval o).run P u = .ok (.value v) u := by
  unfold execOp
  simp only [ho, hx, Sem.run_pure]
theorem exec_as (x : Operand) (ho : o.op = .assign x) {v : Value} (hx : a.eval x = v) : (execOp a.eval o).run P u = .ok (.value v) u := by
  unfold execOp
  simp only [ho, hx, Sem.run_pure]
theorem exec_ex (x : Operand) (i : Nat) (ho : o.op = .extract x i) {v r : Value} (hx : a.eval x = v) (hr : (Instr.extract v i).run P u = .ok r u) : (execOp a.eval o).run P u = .ok (.value r) u := by
  unfold execOp
  simp only [ho, hx, Sem.run_bind, hr, Result.andThen_ok, Sem.run_pure]
theorem ev_simp {a : Act} {t : Nat} {v : Value} (h : a.eval (.tmp t) = v) : a.tmps[t]?.getD undef = v := by
  rw [← Array.getD_eq_getD_getElem?]
  exact h
theorem exec_lo (t : TypeId) (x h : Operand) (ho : o.op = .slice t x (some h) none none) {A B : Option Addr} {n c m n' c' : Nat} {e : TypeId} (ht : P.underlying t = some (.slice e)) (hx : a.eval x = .slice A n c) (hh : a.eval h = .int .i64 (m : Int)) (hr : (Instr.slice t (.slice A n c) (some (.int .i64 (m : Int))) none none).run P u = .ok (.slice B n' c') u) : (execOp a.eval o).run P u = .ok (.value (.slice B n' c')) u := by
  unfold execOp
  simp only [ho, hx, hh, Option.map_none, Option.map_some, Instr.sliceAt, Sem.run_bind, run_underlying ht, Result.andThen_ok, hr, Sem.run_pure]
end exec
theorem fa_d (g : Nat) (u : World) : (Instr.fieldAt 28 (pAt g 0) 0).run Try.prog u = .ok (pAt g 0) u := by kernel_rfl
theorem fa_s (g : Nat) (u : World) : (Instr.fieldAt 28 (pAt g 0) 1).run Try.prog u = .ok (pAt g 6) u := by kernel_rfl
theorem ex_0 (a b : Value) (u : World) : (Instr.extract (.tuple #[a, b]) 0).run Try.prog u = .ok a u := by kernel_rfl
theorem ex_1 (a b : Value) (u : World) : (Instr.extract (.tuple #[a, b]) 1).run Try.prog u = .ok b u := by kernel_rfl
theorem FrIn.ones {w : World} {f : Fr} {vt vb vr : Value} (h : FrIn w f vt vb vr) : ∀ u ∈ fcs f vt vb vr, u.oneCell' = true := by
  obtain ⟨_, ⟨A, n, c, rfl, _⟩, ⟨A1, n1, c1, rfl, _⟩, ⟨A2, n2, c2, rfl, _⟩, _⟩ := h
  exact fcs_one rfl rfl rfl
theorem FrIn.over {u w' : World} {f : Fr} {vt vb vr : Value} {g : Nat} (h : FrIn u f vt vb vr) (k : Kept (One g) u w') (hg : u.heap.size ≤ g) : FrIn w' f vt vb vr := by
  obtain ⟨h0, ⟨A, n, c, rfl, ht⟩, ⟨A1, n1, c1, rfl, hb⟩, ⟨A2, n2, c2, rfl, hr⟩, l1, l2, l3⟩ := h
  exact ⟨h0, ⟨_, _, _, rfl, ht.kept k (fun i hi hf => by have := ht.lt i hi; cases hf; omega)⟩, ⟨_, _, _, rfl, hb.kept k (fun i hi hf => by have := hb.lt i hi; cases hf; omega)⟩, ⟨_, _, _, rfl, hr.kept k (fun i hi hf => by have := hr.lt i hi; cases hf; omega)⟩, l1, l2, l3⟩
section
variable {w7 : World} {F2 : Fr} {ZL : Nat} {zz : List UInt8} {a0 a : Act} {u u' : World}
theorem tgI.with122 (h : tgI w7 F2 ZL zz a0 a u) (k : Kept Nil u u') (hs : 122 < a.tmps.size) (A : Option Addr) (c : Nat) (hy : Byt u' A ZL c zz) (hl : ∀ i, Lies A ZL i → u.heap.size ≤ i) : tgI w7 F2 ZL zz a0 (a.put (some 122) (.slice A ZL c)) u' := by
  have h' := h.next k
  refine ⟨(put_size _ _ _).trans h.size, h.defs, fun d hd => ?_, h'.kept, fun g f' e => h'.al g f' (by rwa [eval_put _ _ _ _ (by decide)] at e), fun A' n' c' e => ?_, fun pt pb pr e => ?_⟩
  · have hne : 122 ≠ d := fun e => hd (e ▸ (by decide))
    exact (eval_put a 122 _ d hne).trans (h.fr d hd)
  · rw [eval_same _ _ _ hs] at e
    cases e
    refine ⟨rfl, hy, fun g f' eg i hi hig => ?_⟩
    rw [eval_put _ _ _ _ (by decide)] at eg
    have := (h.al g f' eg).2.1
    have := hl i hi
    omega
  · rw [eval_put _ _ _ _ (by decide)] at e
    obtain ⟨e1, e2⟩ := h'.fr9 pt pb pr e
    exact ⟨e1, fun g f' eg => e2 g f' (by rwa [eval_put _ _ _ _ (by decide)] at eg)⟩
theorem far_new {v : Value} {l : List UInt8} {g : Nat} (h : NewB u u' v l) (hg : g < u.heap.size) : Far g v := by
  obtain ⟨A, n, c, rfl, _, hl⟩ := h
  intro A' n' c' e i hi hig
  cases e
  have := hl i hi
  omega
theorem far_newT {v : Value} {l : List Tg} {g : Nat} (h : NewT u u' v l) (hg : g < u.heap.size) : Far g v := by
  obtain ⟨A, n, c, rfl, _, hl⟩ := h
  intro A' n' c' e i hi hig
  cases e
  have := hl i hi
  omega
theorem tgI.get123 (h : tgI w7 F2 ZL zz a0 a u) (k : Kept Nil u u') (hs : 123 < a.tmps.size) (pt pb pr : Value) (hn : NewF u u' F2 pt pb pr) (hf : FrIn u' F2 pt pb pr) : tgI w7 F2 ZL zz a0 (a.put (some 123) (.tuple #[frv F2 pt pb pr, .int .i64 0])) u' := by
  have h' := h.next k
  refine ⟨(put_size _ _ _).trans h.size, h.defs, fun d hd => ?_, h'.kept, fun g f' e => h'.al g f' (by rwa [eval_put _ _ _ _ (by decide)] at e), fun A' n' c' e => ?_, fun pt' pb' pr' e => ?_⟩
  · have hne : 123 ≠ d := fun e => hd (e ▸ (by decide))
    exact (eval_put a 123 _ d hne).trans (h.fr d hd)
  · rw [eval_put _ _ _ _ (by decide)] at e
    obtain ⟨e1, e2, e3⟩ := h'.by8 A' n' c' e
    exact ⟨e1, e2, fun g f' eg => e3 g f' (by rwa [eval_put _ _ _ _ (by decide)] at eg)⟩
  · rw [eval_same _ _ _ hs] at e
    injection e with e
    injection e with e
    injection e with e _
    obtain ⟨rfl, rfl, rfl⟩ := frv_inj e
    refine ⟨hf, fun g f' eg => ?_⟩
    rw [eval_put _ _ _ _ (by decide)] at eg
    have hg := (h.al g f' eg).2.1
    exact ⟨far_newT hn.t hg, far_new hn.b hg, far_new hn.r hg⟩
theorem far_ltT {v : Value} {l : List Tg} (h : ∃ A n c, v = .slice A n c ∧ Tags u A n c l) : Far u.heap.size v := by
  obtain ⟨A, n, c, rfl, ht⟩ := h
  intro A' n' c' e i hi hig
  cases e
  have := ht.lt i hi
  omega
theorem far_lt {v : Value} {l : List UInt8} (h : ∃ A n c, v = .slice A n c ∧ Byt u A n c l) : Far u.heap.size v := by
  obtain ⟨A, n, c, rfl, ht⟩ := h
  intro A' n' c' e i hi hig
  cases e
  have := ht.lt i hi
  omega
theorem tgI.alloc11 (h : tgI w7 F2 ZL zz a0 a u) (hs : 11 < a.tmps.size) : tgI w7 F2 ZL zz a0 (a.put (some 11) (pAt u.heap.size 0)) (u.alloc (.cells (fcs Fr.zero nilv nilv nilv).toArray 28)) := by
  have k := (Kept.refl Nil u).alloc (.cells (fcs Fr.zero nilv nilv nilv).toArray 28)
  have h' := h.next k
  refine ⟨(put_size _ _ _).trans h.size, h.defs, fun d hd => ?_, h'.kept, fun g f' e => ?_, fun A' n' c' e => ?_, fun pt' pb' pr' e => ?_⟩
  · have hne : 11 ≠ d := fun e => hd (e ▸ (by decide))
    exact (eval_put a 11 _ d hne).trans (h.fr d hd)
  · rw [eval_same _ _ _ hs] at e
    unfold pAt at e
    cases e
    exact ⟨h.kept.size, by simp, _, _, _, _, Fr.zero_six, FB.new _ _ _ _ _ _⟩
  · rw [eval_put _ _ _ _ (by decide)] at e
    obtain ⟨e1, e2, e3⟩ := h.by8 A' n' c' e
    refine ⟨e1, e2.kept k (fun _ _ hf => hf), fun g f' eg i hi hig => ?_⟩
    rw [eval_same _ _ _ hs] at eg
    unfold pAt at eg
    cases eg
    have := e2.lt i hi
    omega
  · rw [eval_put _ _ _ _ (by decide)] at e
    obtain ⟨e1, e2⟩ := h.fr9 pt' pb' pr' e
    refine ⟨e1.kept k, fun g f' eg => ?_⟩
    rw [eval_same _ _ _ hs] at eg
    unfold pAt at eg
    cases eg
    exact ⟨far_ltT e1.t, far_lt e1.b, far_lt e1.r⟩
theorem tgI.store14 (h : tgI w7 F2 ZL zz a0 a u) {g : Nat} (k : Kept (One g) u u') (hz : u'.heap.size = u.heap.size) (e11 : a.eval (.tmp 11) = pAt g 0) (h6 : F2.six) (pt pb pr : Value) (hfb : FB u' g 28 F2 pt pb pr) : tgI w7 F2 ZL zz a0 a u' := by
  obtain ⟨hg1, hg2, _⟩ := h.al g 0 e11
  refine ⟨h.size, h.defs, h.fr, h.kept.fresh k (fun i hi => by cases hi; exact hg1), fun g' f' e => ?_, fun A' n' c' e => ?_, fun pt' pb' pr' e => ?_⟩
  · rw [e11] at e
    unfold pAt at e
    cases e
    exact ⟨hg1, by rw [hz]; exact hg2, _, _, _, _, h6, hfb⟩
  · obtain ⟨e1, e2, e3⟩ := h.by8 A' n' c' e
    exact ⟨e1, e2.kept k (fun i hi hf => e3 g 0 e11 i hi hf), e3⟩
  · obtain ⟨e1, e2⟩ := h.fr9 pt' pb' pr' e
    obtain ⟨f1, f2, f3⟩ := e2 g 0 e11
    obtain ⟨h0, ⟨A, n, c, rfl, ht⟩, ⟨A1, n1, c1, rfl, hb⟩, ⟨A2, n2, c2, rfl, hr⟩, l1, l2, l3⟩ := e1
    exact ⟨⟨h0, ⟨_, _, _, rfl, ht.kept k (fun i hi hf => f1 _ _ _ rfl i hi hf)⟩, ⟨_, _, _, rfl, hb.kept k (fun i hi hf => f2 _ _ _ rfl i hi hf)⟩, ⟨_, _, _, rfl, hr.kept k (fun i hi hf => f3 _ _ _ rfl i hi hf)⟩, l1, l2, l3⟩, e2⟩
end
/-- A step that leaves the world as it is. -/
theorem stepA_pure {P : Program} {o : Oper} {a : Act} {u : World} {I : Act → World → Prop} {R : Nat → Act → World → Prop} {U : Nat → World → Prop} {Q : Exit → Act → World → Prop} {i : Nat} (v : Value) (h : (execOp a.eval o).run P u = .ok (.value v) u) (hI : I (a.put o.dst v) u) (hR : R i (a.put o.dst v) u) :
    o.wp P a u (fun a' w' => ∃ v, a' = a.put o.dst v ∧ I a' w' ∧ R i a' w' ∧ (∀ j, j ≠ i → R j a u → R j a w') ∧ ∀ j, j ≠ i → U j u → U j w') Q := by
  unfold Oper.wp
  rw [h]
  exact ⟨v, rfl, hI, hR, fun _ _ h => h, fun _ _ h => h⟩
/-- A step that calls. -/
theorem stepA_call {P : Program} {o : Oper} {a : Act} {u : World} {I : Act → World → Prop} {R : Nat → Act → World → Prop} {U : Nat → World → Prop} {Q : Exit → Act → World → Prop} {i : Nat} (f : FuncId) (avs : Array Value) (h : (execOp a.eval o).run P u = .ok (.enter f avs) u)
    (hc : Calls P f avs u fun e w' => ∃ v, e = .returned v ∧ I (a.put o.dst v) w' ∧ R i (a.put o.dst v) w' ∧ (∀ j, j ≠ i → R j a u → R j a w') ∧ ∀ j, j ≠ i → U j u → U j w') :
    o.wp P a u (fun a' w' => ∃ v, a' = a.put o.dst v ∧ I a' w' ∧ R i a' w' ∧ (∀ j, j ≠ i → R j a u → R j a w') ∧ ∀ j, j ≠ i → U j u → U j w') Q := by
  unfold Oper.wp
  rw [h]
  refine hc.mono ?_
  rintro e w' ⟨v, rfl, h1, h2, h3, h4⟩
  exact ⟨v, rfl, h1, h2, h3, h4⟩
theorem stepA_st {P : Program} {o : Oper} {a : Act} {u : World} {I : Act → World → Prop} {R : Nat → Act → World → Prop} {U : Nat → World → Prop} {Q : Exit → Act → World → Prop} {i : Nat} (ty : TypeId) (p x : Operand) (ho : o.op = .store ty p x) (hd : o.dst = none) {g f : Nat} (hp : a.eval p = .pointer (some ⟨g, f, none⟩)) (l : List Value) {v : Value} (hx : a.eval x = v) (hvc : v.cells = l.toArray) (hi : (P.info? ty).map (·.size) = some l.length) {T : TypeId} {cs : List Value} (hb : Blo u g T cs.toArray) (hf : f + l.length ≤ cs.length) (h1 : ∀ u ∈ l, u.oneCell' = true)
    (h : ∀ u', Blo u' g T (cs.take f ++ l ++ cs.drop (f + l.length)).toArray → Kept (One g) u u' → u'.heap.size = u.heap.size → I a u' ∧ R i a u' ∧ (∀ j, j ≠ i → R j a u → R j a u') ∧ ∀ j, j ≠ i → U j u → U j u') :
    o.wp P a u (fun a' w' => ∃ v, a' = a.put o.dst v ∧ I a' w' ∧ R i a' w' ∧ (∀ j, j ≠ i → R j a u → R j a w') ∧ ∀ j, j ≠ i → U j u → U j w') Q := by
  obtain ⟨u', hr, hbl, hk, hz⟩ := exec_st (P := P) ty p x ho hp l hx hvc hi hb hf h1
  obtain ⟨h1, h2, h3, h4⟩ := h u' hbl hk hz
  unfold Oper.wp
  rw [hr]
  exact ⟨undef, rfl, by rw [hd]; exact h1, by rw [hd]; exact h2, h3, h4⟩
end Go.Proofs.Ytddpdopccejmbaa
