/- tolllaw11's acts as plain data, read off an argument; a region in free order that calls Has beside a load. -/
import Derived.Test.YtiehmpiaddjhiaaDoorMg30
import Derived.Test.YtiehmpiaddjhiaaDoorMg31
namespace Go.Proofs.YtiehmpiaddjhiaaDoor
open Go.RowKit Go.ChangeShapes Go.WideShapes Go.Sort
set_option linter.unusedVariables false

structure BaD where
  what : Int
  now : Int
  n : Nat
structure BaOk (t : BaD) : Prop where
  w0 : -9223372036854775808 ≤ t.what
  w1 : t.what ≤ 9223372036854775807
  n0 : -9223372036854775808 ≤ t.now
  n1 : t.now ≤ 9223372036854775807
  nn : t.n < 18446744073709551616
def BActs (w : World) (A : Option Addr) (n c : Nat) (ts : List BaD) : Prop :=
  ts.length = n ∧ n ≤ c ∧ c ≤ 9223372036854775807 ∧ (∀ t ∈ ts, BaOk t) ∧ (0 < n → ∃ b o, A = some ⟨b, o, none⟩ ∧ ∀ i (h : i < ts.length),
    w.cell? ⟨b, o + i * 3, none⟩ = some (.int .i64 ts[i].what) ∧ w.cell? ⟨b, o + i * 3 + 1, none⟩ = some (.int .i64 ts[i].now) ∧ w.cell? ⟨b, o + i * 3 + 2, none⟩ = some (.int .u64 (ts[i].n : Int)))
theorem BActs.kept {w w' : World} {A : Option Addr} {n c : Nat} {ts : List BaD} (h : BActs w A n c ts) (q : Kept Nil w w') : BActs w' A n c ts := by
  refine ⟨h.1, h.2.1, h.2.2.1, h.2.2.2.1, fun hn => ?_⟩
  obtain ⟨b, o, rfl, hc⟩ := h.2.2.2.2 hn
  exact ⟨b, o, rfl, fun i hi => ⟨q.cell (hc i hi).1 (fun hf => hf), q.cell (hc i hi).2.1 (fun hf => hf), q.cell (hc i hi).2.2 (fun hf => hf)⟩⟩
theorem i64_of (n : Int) (h : (Lit.int .i64 n).wf = true) : -9223372036854775808 ≤ n ∧ n ≤ 9223372036854775807 := by
  simp [Lit.wf, IntKind.min, IntKind.max, IntKind.signed, IntKind.bits] at h
  omega
section
variable {H : Type} {enc : TypeId × Value → H} {w : World} {base : Nat} {spare : Nat → Bool} {held : Bool} {fuel : Nat} {x : DataW H × List MemPlace}
theorem rd_bacts {v : Value} (h : DataW.trod enc Tryd.prog w base spare held fuel 23 [v] = some x) : ∃ A n c ts, v = .slice A n c ∧ BActs w A n c ts := by
  obtain ⟨A, n, c, rfl, h1, h2, h3⟩ := rd_rows 3 (by omega) Tryd.underlying23 (by kernel_rfl) h
  rcases Nat.eq_zero_or_pos n with h0 | h0
  · subst h0
    exact ⟨A, 0, c, [], rfl, rfl, h1, h2, by simp, fun h => absurd h (by omega)⟩
  · obtain ⟨b, o, rfl, hel⟩ := h3 h0
    have each : ∀ i, i < n → ∃ t : BaD, BaOk t ∧ w.cell? ⟨b, o + i * 3, none⟩ = some (.int .i64 t.what) ∧ w.cell? ⟨b, o + i * 3 + 1, none⟩ = some (.int .i64 t.now) ∧ w.cell? ⟨b, o + i * 3 + 2, none⟩ = some (.int .u64 (t.n : Int)) := by
      intro i hi
      obtain ⟨cs, y, fl, hl, hcell, htr⟩ := hel i hi
      match cs, hl with
      | [c0, c1, c2], _ =>
        have q0 := hcell 0 (by simp)
        have q1 := hcell 1 (by simp)
        have q2 := hcell 2 (by simp)
        rw [Nat.add_zero] at q0
        obtain ⟨n0, y0, t0⟩ := rd_field Tryd.underlying32 htr 0 _ rfl [c0] (by kernel_rfl)
        obtain ⟨n1, y1, t1⟩ := rd_field Tryd.underlying32 htr 1 _ rfl [c1] (by kernel_rfl)
        obtain ⟨n2, y2, t2⟩ := rd_field Tryd.underlying32 htr 2 _ rfl [c2] (by kernel_rfl)
        obtain ⟨z0, e0, _, v0⟩ := DataW.trod_int Tryd.underlying3 t0
        obtain ⟨z1, e1, _, v1⟩ := DataW.trod_int Tryd.underlying2 t1
        obtain ⟨z2, e2, _, v2⟩ := DataW.trod_int Tryd.underlying22 t2
        obtain rfl := (List.cons.inj e0).1
        obtain rfl := (List.cons.inj e1).1
        obtain rfl := (List.cons.inj e2).1
        obtain ⟨b0, b0'⟩ := i64_of z0 v0
        obtain ⟨b1, b1'⟩ := i64_of z1 v1
        obtain ⟨k2, b2, rfl⟩ := w64_of z2 v2
        exact ⟨⟨z0, z1, k2⟩, ⟨b0, b0', b1, b1', b2⟩, q0, q1, q2⟩
    obtain ⟨ts, hl, hp⟩ := pick n _ each
    refine ⟨some ⟨b, o, none⟩, n, c, ts, rfl, hl, h1, h2, fun t ht => ?_, fun _ => ⟨b, o, rfl, fun i hi => (hp i hi).2⟩⟩
    obtain ⟨i, hi, rfl⟩ := List.getElem_of_mem ht
    exact (hp i hi).1
end
/-- Both buckets, side by side. -/
structure BuW (w0 w : World) (g7 g8 : Nat) (m : Bk) : Prop where
  ok : m.ok
  p : KB w g7 m
  q : KR w g8 m
  ne : g7 ≠ g8
  ge7 : w0.heap.size ≤ g7
  ge8 : w0.heap.size ≤ g8
  kept : Kept Nil w0 w
theorem BuW.next {w0 w w' : World} {g7 g8 : Nat} {m : Bk} (h : BuW w0 w g7 g8 m) (k : Kept Nil w w') : BuW w0 w' g7 g8 m := ⟨h.ok, h.p.kept k (fun hf => hf), h.q.kept k (fun hf => hf), h.ne, h.ge7, h.ge8, h.kept.then k⟩
theorem tkM_ok {m : Bk} (hm : m.ok) (now : Int) (hn : -9223372036854775808 ≤ now ∧ now ≤ 9223372036854775807) (n s : Nat) (hs : ¬ (brM m now).l < clF n → (brM m now).l ≠ INFB → s ≤ (brM m now).l) : (tkM m now n s).ok := by
  have hc := brM_cl hm now hn
  unfold tkM
  split
  · exact hc.ok
  · rename_i h1
    split
    · exact hc.ok
    · rename_i h2
      exact Bk.cl.ok ⟨hc.r, hc.b, Nat.le_trans (hs h1 h2) hc.l, hc.a⟩
theorem sub_ex {m : Bk} (hm : m.ok) (now : Int) (hn : -9223372036854775808 ≤ now ∧ now ≤ 9223372036854775807) (n : Nat) : ∃ s, (¬ (brM m now).l < clF n → (brM m now).l ≠ INFB → Ieee.double.sub (brM m now).l (clF n) = some s) ∧ (¬ (brM m now).l < clF n → (brM m now).l ≠ INFB → s ≤ (brM m now).l) := by
  have hc := brM_cl hm now hn
  have hlI := Nat.le_trans hc.l hc.b
  by_cases h1 : ¬ (brM m now).l < clF n ∧ (brM m now).l ≠ INFB
  · obtain ⟨s, h2, h3, _⟩ := sub_fin (brM m now).l (clF n) (Nat.lt_of_le_of_ne hlI h1.2) (Nat.not_lt.1 h1.1)
    exact ⟨s, fun _ _ => h2, fun _ _ => h3⟩
  · exact ⟨0, fun h2 h3 => absurd ⟨h2, h3⟩ h1, fun h2 h3 => absurd ⟨h2, h3⟩ h1⟩
/-- What region 17 keeps up. -/
structure hsI (w0 : World) (g7 : Nat) (a0 a : Act) (u : World) : Prop where
  size : a.tmps.size = a0.tmps.size
  defs : a.defers = a0.defers
  fr : ∀ d, d ∉ [68, 69, 70, 71, 72, 73, 12] → a.eval (.tmp d) = a0.eval (.tmp d)
  kept : Kept (One g7) w0 u
section
variable {w0 : World} {g7 : Nat} {a0 a : Act} {u u' : World}
theorem hsI.start (hk : Kept Nil w0 u) : hsI w0 g7 a0 a0 u := ⟨rfl, rfl, fun _ _ => rfl, hk.nil⟩
theorem hsI.put (h : hsI w0 g7 a0 a u) (d : Nat) (v : Value) (hd : d ∈ [68, 69, 70, 71, 72, 73, 12]) : hsI w0 g7 a0 (a.put (some d) v) u := by
  refine ⟨(put_size _ _ _).trans h.size, h.defs, fun k hk => ?_, h.kept⟩
  have hne : d ≠ k := fun e => hk (e ▸ hd)
  rw [eval_put _ _ _ _ hne]
  exact h.fr k hk
theorem hsI.next (h : hsI w0 g7 a0 a u) (k : Kept (One g7) u u') : hsI w0 g7 a0 a u' := ⟨h.size, h.defs, h.fr, h.kept.trans k (fun _ _ hf => hf)⟩
end
/-- What is so until Has has been called. -/
def hsU (g7 : Nat) (m : Bk) (j : Nat) (_ : Act) (u : World) : Prop := j = 2 → KB u g7 m
/-- What each operation of it leaves. -/
def hsR (ga g7 g8 : Nat) (now : Int) (m2 : Bk) (i : Nat) (a : Act) (u : World) : Prop := match i with
  | 0 => a.eval (.tmp 68) = pAt ga 1
  | 1 => a.eval (.tmp 69) = .int .i64 now
  | 2 => a.eval (.tmp 70) = .float .f64 m2.l ∧ KB u g7 m2
  | 3 => a.eval (.tmp 71) = pAt g8 2
  | 4 => a.eval (.tmp 72) = .float .f64 m2.l
  | 5 => a.eval (.tmp 73) = .bool true
  | 6 => a.eval (.tmp 12) = .bool true
  | _ => True
structure hsW (ga g7 g8 : Nat) (now : Int) (m2 : Bk) (i : Nat) (a : Act) (u : World) : Prop where
  out : hsR ga g7 g8 now m2 i a u
theorem hsW.next {ga g7 g8 : Nat} {now : Int} {m2 : Bk} {i : Nat} {a : Act} {u u' : World} {F : Nat → Prop} (h : hsW ga g7 g8 now m2 i a u) (k : Kept F u u') (hf : i = 2 → ¬ F g7) : hsW ga g7 g8 now m2 i a u' := by
  obtain ⟨h⟩ := h
  refine ⟨?_⟩
  unfold hsR at h ⊢
  split at h <;> first | exact h | exact ⟨h.1, h.2.kept k (hf rfl)⟩
section
variable {P : Program} {o : Oper} {a : Act} {u : World} {I : Act → World → Prop} {Q : Exit → Act → World → Prop} {i : Nat} {ga g7 g8 : Nat} {now : Int} {m m2 : Bk}
theorem stepH_pure (v : Value) (h : (execOp a.eval o).run P u = .ok (.value v) u) (hI : I (a.put o.dst v) u) (hR : hsW ga g7 g8 now m2 i (a.put o.dst v) u) :
    o.wp P a u (fun a' w' => ∃ v, a' = a.put o.dst v ∧ I a' w' ∧ hsW ga g7 g8 now m2 i a' w' ∧ (∀ j, j ≠ i → hsW ga g7 g8 now m2 j a u → hsW ga g7 g8 now m2 j a w') ∧ ∀ j, j ≠ i → hsU g7 m j a u → hsU g7 m j a' w') Q := by
  unfold Oper.wp
  rw [h]
  exact ⟨v, rfl, hI, hR, fun _ _ h => h, fun _ _ h => h⟩
theorem stepH_call (f : FuncId) (avs : Array Value) (h : (execOp a.eval o).run P u = .ok (.enter f avs) u)
    (hc : Calls P f avs u fun e w' => ∃ v, e = .returned v ∧ I (a.put o.dst v) w' ∧ hsW ga g7 g8 now m2 i (a.put o.dst v) w' ∧ (∀ j, j ≠ i → hsW ga g7 g8 now m2 j a u → hsW ga g7 g8 now m2 j a w') ∧ ∀ j, j ≠ i → hsU g7 m j a u → hsU g7 m j a w') :
    o.wp P a u (fun a' w' => ∃ v, a' = a.put o.dst v ∧ I a' w' ∧ hsW ga g7 g8 now m2 i a' w' ∧ (∀ j, j ≠ i → hsW ga g7 g8 now m2 j a u → hsW ga g7 g8 now m2 j a w') ∧ ∀ j, j ≠ i → hsU g7 m j a u → hsU g7 m j a' w') Q := by
  unfold Oper.wp
  rw [h]
  refine hc.mono ?_
  rintro e w' ⟨v, rfl, h1, h2, h3, h4⟩
  exact ⟨v, rfl, h1, h2, h3, h4⟩
end
theorem exec_ldF {P : Program} {o : Oper} {a : Act} {u : World} (ty : TypeId) (p : Operand) (ho : o.op = .load ty p) {g f : Nat} {v : Value} (hp : a.eval p = .pointer (some ⟨g, f, none⟩)) (hc : u.cell? ⟨g, f, none⟩ = some v) {k : FloatKind} (hu : P.underlying ty = some (.float k)) :
    (execOp a.eval o).run P u = .ok (.value v) u := by
  have hl : (loadVar ty ⟨g, f, none⟩).run P u = .ok v u := by simp [loadVar, isAgg, run_underlying hu, hc, go_sem]
  unfold execOp
  simp only [ho, hp, Instr.loadAt, Instr.sureAddr, Sem.run_bind, Sem.run_pure, Result.andThen_ok, hl]
theorem fa_a1 (g : Nat) (u : World) : (Instr.fieldAt 32 (pAt g 0) 1).run Tryd.prog u = .ok (pAt g 1) u := by kernel_rfl
theorem fa_r2 (g : Nat) (u : World) : (Instr.fieldAt 29 (pAt g 0) 2).run Tryd.prog u = .ok (pAt g 2) u := by kernel_rfl
end Go.Proofs.YtiehmpiaddjhiaaDoor
