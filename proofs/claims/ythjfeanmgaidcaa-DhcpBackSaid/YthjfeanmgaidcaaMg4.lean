/- Texts that belong together, one behind the other: NewB, Rec. Conditions: those of each. -/
import Derived.Test.YthjfeanmgaidcaaMg0
import Derived.Test.YthjfeanmgaidcaaMg3
/- Bytes that stand in new memory; how many are looked at. -/
namespace Go.Proofs.Ythjfeanmgaidcaa
open Go.RowKit
set_option linter.unusedVariables false

/-- Bytes that stand in new memory. -/
def NewB (w w' : World) (A : Option Addr) (n c : Nat) (l : List UInt8) : Prop := Byt w' A n c l ∧ ∀ i, Lies A n i → w.heap.size ≤ i
theorem newB_none (w w' : World) : NewB w w' none 0 0 [] := ⟨Byt.none _, fun i hi => absurd hi.1 (by omega)⟩
theorem NewB.kept {w w1 w2 : World} {A : Option Addr} {n c : Nat} {l : List UInt8} {F : Nat → Prop} (h : NewB w w1 A n c l) (k : Kept F w1 w2) (hF : ∀ i, w.heap.size ≤ i → ¬ F i) : NewB w w2 A n c l := ⟨h.1.kept k (fun i hi => hF i (h.2 i hi)), h.2⟩
theorem NewB.older {w0 w w' : World} {A : Option Addr} {n c : Nat} {l : List UInt8} (h : NewB w w' A n c l) (hs : w0.heap.size ≤ w.heap.size) : NewB w0 w' A n c l := ⟨h.1, fun i hi => Nat.le_trans hs (h.2 i hi)⟩
theorem NewB.of_own {w0 w : World} {B e n : Nat} {v : Value} {l : List UInt8} (h : w.ownsRow B e 1 v n (bys l)) (hB : w0.heap.size ≤ B) : ∃ A c, v = .slice A n c ∧ NewB w0 w A n c l := by
  obtain ⟨A, c, rfl, hb, hl⟩ := Byt.of_own h
  exact ⟨A, c, rfl, hb, fun i hi => Nat.le_trans hB (hl i hi)⟩
theorem min60 (n : Nat) : ∃ m : Nat, (if (60 : Int) < (n : Int) then (60 : Int) else (n : Int)) = (m : Int) ∧ min (n : Int) 60 = (m : Int) ∧ m ≤ n ∧ m ≤ 60 ∧ m = min 60 n := ⟨min 60 n, by split <;> omega, by omega, by omega, by omega, rfl⟩
theorem min40 (n : Nat) : ∃ m : Nat, (if (40 : Int) < (n : Int) then (40 : Int) else (n : Int)) = (m : Int) ∧ min (n : Int) 40 = (m : Int) ∧ m ≤ n ∧ m ≤ 40 ∧ m = min 40 n := ⟨min 40 n, by split <;> omega, by omega, by omega, by omega, rfl⟩
theorem min8 (n : Nat) : ∃ m : Nat, (if (8 : Int) < (n : Int) then (8 : Int) else (n : Int)) = (m : Int) ∧ min (n : Int) 8 = (m : Int) ∧ m ≤ n ∧ m ≤ 8 ∧ m = min 8 n := ⟨min 8 n, by split <;> omega, by omega, by omega, by omega, rfl⟩
theorem min200 (n : Nat) : ∃ m : Nat, (if (200 : Int) < (n : Int) then (200 : Int) else (n : Int)) = (m : Int) ∧ min (n : Int) 200 = (m : Int) ∧ m ≤ n ∧ m ≤ 200 ∧ m = min 200 n := ⟨min 200 n, by split <;> omega, by omega, by omega, by omega, rfl⟩
end Go.Proofs.Ythjfeanmgaidcaa
/- Slices whose elements take several cells each: one word for all of them. Nothing of the program is named here. -/
namespace Go.Proofs.Ythjfeanmgaidcaa
open Go.RowKit
set_option linter.unusedVariables false

/-- A slice of elements of s cells each reads as the rows rs. -/
def Rws (s : Nat) (w : World) (A : Option Addr) (n c : Nat) (rs : List (List Value)) : Prop :=
  rs.length = n ∧ n ≤ c ∧ c ≤ 9223372036854775807 ∧ (∀ r ∈ rs, r.length = s) ∧ (0 < n → ∃ b o, A = some ⟨b, o, none⟩ ∧ ∀ i (h : i < rs.length) j (hj : j < rs[i].length), w.cell? ⟨b, o + i * s + j, none⟩ = some rs[i][j])

theorem flat_len {s : Nat} {rs : List (List Value)} (h : ∀ r ∈ rs, r.length = s) : rs.flatten.length = rs.length * s := by
  induction rs with
  | nil => simp
  | cons r rs ih =>
    simp only [List.flatten_cons, List.length_append, List.length_cons]
    rw [h r (by simp), ih (fun r hr => h r (by simp [hr])), Nat.add_mul]
    omega
theorem flat_get {s : Nat} {rs : List (List Value)} (h : ∀ r ∈ rs, r.length = s) {i : Nat} (hi : i < rs.length) {j : Nat} (hj : j < rs[i].length) : rs.flatten[i * s + j]? = some rs[i][j] := by
  induction rs generalizing i with
  | nil => simp at hi
  | cons r rs ih =>
    have hr : r.length = s := h r (by simp)
    simp only [List.flatten_cons]
    cases i with
    | zero =>
      simp only [List.getElem_cons_zero] at hj ⊢
      rw [Nat.zero_mul, Nat.zero_add, List.getElem?_append_left hj, List.getElem?_eq_getElem hj]
    | succ i =>
      simp only [List.getElem_cons_succ] at hj ⊢
      rw [List.getElem?_append_right (by rw [hr, Nat.succ_mul]; omega), hr, show (i + 1) * s + j - s = i * s + j by rw [Nat.succ_mul]; omega]
      exact ih (fun r hr => h r (by simp [hr])) (by simpa using hi) hj
theorem flat_split {s : Nat} (hs : 0 < s) {rs : List (List Value)} (h : ∀ r ∈ rs, r.length = s) {q : Nat} {u : Value} (hq : rs.flatten[q]? = some u) : ∃ (i : Nat) (hi : i < rs.length) (j : Nat) (hj : j < rs[i].length), q = i * s + j ∧ u = rs[i][j] := by
  have hlt : q < rs.length * s := by rw [← flat_len h]; exact (List.getElem?_eq_some_iff.1 hq).1
  have hi : q / s < rs.length := (Nat.div_lt_iff_lt_mul hs).2 hlt
  have hj : q % s < rs[q / s].length := by rw [h _ (List.getElem_mem hi)]; exact Nat.mod_lt _ hs
  refine ⟨q / s, hi, q % s, hj, (by rw [Nat.mul_comm]; exact (Nat.div_add_mod q s).symm), ?_⟩
  have := flat_get h hi hj
  rw [show q / s * s + q % s = q by rw [Nat.mul_comm]; exact Nat.div_add_mod q s, hq] at this
  injection this

section
variable {s : Nat} {w w' : World} {A : Option Addr} {n c : Nat} {rs : List (List Value)}
theorem Rws.kept {F : Nat → Prop} (h : Rws s w A n c rs) (k : Kept F w w') (hF : ∀ i, Lies A n i → ¬ F i) : Rws s w' A n c rs := by
  refine ⟨h.1, h.2.1, h.2.2.1, h.2.2.2.1, fun hn => ?_⟩
  obtain ⟨b, o, rfl, hc⟩ := h.2.2.2.2 hn
  exact ⟨b, o, rfl, fun i hi j hj => k.cell (hc i hi j hj) (hF b ⟨hn, _, rfl, rfl⟩)⟩
theorem Rws.heap (h : Rws s w A n c rs) (e : w'.heap = w.heap) : Rws s w' A n c rs := by
  refine ⟨h.1, h.2.1, h.2.2.1, h.2.2.2.1, fun hn => ?_⟩
  obtain ⟨b, o, rfl, hc⟩ := h.2.2.2.2 hn
  exact ⟨b, o, rfl, fun i hi j hj => by have := hc i hi j hj; unfold World.cell? at this ⊢; rw [e]; exact this⟩
theorem Rws.none (s : Nat) (w : World) : Rws s w none 0 0 [] := ⟨rfl, Nat.le_refl _, by omega, fun _ h => by simp at h, fun h => absurd h (by omega)⟩
theorem Rws.lt (hs : 0 < s) (h : Rws s w A n c rs) : ∀ i, Lies A n i → i < w.heap.size := by
  rintro i ⟨hn, ad, rfl, rfl⟩
  obtain ⟨b, o, e, hc⟩ := h.2.2.2.2 hn
  have h0 : 0 < rs.length := by rw [h.1]; exact hn
  have := World.block_lt_of_cell? w _ (hc 0 h0 0 (by rw [h.2.2.2.1 _ (List.getElem_mem h0)]; exact hs))
  cases e
  exact this
theorem Rws.pre (h : Rws s w A n c rs) {hi : Nat} (h2 : hi ≤ n) : Rws s w A hi c (rs.take hi) := by
  obtain ⟨e1, e2, e3, e4, e5⟩ := h
  refine ⟨by simp; omega, by omega, e3, fun r hr => e4 r (List.mem_of_mem_take hr), fun hn => ?_⟩
  obtain ⟨b, o, rfl, hc⟩ := e5 (by omega)
  exact ⟨b, o, rfl, fun i hi' j hj => by simp at hi' hj ⊢; exact hc i (by omega) j hj⟩
/-- Where x[lo:] begins. -/
def cutS (s : Nat) (A : Option Addr) (c lo : Nat) : Option Addr := if c = lo then A else A.map (·.add (lo * s))
theorem Rws.cut (h : Rws s w A n c rs) {lo hi : Nat} (h1 : lo ≤ hi) (h2 : hi ≤ n) : Rws s w (cutS s A c lo) (hi - lo) (c - lo) ((rs.take hi).drop lo) := by
  obtain ⟨e1, e2, e3, e4, e5⟩ := h
  refine ⟨by simp; omega, by omega, by omega, fun r hr => e4 r (List.mem_of_mem_take (List.mem_of_mem_drop hr)), fun hn => ?_⟩
  obtain ⟨b, o, rfl, hc⟩ := e5 (by omega)
  refine ⟨b, o + lo * s, ?_, fun i hi' j hj => ?_⟩
  · unfold cutS
    rw [if_neg (by omega)]
    simp [Addr.add]
  · simp at hi' hj ⊢
    have := hc (lo + i) (by omega) j hj
    rw [show o + lo * s + i * s + j = o + (lo + i) * s + j by rw [Nat.add_mul]; omega]
    exact this
theorem Lies.cutS {lo m : Nat} : ∀ i, Lies (cutS s A c lo) m i → 0 < m ∧ ∃ ad, A = some ad ∧ ad.block = i := by
  rintro i ⟨hm, ad, e, rfl⟩
  unfold Go.Proofs.Ythjfeanmgaidcaa.cutS at e
  refine ⟨hm, ?_⟩
  split at e
  · exact ⟨ad, e, rfl⟩
  · cases A with
    | none => cases e
    | some x =>
      simp at e
      subst e
      exact ⟨x, rfl, by unfold Addr.add; split <;> rfl⟩
theorem run_cutS {P : Program} {t e : TypeId} {i : TypeInfo} (ht : P.underlying t = some (.slice e)) (hin : P.info? e = some i) (hs : i.size = s) (A : Option Addr) (n c lo : Nat) (x : Int) (hx : x = (lo : Int)) (h1 : lo ≤ n) (w : World) :
    (Instr.slice t (.slice A n c) (some (.int .i64 x)) none none).run P w = .ok (.slice (cutS s A c lo) (n - lo) (c - lo)) w := by
  subst hx
  have g2 : (Instr.sliceBound (.int .i64 (lo : Int)) n .sliceB).run P w = .ok lo w := by simp [Instr.sliceBound, asIntOf, h1]
  simp [Instr.slice, run_underlying ht, Instr.sliceBounds, g2, sizeOf, typeInfo, hin, hs, cutS]
theorem Rws.of_own {base e : Nat} {v : Value} (hs : 0 < s) (hr : ∀ r ∈ rs, r.length = s) (h : w.ownsRow base e s v n rs.flatten) : ∃ A c, v = .slice A n c ∧ Rws s w A n c rs ∧ ∀ i, Lies A n i → base ≤ i := by
  obtain ⟨h1, h2⟩ := h
  have hl : rs.length = n := by
    rw [flat_len hr] at h1
    exact Nat.eq_of_mul_eq_mul_right hs h1
  rcases h2 with ⟨rfl, rfl⟩ | ⟨g, cap, cur, rfl, hb, hg, hnc, hm, hz, ht⟩
  · exact ⟨Option.none, 0, rfl, ⟨hl, Nat.le_refl _, by omega, hr, fun h => absurd h (by omega)⟩, fun i hi => absurd hi.1 (by omega)⟩
  · refine ⟨_, cap, rfl, ⟨hl, hnc, by simpa [maxLen] using hm, hr, fun _ => ⟨g, 0, rfl, fun i hi j hj => ?_⟩⟩, ?_⟩
    · have hu := flat_get hr hi hj
      rw [← ht, List.getElem?_take] at hu
      split at hu
      · have hB : Blo w g e cur := hg
        rw [Nat.zero_add, hB.cell]
        simpa using hu
      · cases hu
    · rintro i ⟨_, ad, e', rfl⟩
      cases e'
      exact hb
/-- What append asks of its source. -/
theorem Rws.news (hs : 0 < s) {ad : Addr} (h : Rws s w (some ad) n c rs) : ∀ j u, rs.flatten[j]? = some u → w.cell? (ad.add j) = some u := by
  intro q u hu
  obtain ⟨h1, h2, h3, h4, h5⟩ := h
  obtain ⟨i, hi, j, hj, rfl, rfl⟩ := flat_split hs h4 hu
  obtain ⟨b, o, e, hc⟩ := h5 (by omega)
  cases e
  have := hc i hi j hj
  unfold Addr.add
  split
  · rename_i h0; rw [Nat.add_assoc, h0] at this; simpa using this
  · rw [Nat.add_assoc] at this; exact this
/-- A literal slice. -/
theorem Rws.lit (w : World) (rs : List (List Value)) (t : TypeId) (hr : ∀ r ∈ rs, r.length = s) (h : rs.length ≤ 9223372036854775807) (cs : Array Value) (hc : cs = rs.flatten.toArray) (n : Nat) (hn : rs.length = n) (b : Nat) (hb : b = w.heap.size) : Rws s (w.alloc (.cells cs t)) (some ⟨b, 0, Option.none⟩) n n rs := by
  subst hn hc hb
  refine ⟨rfl, Nat.le_refl _, h, hr, fun _ => ⟨w.heap.size, 0, rfl, fun i hi j hj => ?_⟩⟩
  rw [(Blo.new w t _).cell, Nat.zero_add]
  simpa using flat_get hr hi hj
end

/-- A block known whole, told as a slice. -/
theorem rws_blo {s : Nat} {w : World} (rs : List (List Value)) (hr : ∀ r ∈ rs, r.length = s) (h : rs.length ≤ 9223372036854775807) {g : Nat} {t : TypeId} {cs : Array Value} (hb : Blo w g t cs) (hc : cs = rs.flatten.toArray) (n : Nat) (hn : rs.length = n) : Rws s w (some ⟨g, 0, Option.none⟩) n n rs := by
  subst hn hc
  refine ⟨rfl, Nat.le_refl _, h, hr, fun _ => ⟨g, 0, rfl, fun i hi j hj => ?_⟩⟩
  rw [hb.cell, Nat.zero_add]
  simpa using flat_get hr hi hj
/-- An append of rows, whether nil or not, onto a row of the call's own. -/
theorem run_appR {P : Program} {w : World} {s t ty e bytes : Nat} {i : TypeInfo} {z : Value} (ht : P.underlying t = some (.slice e)) (hi : P.info? e = some i) (hz : i.zero = some z) (hsize : i.size = s) (hby : i.bytes = bytes) (hzs : z.cells.size = s) (hs : 0 < s)
    {B : Nat} {v : Value} {n : Nat} {xs : List Value} (hown : w.ownsRow B e s v n xs) {A : Option Addr} {m c : Nat} {rs : List (List Value)} (h : Rws s w A m c rs) (h1 : ∀ u ∈ rs.flatten, u.oneCell' = true) (h63 : n + m ≤ maxLen) (hb : (n + m) * bytes ≤ 140737488355328) (hB : B ≤ w.heap.size) :
    ∃ v' w', (Builtin.append_ #[t, t] ty #[v, .slice A m c]).run P w = .ok v' w' ∧ w'.ownsRow B e s v' (n + m) (xs ++ rs.flatten) ∧ w.grownBy w' v.ownBlock ∧ (v'.ownBlock = v.ownBlock ∨ v'.ownBlock = some w.heap.size) := by
  cases A with
  | some ad =>
    obtain ⟨v', w', g1, g2, g3, _, g5⟩ := run_append_own_at (P := P) w B t ty e i z s bytes ht hi hz hsize hby hzs hs v n xs hown ad m c rs.flatten (by rw [flat_len h.2.2.2.1, h.1]) (h.news hs) h1 h63 hb hB
    exact ⟨v', w', g1, g2, g3, g5⟩
  | none =>
    have hm : m = 0 := by
      rcases Nat.eq_zero_or_pos m with h0 | h0
      · exact h0
      · obtain ⟨b, o, e, _⟩ := h.2.2.2.2 h0; cases e
    subst hm
    have hl : rs = [] := List.eq_nil_of_length_eq_zero h.1
    subst hl
    refine ⟨v, w, ?_, by simpa using hown, ⟨rfl, rfl, rfl, Nat.le_refl _, fun _ _ _ => rfl⟩, .inl rfl⟩
    rcases hown.2 with ⟨rfl, rfl⟩ | ⟨g, cap, cur, rfl, _, _, hnc, _⟩
    · simp [Builtin.append_, run_underlying ht, sizeOf, typeInfo, hi, Builtin.lenOf, Builtin.firstCells]
    · simp [Builtin.append_, run_underlying ht, sizeOf, typeInfo, hi, Builtin.lenOf, Builtin.firstCells, hnc, storeCells]
theorem wpList_appR {P : Program} {w : World} {ops : Array Oper} {rest : List Oper} {o : Oper} {a : Act} {Q : Exit → Act → World → Prop} (hgd : o.guard = none) (sl x : Operand) (t : TypeId)
    (ho : o.op = .call { callee := .builtin .append, args := #[sl, x], argTypes := #[t, t] }) (s B e bytes : Nat) (i : TypeInfo) (z : Value) (ht : P.underlying t = some (.slice e)) (hi : P.info? e = some i) (hz : i.zero = some z) (hsize : i.size = s) (hby : i.bytes = bytes) (hzs : z.cells.size = s) (hs0 : 0 < s)
    (v : Value) (n : Nat) (xs : List Value) (hs : a.eval sl = v) (hown : w.ownsRow B e s v n xs) (A : Option Addr) (m c : Nat) (rs : List (List Value)) (hx : a.eval x = .slice A m c) (hl : Rws s w A m c rs) (h1 : ∀ u ∈ rs.flatten, u.oneCell' = true) (h63 : n + m ≤ maxLen) (hb : (n + m) * bytes ≤ 140737488355328) (hB : B ≤ w.heap.size)
    (h : ∀ v' w', w'.ownsRow B e s v' (n + m) (xs ++ rs.flatten) → w.grownBy w' v.ownBlock → (v'.ownBlock = v.ownBlock ∨ v'.ownBlock = some w.heap.size) → wpList P ops Q rest (a.put o.dst v') w') : wpList P ops Q (o :: rest) a w := by
  refine wpList_plain hgd fun K hK => ?_
  obtain ⟨v', w', hr, h2, h3, h5⟩ := run_appR (P := P) (ty := o.type) ht hi hz hsize hby hzs hs0 hown hl h1 h63 hb hB
  unfold Oper.wp execOp
  simp only [ho, resolve, invoke, builtin, Sem.run_bind, Sem.run_pure, Result.andThen_ok, List.map_toArray, List.map_cons, List.map_nil, hs, hx, hr]
  exact hK _ _ (h v' w' h2 h3 h5)
end Go.Proofs.Ythjfeanmgaidcaa
