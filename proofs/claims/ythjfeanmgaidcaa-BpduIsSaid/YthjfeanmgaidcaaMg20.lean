/- Texts that belong together, one behind the other: Rec, TagB. Conditions: those of each. -/
import Derived.Test.YthjfeanmgaidcaaMg3
import Derived.Test.YthjfeanmgaidcaaMg19
/- Slices whose elements take several cells each: one word for all of them. Nothing of the program is named here. -/
namespace Go.Proofs.Ythjfeanmgaidcaa
open Go.RowKit
set_option linter.unusedVariables false

/-- A slice of elements of s cells each reads as the rows rs. -/
def Rws (s : Nat) (w : World) (A : Option Addr) (n c : Nat) (rs : List (List Value)) : Prop :=
  rs.length = n ∧ n ≤ c ∧ c ≤ 9223372036854775807 ∧ (∀ r ∈ rs, r.length = s) ∧ (0 < n → ∃ b o, A = some ⟨b, o, none⟩ ∧ ∀ i (h : i < rs.length) j (hj : j < rs[i].length), w.cell? ⟨b, o + i * s + j, none⟩ = some rs[i][j])

theorem flat_len {s : Nat} {rs : List (List Value)} (h : ∀ r ∈ rs, r.length = s) : rs.flatten.length = rs.length * s := by
  induction rs with
  | nil => simp
  | cons r rs ih =>
    simp only [List.flatten_cons, List.length_append, List.length_cons]
    rw [h r (by simp), ih (fun r hr => h r (by simp [hr])), Nat.add_mul]
    omega
theorem flat_get {s : Nat} {rs : List (List Value)} (h : ∀ r ∈ rs, r.length = s) {i : Nat} (hi : i < rs.length) {j : Nat} (hj : j < rs[i].length) : rs.flatten[i * s + j]? = some rs[i][j] := by
  induction rs generalizing i with
  | nil => simp at hi
  | cons r rs ih =>
    have hr : r.length = s := h r (by simp)
    simp only [List.flatten_cons]
    cases i with
    | zero =>
      simp only [List.getElem_cons_zero] at hj ⊢
      rw [Nat.zero_mul, Nat.zero_add, List.getElem?_append_left hj, List.getElem?_eq_getElem hj]
    | succ i =>
      simp only [List.getElem_cons_succ] at hj ⊢
      rw [List.getElem?_append_right (by rw [hr, Nat.succ_mul]; omega), hr, show (i + 1) * s + j - s = i * s + j by rw [Nat.succ_mul]; omega]
      exact ih (fun r hr => h r (by simp [hr])) (by simpa using hi) hj
theorem flat_split {s : Nat} (hs : 0 < s) {rs : List (List Value)} (h : ∀ r ∈ rs, r.length = s) {q : Nat} {u : Value} (hq : rs.flatten[q]? = some u) : ∃ (i : Nat) (hi : i < rs.length) (j : Nat) (hj : j < rs[i].length), q = i * s + j ∧ u = rs[i][j] := by
  have hlt : q < rs.length * s := by rw [← flat_len h]; exact (List.getElem?_eq_some_iff.1 hq).1
  have hi : q / s < rs.length := (Nat.div_lt_iff_lt_mul hs).2 hlt
  have hj : q % s < rs[q / s].length := by rw [h _ (List.getElem_mem hi)]; exact Nat.mod_lt _ hs
  refine ⟨q / s, hi, q % s, hj, (by rw [Nat.mul_comm]; exact (Nat.div_add_mod q s).symm), ?_⟩
  have := flat_get h hi hj
  rw [show q / s * s + q % s = q by rw [Nat.mul_comm]; exact Nat.div_add_mod q s, hq] at this
  injection this

section
variable {s : Nat} {w w' : World} {A : Option Addr} {n c : Nat} {rs : List (List Value)}
theorem Rws.kept {F : Nat → Prop} (h : Rws s w A n c rs) (k : Kept F w w') (hF : ∀ i, Lies A n i → ¬ F i) : Rws s w' A n c rs := by
  refine ⟨h.1, h.2.1, h.2.2.1, h.2.2.2.1, fun hn => ?_⟩
  obtain ⟨b, o, rfl, hc⟩ := h.2.2.2.2 hn
  exact ⟨b, o, rfl, fun i hi j hj => k.cell (hc i hi j hj) (hF b ⟨hn, _, rfl, rfl⟩)⟩
theorem Rws.heap (h : Rws s w A n c rs) (e : w'.heap = w.heap) : Rws s w' A n c rs := by
  refine ⟨h.1, h.2.1, h.2.2.1, h.2.2.2.1, fun hn => ?_⟩
  obtain ⟨b, o, rfl, hc⟩ := h.2.2.2.2 hn
  exact ⟨b, o, rfl, fun i hi j hj => by have := hc i hi j hj; unfold World.cell? at this ⊢; rw [e]; exact this⟩
theorem Rws.none (s : Nat) (w : World) : Rws s w none 0 0 [] := ⟨rfl, Nat.le_refl _, by omega, fun _ h => by simp at h, fun h => absurd h (by omega)⟩
theorem Rws.lt (hs : 0 < s) (h : Rws s w A n c rs) : ∀ i, Lies A n i → i < w.heap.size := by
  rintro i ⟨hn, ad, rfl, rfl⟩
  obtain ⟨b, o, e, hc⟩ := h.2.2.2.2 hn
  have h0 : 0 < rs.length := by rw [h.1]; exact hn
  have := World.block_lt_of_cell? w _ (hc 0 h0 0 (by rw [h.2.2.2.1 _ (List.getElem_mem h0)]; exact hs))
  cases e
  exact this
theorem Rws.pre (h : Rws s w A n c rs) {hi : Nat} (h2 : hi ≤ n) : Rws s w A hi c (rs.take hi) := by
  obtain ⟨e1, e2, e3, e4, e5⟩ := h
  refine ⟨by simp; omega, by omega, e3, fun r hr => e4 r (List.mem_of_mem_take hr), fun hn => ?_⟩
  obtain ⟨b, o, rfl, hc⟩ := e5 (by omega)
  exact ⟨b, o, rfl, fun i hi' j hj => by simp at hi' hj ⊢; exact hc i (by omega) j hj⟩
/-- Where x[lo:] begins. -/
def cutS (s : Nat) (A : Option Addr) (c lo : Nat) : Option Addr := if c = lo then A else A.map (·.add (lo * s))
theorem Rws.cut (h : Rws s w A n c rs) {lo hi : Nat} (h1 : lo ≤ hi) (h2 : hi ≤ n) : Rws s w (cutS s A c lo) (hi - lo) (c - lo) ((rs.take hi).drop lo) := by
  obtain ⟨e1, e2, e3, e4, e5⟩ := h
  refine ⟨by simp; omega, by omega, by omega, fun r hr => e4 r (List.mem_of_mem_take (List.mem_of_mem_drop hr)), fun hn => ?_⟩
  obtain ⟨b, o, rfl, hc⟩ := e5 (by omega)
  refine ⟨b, o + lo * s, ?_, fun i hi' j hj => ?_⟩
  · unfold cutS
    rw [if_neg (by omega)]
    simp [Addr.add]
  · simp at hi' hj ⊢
    have := hc (lo + i) (by omega) j hj
    rw [show o + lo * s + i * s + j = o + (lo + i) * s + j by rw [Nat.add_mul]; omega]
    exact this
theorem Lies.cutS {lo m : Nat} : ∀ i, Lies (cutS s A c lo) m i → 0 < m ∧ ∃ ad, A = some ad ∧ ad.block = i := by
  rintro i ⟨hm, ad, e, rfl⟩
  unfold Go.Proofs.Ythjfeanmgaidcaa.cutS at e
  refine ⟨hm, ?_⟩
  split at e
  · exact ⟨ad, e, rfl⟩
  · cases A with
    | none => cases e
    | some x =>
      simp at e
      subst e
      exact ⟨x, rfl, by unfold Addr.add; split <;> rfl⟩
theorem run_cutS {P : Program} {t e : TypeId} {i : TypeInfo} (ht : P.underlying t = some (.slice e)) (hin : P.info? e = some i) (hs : i.size = s) (A : Option Addr) (n c lo : Nat) (x : Int) (hx : x = (lo : Int)) (h1 : lo ≤ n) (w : World) :
    (Instr.slice t (.slice A n c) (some (.int .i64 x)) none none).run P w = .ok (.slice (cutS s A c lo) (n - lo) (c - lo)) w := by
  subst hx
  have g2 : (Instr.sliceBound (.int .i64 (lo : Int)) n .sliceB).run P w = .ok lo w := by simp [Instr.sliceBound, asIntOf, h1]
  simp [Instr.slice, run_underlying ht, Instr.sliceBounds, g2, sizeOf, typeInfo, hin, hs, cutS]
theorem Rws.of_own {base e : Nat} {v : Value} (hs : 0 < s) (hr : ∀ r ∈ rs, r.length = s) (h : w.ownsRow base e s v n rs.flatten) : ∃ A c, v = .slice A n c ∧ Rws s w A n c rs ∧ ∀ i, Lies A n i → base ≤ i := by
  obtain ⟨h1, h2⟩ := h
  have hl : rs.length = n := by
    rw [flat_len hr] at h1
    exact Nat.eq_of_mul_eq_mul_right hs h1
  rcases h2 with ⟨rfl, rfl⟩ | ⟨g, cap, cur, rfl, hb, hg, hnc, hm, hz, ht⟩
  · exact ⟨Option.none, 0, rfl, ⟨hl, Nat.le_refl _, by omega, hr, fun h => absurd h (by omega)⟩, fun i hi => absurd hi.1 (by omega)⟩
  · refine ⟨_, cap, rfl, ⟨hl, hnc, by simpa [maxLen] using hm, hr, fun _ => ⟨g, 0, rfl, fun i hi j hj => ?_⟩⟩, ?_⟩
    · have hu := flat_get hr hi hj
      rw [← ht, List.getElem?_take] at hu
      split at hu
      · have hB : Blo w g e cur := hg
        rw [Nat.zero_add, hB.cell]
        simpa using hu
      · cases hu
    · rintro i ⟨_, ad, e', rfl⟩
      cases e'
      exact hb
/-- What append asks of its source. -/
theorem Rws.news (hs : 0 < s) {ad : Addr} (h : Rws s w (some ad) n c rs) : ∀ j u, rs.flatten[j]? = some u → w.cell? (ad.add j) = some u := by
  intro q u hu
  obtain ⟨h1, h2, h3, h4, h5⟩ := h
  obtain ⟨i, hi, j, hj, rfl, rfl⟩ := flat_split hs h4 hu
  obtain ⟨b, o, e, hc⟩ := h5 (by omega)
  cases e
  have := hc i hi j hj
  unfold Addr.add
  split
  · rename_i h0; rw [Nat.add_assoc, h0] at this; simpa using this
  · rw [Nat.add_assoc] at this; exact this
/-- A literal slice. -/
theorem Rws.lit (w : World) (rs : List (List Value)) (t : TypeId) (hr : ∀ r ∈ rs, r.length = s) (h : rs.length ≤ 9223372036854775807) (cs : Array Value) (hc : cs = rs.flatten.toArray) (n : Nat) (hn : rs.length = n) (b : Nat) (hb : b = w.heap.size) : Rws s (w.alloc (.cells cs t)) (some ⟨b, 0, Option.none⟩) n n rs := by
  subst hn hc hb
  refine ⟨rfl, Nat.le_refl _, h, hr, fun _ => ⟨w.heap.size, 0, rfl, fun i hi j hj => ?_⟩⟩
  rw [(Blo.new w t _).cell, Nat.zero_add]
  simpa using flat_get hr hi hj
end

/-- A block known whole, told as a slice. -/
theorem rws_blo {s : Nat} {w : World} (rs : List (List Value)) (hr : ∀ r ∈ rs, r.length = s) (h : rs.length ≤ 9223372036854775807) {g : Nat} {t : TypeId} {cs : Array Value} (hb : Blo w g t cs) (hc : cs = rs.flatten.toArray) (n : Nat) (hn : rs.length = n) : Rws s w (some ⟨g, 0, Option.none⟩) n n rs := by
  subst hn hc
  refine ⟨rfl, Nat.le_refl _, h, hr, fun _ => ⟨g, 0, rfl, fun i hi j hj => ?_⟩⟩
  rw [hb.cell, Nat.zero_add]
  simpa using flat_get hr hi hj
/-- An append of rows, whether nil or not, onto a row of the call's own. -/
theorem run_appR {P : Program} {w : World} {s t ty e bytes : Nat} {i : TypeInfo} {z : Value} (ht : P.underlying t = some (.slice e)) (hi : P.info? e = some i) (hz : i.zero = some z) (hsize : i.size = s) (hby : i.bytes = bytes) (hzs : z.cells.size = s) (hs : 0 < s)
    {B : Nat} {v : Value} {n : Nat} {xs : List Value} (hown : w.ownsRow B e s v n xs) {A : Option Addr} {m c : Nat} {rs : List (List Value)} (h : Rws s w A m c rs) (h1 : ∀ u ∈ rs.flatten, u.oneCell' = true) (h63 : n + m ≤ maxLen) (hb : (n + m) * bytes ≤ 140737488355328) (hB : B ≤ w.heap.size) :
    ∃ v' w', (Builtin.append_ #[t, t] ty #[v, .slice A m c]).run P w = .ok v' w' ∧ w'.ownsRow B e s v' (n + m) (xs ++ rs.flatten) ∧ w.grownBy w' v.ownBlock ∧ (v'.ownBlock = v.ownBlock ∨ v'.ownBlock = some w.heap.size) := by
  cases A with
  | some ad =>
    obtain ⟨v', w', g1, g2, g3, _, g5⟩ := run_append_own_at (P := P) w B t ty e i z s bytes ht hi hz hsize hby hzs hs v n xs hown ad m c rs.flatten (by rw [flat_len h.2.2.2.1, h.1]) (h.news hs) h1 h63 hb hB
    exact ⟨v', w', g1, g2, g3, g5⟩
  | none =>
    have hm : m = 0 := by
      rcases Nat.eq_zero_or_pos m with h0 | h0
      · exact h0
      · obtain ⟨b, o, e, _⟩ := h.2.2.2.2 h0; cases e
    subst hm
    have hl : rs = [] := List.eq_nil_of_length_eq_zero h.1
    subst hl
    refine ⟨v, w, ?_, by simpa using hown, ⟨rfl, rfl, rfl, Nat.le_refl _, fun _ _ _ => rfl⟩, .inl rfl⟩
    rcases hown.2 with ⟨rfl, rfl⟩ | ⟨g, cap, cur, rfl, _, _, hnc, _⟩
    · simp [Builtin.append_, run_underlying ht, sizeOf, typeInfo, hi, Builtin.lenOf, Builtin.firstCells]
    · simp [Builtin.append_, run_underlying ht, sizeOf, typeInfo, hi, Builtin.lenOf, Builtin.firstCells, hnc, storeCells]
theorem wpList_appR {P : Program} {w : World} {ops : Array Oper} {rest : List Oper} {o : Oper} {a : Act} {Q : Exit → Act → World → Prop} (hgd : o.guard = none) (sl x : Operand) (t : TypeId)
    (ho : o.op = .call { callee := .builtin .append, args := #[sl, x], argTypes := #[t, t] }) (s B e bytes : Nat) (i : TypeInfo) (z : Value) (ht : P.underlying t = some (.slice e)) (hi : P.info? e = some i) (hz : i.zero = some z) (hsize : i.size = s) (hby : i.bytes = bytes) (hzs : z.cells.size = s) (hs0 : 0 < s)
    (v : Value) (n : Nat) (xs : List Value) (hs : a.eval sl = v) (hown : w.ownsRow B e s v n xs) (A : Option Addr) (m c : Nat) (rs : List (List Value)) (hx : a.eval x = .slice A m c) (hl : Rws s w A m c rs) (h1 : ∀ u ∈ rs.flatten, u.oneCell' = true) (h63 : n + m ≤ maxLen) (hb : (n + m) * bytes ≤ 140737488355328) (hB : B ≤ w.heap.size)
    (h : ∀ v' w', w'.ownsRow B e s v' (n + m) (xs ++ rs.flatten) → w.grownBy w' v.ownBlock → (v'.ownBlock = v.ownBlock ∨ v'.ownBlock = some w.heap.size) → wpList P ops Q rest (a.put o.dst v') w') : wpList P ops Q (o :: rest) a w := by
  refine wpList_plain hgd fun K hK => ?_
  obtain ⟨v', w', hr, h2, h3, h5⟩ := run_appR (P := P) (ty := o.type) ht hi hz hsize hby hzs hs0 hown hl h1 h63 hb hB
  unfold Oper.wp execOp
  simp only [ho, resolve, invoke, builtin, Sem.run_bind, Sem.run_pure, Result.andThen_ok, List.map_toArray, List.map_cons, List.map_nil, hs, hx, hr]
  exact hK _ _ (h v' w' h2 h3 h5)
end Go.Proofs.Ythjfeanmgaidcaa
/- Package tag: slices of tags; contracts of May and of the library's Equal and Clone of tags. -/
namespace Go.Proofs.Ythjfeanmgaidcaa
open Go.RowKit Go.Sort
set_option linter.unusedVariables false

/-- A slice of tags reads as l. -/
def Tags (w : World) (A : Option Addr) (n c : Nat) (l : List Tg) : Prop := Rws 4 w A n c (l.map tgc) ∧ ∀ t ∈ l, t.ok
section
variable {w w' : World} {A : Option Addr} {n c : Nat} {l : List Tg}
theorem Tags.len (h : Tags w A n c l) : l.length = n := by simpa using h.1.1
theorem Tags.kept {F : Nat → Prop} (h : Tags w A n c l) (k : Kept F w w') (hF : ∀ i, Lies A n i → ¬ F i) : Tags w' A n c l := ⟨h.1.kept k hF, h.2⟩
theorem Tags.nil (w : World) : Tags w none 0 0 [] := ⟨Rws.none 4 w, fun _ h => by simp at h⟩
theorem tgc_len (l : List Tg) : ∀ r ∈ l.map tgc, r.length = 4 := by
  intro r hr
  simp only [List.mem_map] at hr
  obtain ⟨t, _, rfl⟩ := hr
  rfl
theorem tgc_one (l : List Tg) : ∀ u ∈ (l.map tgc).flatten, u.oneCell' = true := by
  intro u hu
  simp only [List.mem_flatten, List.mem_map] at hu
  obtain ⟨r, ⟨t, _, rfl⟩, hr⟩ := hu
  simp only [tgc, List.mem_cons, List.not_mem_nil, or_false] at hr
  rcases hr with rfl | rfl | rfl | rfl <;> rfl
theorem Tags.at (h : Tags w A n c l) {i : Nat} (hi : i < l.length) : ∃ b o, A = some ⟨b, o, none⟩ ∧ w.cell? ⟨b, o + i * 4, none⟩ = some (.int .u16 (l[i].k : Int)) ∧ w.cell? ⟨b, o + i * 4 + 1, none⟩ = some (.int .u8 (l[i].p : Int)) ∧
    w.cell? ⟨b, o + i * 4 + 2, none⟩ = some (.bool l[i].d) ∧ w.cell? ⟨b, o + i * 4 + 3, none⟩ = some (.int .u16 (l[i].n : Int)) := by
  have hl := h.len
  obtain ⟨b, o, e, hc⟩ := h.1.2.2.2.2 (by omega)
  have hc := hc i (by simpa using hi)
  simp only [List.getElem_map] at hc
  exact ⟨b, o, e, hc 0 (by simp [tgc]), hc 1 (by simp [tgc]), hc 2 (by simp [tgc]), hc 3 (by simp [tgc])⟩
theorem Tags.cells {b o : Nat} (h : Tags w (some ⟨b, o, none⟩) n c l) {i : Nat} (hi : i < l.length) : w.cell? ⟨b, o + i * 4, none⟩ = some (.int .u16 (l[i].k : Int)) ∧ w.cell? ⟨b, o + i * 4 + 1, none⟩ = some (.int .u8 (l[i].p : Int)) ∧
    w.cell? ⟨b, o + i * 4 + 2, none⟩ = some (.bool l[i].d) ∧ w.cell? ⟨b, o + i * 4 + 3, none⟩ = some (.int .u16 (l[i].n : Int)) := by
  obtain ⟨b', o', e, h1⟩ := h.at hi
  cases e
  exact h1
theorem Tags.lt (h : Tags w A n c l) : ∀ i, Lies A n i → i < w.heap.size := h.1.lt (by omega)
theorem Tags.of_own {base e : Nat} {v : Value} (h : w.ownsRow base e 4 v n (l.map tgc).flatten) (hok : ∀ t ∈ l, t.ok) : ∃ A c, v = .slice A n c ∧ Tags w A n c l ∧ ∀ i, Lies A n i → base ≤ i := by
  obtain ⟨A, c, e, hr, hi⟩ := Rws.of_own (by omega) (tgc_len l) h
  exact ⟨A, c, e, ⟨hr, hok⟩, hi⟩
end

/-- Whether tags may be a stack, from a place on. -/
def mayFrom (i : Nat) : List Tg → Bool
  | [] => true
  | t :: l => mayT t && standM t.k (i : Int) && mayFrom (i + 1) l
def mayL (l : List Tg) : Bool := mayFrom 0 l
theorem mayFrom_take (l : List Tg) (i k : Nat) (hk : k < l.length) : mayFrom i (l.take (k + 1)) = (mayFrom i (l.take k) && (mayT l[k] && standM l[k].k ((i + k : Nat) : Int))) := by
  induction l generalizing i k with
  | nil => simp at hk
  | cons t l ih =>
    cases k with
    | zero => simp [mayFrom]
    | succ k =>
      simp only [List.take_succ_cons, mayFrom, List.getElem_cons_succ]
      rw [ih (i + 1) k (by simpa using hk), show i + 1 + k = i + (k + 1) by omega]
      simp [Bool.and_assoc]
theorem mayFrom_false (l : List Tg) (i k : Nat) (h : mayFrom i (l.take k) = false) : mayFrom i l = false := by
  induction l generalizing i k with
  | nil => simp [mayFrom] at h
  | cons t l ih =>
    cases k with
    | zero => simp [mayFrom] at h
    | succ k =>
      simp only [List.take_succ_cons, mayFrom, Bool.and_eq_false_iff] at h ⊢
      rcases h with h | h
      · exact .inl h
      · exact .inr (ih _ _ h)
theorem mayL_iff (l : List Tg) : mayL l = true ↔ (l = [] ∨ (∃ t, l = [t] ∧ mayT t = true) ∨ (∃ t u, l = [t, u] ∧ mayT t = true ∧ mayT u = true ∧ u.k = 33024)) := by
  have h0 : ∀ t : Tg, mayT t = true → standM t.k 0 = true := fun t h => by
    rw [mayT_iff] at h; rw [stand0]; simpa using h.1
  have h2 : ∀ (k i : Nat), 2 ≤ i → standM k (i : Int) = false := fun k i hi => by
    unfold standM; rw [if_neg (by omega), if_neg (by omega)]
  match l with
  | [] => simp [mayL, mayFrom]
  | [t] =>
    constructor
    · intro h
      exact .inr (.inl ⟨t, rfl, by simp [mayL, mayFrom] at h; exact h.1⟩)
    · rintro (h | ⟨u, h, hm⟩ | ⟨_, _, h, _⟩)
      · cases h
      · cases h
        simp [mayL, mayFrom, hm, h0 t hm]
      · simp at h
  | [t, u] =>
    constructor
    · intro h
      simp [mayL, mayFrom, stand1] at h
      exact .inr (.inr ⟨t, u, rfl, h.1.1, h.2.1, h.2.2⟩)
    · rintro (h | ⟨_, h, _⟩ | ⟨t', u', h, h1, h2, h3⟩)
      · cases h
      · simp at h
      · cases h
        simp [mayL, mayFrom, stand1, h1, h2, h3, h0 t h1]
  | t :: u :: v :: l =>
    constructor
    · intro h
      have h3 := h2 v.k 2 (by omega)
      simp only [mayL, mayFrom, Nat.zero_add, Nat.reduceAdd, h3, Bool.and_false, Bool.false_and] at h
      cases h
    · rintro (h | ⟨_, h, _⟩ | ⟨_, _, h, _⟩) <;> simp at h

set_option maxHeartbeats 1000000 in
theorem may_yes (A : Option Addr) (n c : Nat) (l : List Tg) (w : World) (h : Tags w A n c l) :
    Calls Try.prog 46 #[.slice A n c] w fun e w' => e = .returned (.bool (mayL l)) ∧ Kept Nil w w' := by
  have hnc := h.1.2.1
  have hcc := h.1.2.2.1
  have hlen := h.len
  go_enter Try.func46, Try.ntmps46
  go_wp2
  go_loopw [7] (fun i wr => ∃ k : Nat, k ≤ n ∧ i = .int .i64 (k : Int) ∧ mayFrom 0 (l.take k) = true ∧ Kept Nil w wr) (fun i _ => n - (intOf i).toNat)
  case atStart => exact ⟨0, Nat.zero_le _, rfl, rfl, Kept.refl _ _⟩
  case round =>
    obtain ⟨k, hk, rfl, hm, hkp⟩ := hrel
    by_cases hlt : k < n
    · have hkl : k < l.length := by omega
      obtain ⟨b, o, rfl, q0, q1, q2, q3⟩ := (h.kept hkp (fun _ _ hf => hf)).at hkl
      have hok := h.2 _ (List.getElem_mem hkl)
      have hmt := mayFrom_take l 0 k hkl
      rw [hm, Nat.zero_add, Bool.true_and] at hmt
      generalize ht : l[k] = t at *
      have HK := Lib.hid hkp
      have HT := Lib.hid ht
      have HM := Lib.hid hmt
      have cm : ∀ u, Calls Try.prog _ _ u _ := tmay_yes t hok
      have cst : ∀ u, Calls Try.prog _ _ u _ := stand_yes t.k (k : Int)
      unfold tgv at cm
      have Cm := Lib.hid cm
      have Cs := Lib.hid cst
      clear hkp ht cm cst hm hmt
      have hB := Blo.new wr 67 #[.int .u16 (t.k : Int), .int .u8 (t.p : Int), .bool t.d, .int .u16 (t.n : Int)]
      have HB := Lib.hid hB
      clear hB
      go_wp2_with fail
      refine (Cm.out _).mono ?_
      rintro e w1 ⟨rfl, hk1⟩
      have c0 := (HB.out.kept hk1 (fun hf => hf)).cell 0
      simp at c0
      have HK1 := Lib.hid (HK.out.trans (((Kept.refl Nil wr).alloc _).then hk1) (fun _ _ hf => hf))
      clear hk1
      cases hmt : mayT t
      · have hf : mayL l = false := mayFrom_false l 0 (k + 1) (by rw [HM.out, hmt]; rfl)
        have HF := Lib.hid hf
        clear hf hmt hlen
        go_wp2
        go_ret
        exact ⟨by rw [HF.out]; rfl, HK1.out⟩
      · cases hst : standM t.k (k : Int)
        · have hf : mayL l = false := mayFrom_false l 0 (k + 1) (by rw [HM.out, hmt, hst]; rfl)
          rw [hst] at Cs
          have HF := Lib.hid hf
          clear hf hmt hlen hst
          go_wp2_with fail
          refine (Cs.out _).mono ?_
          rintro e w2 ⟨rfl, rfl⟩
          go_wp2
          go_ret
          exact ⟨by rw [HF.out]; rfl, HK1.out⟩
        · have hf : mayFrom 0 (l.take (k + 1)) = true := by rw [HM.out, hmt, hst]; rfl
          rw [hst] at Cs
          have HF := Lib.hid hf
          clear hf hmt hlen hst
          go_wp2_with fail
          refine (Cs.out _).mono ?_
          rintro e w2 ⟨rfl, rfl⟩
          go_wp2
          go_roundw
          case rel => exact ⟨k + 1, by omega, by go_num, HF.out, HK1.out⟩
          case measure => simp [intOf]; omega
    · have hfull : l.take k = l := List.take_of_length_le (by omega)
      rw [hfull] at hm
      have HM := Lib.hid hm
      have HK := Lib.hid hkp
      clear hm hkp hfull hlen
      go_wp2
      go_ret
      exact ⟨by show _ = Ending.returned (.bool (mayFrom 0 l)); rw [HM.out]; rfl, HK.out⟩

/-- Cell by cell: what stands at a place of two rows. -/
theorem eq_at (l l' : List Tg) (k : Nat) (hk : k < l.length) (hl : l.length = l'.length) (h : l.take k = l'.take k) : (l.take (k + 1) = l'.take (k + 1) ↔ l[k] = l'[k]) := by
  rw [List.take_succ_eq_append_getElem hk, List.take_succ_eq_append_getElem (l := l') (by omega), h]
  exact ⟨fun e => by have := List.append_cancel_left e; injection this, fun e => by rw [e]⟩

theorem Try.inft : (Try.prog.info? 67).map (fun i => (i.zero, i.size, i.bytes)) = some (some (tgv ⟨0, 0, false, 0⟩), 4, 6) := by kernel_rfl
theorem inft4 : Try.prog.info? 67 = some ((Try.prog.info? 67).getD default) ∧ ((Try.prog.info? 67).getD default).size = 4 := ⟨by kernel_rfl, by kernel_rfl⟩
/-- Tags in new memory. -/
def MadeT (w w' : World) (v : Value) (l : List Tg) : Prop := w'.ownsRow w.heap.size 67 4 v l.length (l.map tgc).flatten ∧ Kept Nil w w'

end Go.Proofs.Ythjfeanmgaidcaa
