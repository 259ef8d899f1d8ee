/- Texts that belong together, one behind the other: Mem, Frame. Conditions: those of each. -/
import Derived.WalkKit
import Derived.Deep.Draws
import Derived.ProofKit
import Derived.OpenShut
import Derived.ShutString
import Derived.ChangeOld
import Derived.Deep.Slices
/- Plain words for memory, used by all texts of this seat: a block known whole, what a call leaves alone, a slice that reads as a list of bytes. Nothing of the program is named here. -/
namespace Go.Proofs.YtiehmpiaddjhiaaDoor
open Go.RowKit
set_option linter.unusedVariables false

/-- Block g holds just these cells, none frozen. -/
def Blo (w : World) (g : Nat) (t : TypeId) (cs : Array Value) : Prop := w.heap[g]? = some (.cells cs t (0, 0))

/-- Of the blocks that were there, only those of F may have turned. -/
structure Kept (F : Nat → Prop) (w w' : World) : Prop where
  os : w'.os = w.os
  tape : w'.tape = w.tape
  output : w'.output = w.output
  size : w.heap.size ≤ w'.heap.size
  block : ∀ k, k < w.heap.size → ¬ F k → w'.heap[k]? = w.heap[k]?

/-- No block at all. -/
def Nil : Nat → Prop := fun _ => False
/-- One block. -/
def One (g : Nat) : Nat → Prop := fun k => k = g

theorem Kept.refl (F : Nat → Prop) (w : World) : Kept F w w := ⟨rfl, rfl, rfl, Nat.le_refl _, fun _ _ _ => rfl⟩
theorem Kept.trans {F F' : Nat → Prop} {a b c : World} (h : Kept F a b) (k : Kept F' b c) (hF : ∀ i, i < a.heap.size → F' i → F i) : Kept F a c :=
  ⟨k.os.trans h.os, k.tape.trans h.tape, k.output.trans h.output, Nat.le_trans h.size k.size, fun i hi hn =>
    (k.block i (Nat.lt_of_lt_of_le hi h.size) (fun hf => hn (hF i hi hf))).trans (h.block i hi hn)⟩
theorem Kept.mono {F F' : Nat → Prop} {a b : World} (h : Kept F a b) (hF : ∀ i, i < a.heap.size → F i → F' i) : Kept F' a b :=
  ⟨h.os, h.tape, h.output, h.size, fun i hi hn => h.block i hi (fun hf => hn (hF i hi hf))⟩
theorem Kept.nil {F : Nat → Prop} {a b : World} (h : Kept Nil a b) : Kept F a b := h.mono fun _ _ hf => hf.elim
theorem Kept.same {F : Nat → Prop} {a b c : World} (h : Kept F a b) (k : Kept F b c) : Kept F a c := h.trans k fun _ _ hf => hf
theorem Kept.then {F : Nat → Prop} {a b c : World} (h : Kept F a b) (k : Kept Nil b c) : Kept F a c := h.trans k fun _ _ hf => hf.elim
/-- The second step writes to blocks alone that the first one made. -/
theorem Kept.fresh {F F' : Nat → Prop} {a b c : World} (h : Kept F a b) (k : Kept F' b c) (hF : ∀ i, F' i → a.heap.size ≤ i) : Kept F a c :=
  h.trans k fun i hi hf => absurd (hF i hf) (by omega)
theorem Kept.alloc {F : Nat → Prop} {a b : World} (h : Kept F a b) (o : Obj) : Kept F a (b.alloc o) :=
  h.then ⟨rfl, rfl, rfl, by simp, fun k hk _ => Below.heap_alloc b o k hk⟩
theorem Kept.drew {F : Nat → Prop} {a b : World} (h : Kept F a b) : Kept F a b.drew := ⟨h.os, h.tape, h.output, h.size, h.block⟩
theorem Kept.drewN {F : Nat → Prop} {a b : World} (h : Kept F a b) (n : Nat) : Kept F a (b.drewN n) := ⟨h.os, h.tape, h.output, h.size, h.block⟩
theorem Kept.setCell {F : Nat → Prop} {a b : World} (h : Kept F a b) {p : Addr} (hp : p.block < a.heap.size → F p.block) (u : Value) : Kept F a (b.setCell p u) :=
  h.trans (F' := One p.block) ⟨rfl, rfl, rfl, by simp, fun k _ hn => Below.heap_setCell b p u k hn⟩ (fun i hi hf => by cases hf; exact hp hi)
theorem Kept.put {F : Nat → Prop} {a b : World} (h : Kept F a b) {g o : Nat} {sp : Option Nat} (hp : F g) (u : Value) : Kept F a (b.setCell ⟨g, o, sp⟩ u) := h.setCell (fun _ => hp) u
theorem Kept.one (w : World) (g o : Nat) (sp : Option Nat) (u : Value) : Kept (One g) w (w.setCell ⟨g, o, sp⟩ u) := (Kept.refl (One g) w).put rfl u
theorem Kept.grown {F : Nat → Prop} {a b c : World} {row : Option Nat} (h : Kept F a b) (hg : b.grownBy c row) (hr : ∀ k, row = some k → k < a.heap.size → F k) : Kept F a c :=
  h.trans (F' := fun k => some k = row) ⟨hg.os, hg.tape, hg.output, hg.size, fun k hk hn => hg.block k hk hn⟩ (fun i hi hf => hr i hf.symm hi)
theorem Kept.of_below {a b : World} (h : Below a.heap.size a b) : Kept Nil a b := ⟨h.os, h.tape, h.output, h.size, fun k hk _ => h.block k hk⟩
theorem Kept.of_below' {a b : World} {B : Nat} (h : Below B a b) : Kept (fun k => B ≤ k) a b := ⟨h.os, h.tape, h.output, h.size, fun k _ hn => h.block k (by omega)⟩
theorem Kept.below {F : Nat → Prop} {a b : World} {B : Nat} (h : Kept F a b) (hB : B ≤ a.heap.size) (hF : ∀ k, F k → B ≤ k) : Below B a b :=
  ⟨h.os, h.tape, h.output, h.size, fun k hk => h.block k (by omega) (fun hf => by have := hF k hf; omega)⟩
theorem Kept.cell {F : Nat → Prop} {w w' : World} (h : Kept F w w') {p : Addr} {v : Value} (hc : w.cell? p = some v) (hp : ¬ F p.block) : w'.cell? p = some v :=
  (World.cell?_of_block (w := w) (h.block p.block (World.block_lt_of_cell? w p hc) hp)).trans hc

section
variable {w w' : World} {g : Nat} {t : TypeId} {cs : Array Value}
theorem Blo.lt (h : Blo w g t cs) : g < w.heap.size := (Array.getElem?_eq_some_iff.1 h).1
theorem Blo.cell (h : Blo w g t cs) (i : Nat) : w.cell? ⟨g, i, none⟩ = cs[i]? := by unfold Blo at h; simp [World.cell?, h]
theorem Blo.frozen (h : Blo w g t cs) (i : Nat) : w.frozen? ⟨g, i, none⟩ = false := by unfold Blo at h; simp [World.frozen?, h]
theorem Blo.kept {F : Nat → Prop} (h : Blo w g t cs) (k : Kept F w w') (hg : ¬ F g) : Blo w' g t cs := (k.block g h.lt hg).trans h
theorem Blo.heap (h : Blo w g t cs) (e : w'.heap = w.heap) : Blo w' g t cs := by unfold Blo; rw [e]; exact h
theorem Blo.new (w : World) (t : TypeId) (cs : Array Value) : Blo (w.alloc (.cells cs t)) w.heap.size t cs := heap_alloc_new w _
theorem Blo.set (h : Blo w g t cs) (i : Nat) (u : Value) : Blo (w.setCell ⟨g, i, none⟩ u) g t (cs.setIfInBounds i u) := by
  unfold Blo at h ⊢
  simp [World.setCell, Array.getElem?_modify, h]
theorem Blo.far (h : Blo w g t cs) {p : Addr} (hp : g ≠ p.block) (u : Value) : Blo (w.setCell p u) g t cs := (Below.heap_setCell w p u g hp).trans h
theorem Blo.alloc (h : Blo w g t cs) (o : Obj) : Blo (w.alloc o) g t cs := (Below.heap_alloc w o g h.lt).trans h
theorem Blo.ne (h : Blo w g t cs) {g' : Nat} {t' : TypeId} {cs' : Array Value} (h' : Blo w g' t' cs') (ht : t ≠ t') : g ≠ g' := by
  intro e
  subst e
  unfold Blo at h h'
  rw [h] at h'
  injection h' with h'
  injection h' with _ h2
  exact ht h2
end

/-- Bytes as cells. -/
def bys (l : List UInt8) : List Value := l.map fun b => Value.int .u8 (b.toNat : Int)
theorem bys_len (l : List UInt8) : (bys l).length = l.length := by simp [bys]
theorem bys_app (l m : List UInt8) : bys (l ++ m) = bys l ++ bys m := by simp [bys]
theorem bys_one (l : List UInt8) : ∀ u ∈ bys l, u.oneCell' = true := by
  intro u hu
  simp only [bys, List.mem_map] at hu
  obtain ⟨b, _, rfl⟩ := hu
  rfl

/-- A slice of bytes (its address, its length, its capacity) reads as l. Where it is empty nothing is said of its address. -/
def Byt (w : World) (A : Option Addr) (n c : Nat) (l : List UInt8) : Prop :=
  l.length = n ∧ n ≤ c ∧ c ≤ 9223372036854775807 ∧ (0 < n → ∃ b o, A = some ⟨b, o, none⟩ ∧ ∀ i (h : i < l.length), w.cell? ⟨b, o + i, none⟩ = some (.int .u8 (l[i].toNat : Int)))
/-- Where its bytes lie. -/
def Lies (A : Option Addr) (n : Nat) : Nat → Prop := fun k => 0 < n ∧ ∃ ad, A = some ad ∧ ad.block = k

/-- Where x[lo:] begins, for elements of one cell. -/
def cutA (A : Option Addr) (c lo : Nat) : Option Addr := if c = lo then A else A.map (·.add lo)
theorem run_cut {P : Program} {t e : TypeId} {i : TypeInfo} (ht : P.underlying t = some (.slice e)) (hin : P.info? e = some i) (hs : i.size = 1) (A : Option Addr) (n c lo hi : Nat) (x y : Int) (hx : x = (lo : Int)) (hy : y = (hi : Int)) (h1 : lo ≤ hi) (h2 : hi ≤ c) (w : World) :
    (Instr.slice t (.slice A n c) (some (.int .i64 x)) (some (.int .i64 y)) none).run P w = .ok (.slice (cutA A c lo) (hi - lo) (c - lo)) w := by
  subst hx hy
  have g1 : (Instr.sliceBound (.int .i64 (hi : Int)) c .sliceAcap).run P w = .ok hi w := by simp [Instr.sliceBound, asIntOf, h2]
  have g2 : (Instr.sliceBound (.int .i64 (lo : Int)) hi .sliceB).run P w = .ok lo w := by simp [Instr.sliceBound, asIntOf, h1]
  simp [Instr.slice, run_underlying ht, Instr.sliceBounds, g1, g2, sizeOf, typeInfo, hin, hs, cutA]
theorem run_cut_hi {P : Program} {t e : TypeId} {i : TypeInfo} (ht : P.underlying t = some (.slice e)) (hin : P.info? e = some i) (A : Option Addr) (n c hi : Nat) (y : Int) (hy : y = (hi : Int)) (h2 : hi ≤ c) (w : World) :
    (Instr.slice t (.slice A n c) none (some (.int .i64 y)) none).run P w = .ok (.slice A hi c) w := by
  subst hy
  have g1 : (Instr.sliceBound (.int .i64 (hi : Int)) c .sliceAcap).run P w = .ok hi w := by simp [Instr.sliceBound, asIntOf, h2]
  have g3 : (if c = 0 then A else Option.map (fun x : Addr => x.add 0) A) = A := by cases A <;> simp [Addr.add]
  simp [Instr.slice, run_underlying ht, Instr.sliceBounds, g1, sizeOf, typeInfo, hin, g3]
theorem run_cut_lo {P : Program} {t e : TypeId} {i : TypeInfo} (ht : P.underlying t = some (.slice e)) (hin : P.info? e = some i) (hs : i.size = 1) (A : Option Addr) (n c lo : Nat) (x : Int) (hx : x = (lo : Int)) (h1 : lo ≤ n) (w : World) :
    (Instr.slice t (.slice A n c) (some (.int .i64 x)) none none).run P w = .ok (.slice (cutA A c lo) (n - lo) (c - lo)) w := by
  subst hx
  have g2 : (Instr.sliceBound (.int .i64 (lo : Int)) n .sliceB).run P w = .ok lo w := by simp [Instr.sliceBound, asIntOf, h1]
  simp [Instr.slice, run_underlying ht, Instr.sliceBounds, g2, sizeOf, typeInfo, hin, hs, cutA]
theorem cutA_zero (A : Option Addr) (c : Nat) : cutA A c 0 = A := by
  unfold cutA
  split
  · rfl
  · cases A <;> simp [Addr.add]

section
variable {w w' : World} {A : Option Addr} {n c : Nat} {l : List UInt8}
theorem Byt.kept {F : Nat → Prop} (h : Byt w A n c l) (k : Kept F w w') (hF : ∀ i, Lies A n i → ¬ F i) : Byt w' A n c l := by
  obtain ⟨h1, h2, h3, h4⟩ := h
  refine ⟨h1, h2, h3, fun hn => ?_⟩
  obtain ⟨b, o, rfl, hc⟩ := h4 hn
  exact ⟨b, o, rfl, fun i hi => k.cell (hc i hi) (hF b ⟨hn, _, rfl, rfl⟩)⟩
theorem Byt.heap (h : Byt w A n c l) (e : w'.heap = w.heap) : Byt w' A n c l := by
  refine ⟨h.1, h.2.1, h.2.2.1, fun hn => ?_⟩
  obtain ⟨b, o, rfl, hc⟩ := h.2.2.2 hn
  exact ⟨b, o, rfl, fun i hi => by have := hc i hi; unfold World.cell? at this ⊢; rw [e]; exact this⟩
theorem Byt.lt (h : Byt w A n c l) : ∀ i, Lies A n i → i < w.heap.size := by
  rintro i ⟨hn, ad, rfl, rfl⟩
  obtain ⟨h1, h2, h3, h4⟩ := h
  obtain ⟨b, o, e, hc⟩ := h4 hn
  have := World.block_lt_of_cell? w _ (hc 0 (by omega))
  cases e
  exact this
theorem Byt.none (w : World) : Byt w none 0 0 [] := ⟨rfl, Nat.le_refl _, by omega, fun h => absurd h (by omega)⟩
theorem Byt.at (h : Byt w A n c l) {i : Nat} (hi : i < l.length) : ∃ b o, A = some ⟨b, o, Option.none⟩ ∧ w.cell? ⟨b, o + i, Option.none⟩ = some (.int .u8 (l[i].toNat : Int)) := by
  obtain ⟨h1, h2, h3, h4⟩ := h
  obtain ⟨b, o, e, hc⟩ := h4 (by omega)
  exact ⟨b, o, e, hc i hi⟩
theorem Byt.cut (h : Byt w A n c l) {lo hi : Nat} (h1 : lo ≤ hi) (h2 : hi ≤ n) : Byt w (cutA A c lo) (hi - lo) (c - lo) ((l.take hi).drop lo) := by
  unfold cutA
  obtain ⟨e1, e2, e3, e4⟩ := h
  refine ⟨by simp; omega, by omega, by omega, fun hn => ?_⟩
  obtain ⟨b, o, rfl, hc⟩ := e4 (by omega)
  refine ⟨b, o + lo, ?_, fun i hi' => ?_⟩
  · rw [if_neg (by omega)]
    simp [Addr.add]
  · have := hc (lo + i) (by simp at hi'; omega)
    simp only [List.getElem_drop, List.getElem_take]
    rw [Nat.add_assoc]
    exact this
theorem Byt.pre (h : Byt w A n c l) {hi : Nat} (h2 : hi ≤ n) : Byt w A hi c (l.take hi) := by
  obtain ⟨e1, e2, e3, e4⟩ := h
  refine ⟨by simp; omega, by omega, e3, fun hn => ?_⟩
  obtain ⟨b, o, rfl, hc⟩ := e4 (by omega)
  exact ⟨b, o, rfl, fun i hi' => by simp at hi'; rw [List.getElem_take]; exact hc i (by omega)⟩
theorem Byt.of_own {base e : Nat} {v : Value} (h : w.ownsRow base e 1 v n (bys l)) : ∃ A c, v = .slice A n c ∧ Byt w A n c l ∧ ∀ i, Lies A n i → base ≤ i := by
  obtain ⟨h1, h2⟩ := h
  have hl : l.length = n := by simpa [bys] using h1
  rcases h2 with ⟨rfl, rfl⟩ | ⟨g, cap, cur, rfl, hb, hg, hnc, hm, hs, ht⟩
  · exact ⟨Option.none, 0, rfl, ⟨hl, Nat.le_refl _, by omega, fun h => absurd h (by omega)⟩, fun i hi => absurd hi.1 (by omega)⟩
  · refine ⟨_, cap, rfl, ⟨hl, hnc, by simpa [maxLen] using hm, fun _ => ⟨g, 0, rfl, fun i hi => ?_⟩⟩, ?_⟩
    · have hu : (bys l)[i]? = some (.int .u8 (l[i].toNat : Int)) := by simp [bys, hi]
      have hci : cur[i]? = some (.int .u8 (l[i].toNat : Int)) := by
        rw [← ht, List.getElem?_take] at hu
        split at hu
        · simpa using hu
        · cases hu
      have hB : Blo w g e cur := hg
      rw [Nat.zero_add, hB.cell]
      exact hci
    · rintro i ⟨_, ad, e', rfl⟩
      cases e'
      exact hb
theorem Lies.cut {lo m : Nat} : ∀ i, Lies (cutA A c lo) m i → 0 < m ∧ ∃ ad, A = some ad ∧ ad.block = i := by
  rintro i ⟨hm, ad, e, rfl⟩
  unfold cutA at e
  refine ⟨hm, ?_⟩
  split at e
  · exact ⟨ad, e, rfl⟩
  · cases A with
    | none => cases e
    | some x =>
      simp at e
      subst e
      exact ⟨x, rfl, by unfold Addr.add; split <;> rfl⟩
end
theorem own_mono {w : World} {B B' e size n : Nat} {v : Value} {xs : List Value} (h : w.ownsRow B e size v n xs) (hB : B' ≤ B) : w.ownsRow B' e size v n xs := by
  refine ⟨h.1, ?_⟩
  rcases h.2 with h2 | ⟨g, cap, cur, hv, hb, r⟩
  · exact .inl h2
  · exact .inr ⟨g, cap, cur, hv, by omega, r⟩
theorem own_kept {w w' : World} {B e size n : Nat} {v : Value} {xs : List Value} {F : Nat → Prop} (h : w.ownsRow B e size v n xs) (k : Kept F w w') (hF : ∀ i, v.ownBlock = some i → ¬ F i) : w'.ownsRow B e size v n xs := by
  refine ⟨h.1, ?_⟩
  rcases h.2 with h2 | ⟨g, cap, cur, rfl, hb, hg, r⟩
  · exact .inl h2
  · exact .inr ⟨g, cap, cur, rfl, hb, (k.block g (Array.getElem?_eq_some_iff.1 hg).1 (hF g rfl)).trans hg, r⟩
/-- What append asks of its source. -/
theorem Byt.news {w : World} {ad : Addr} {n c : Nat} {l : List UInt8} (h : Byt w (some ad) n c l) : ∀ j u, (bys l)[j]? = some u → w.cell? (ad.add j) = some u := by
  intro j u hu
  obtain ⟨h1, h2, h3, h4⟩ := h
  have hj : j < l.length := by
    rcases Nat.lt_or_ge j l.length with h | h
    · exact h
    · rw [List.getElem?_eq_none (by rw [bys_len]; exact h)] at hu; cases hu
  obtain ⟨b, o, e, hc⟩ := h4 (by omega)
  cases e
  have := hc j hj
  have he : u = .int .u8 (l[j].toNat : Int) := by
    have : (bys l)[j]? = some (.int .u8 (l[j].toNat : Int)) := by simp [bys, hj]
    rw [this] at hu
    injection hu with hu
    exact hu.symm
  subst he
  unfold Addr.add
  split
  · rename_i h0; subst h0; simpa using this
  · exact this
theorem pushes (l : List UInt8) (s : ByteArray) : (l.map fun b => (b.toNat : Int)).foldl (fun r n => r.push (UInt8.ofNat n.toNat)) s = ⟨s.data ++ l.toArray⟩ := by
  induction l generalizing s with
  | nil => simp
  | cons b l ih =>
    simp only [List.map_cons, List.foldl_cons]
    rw [ih]
    simp [ByteArray.push]
theorem Byt.text {P : Program} {w : World} {A : Option Addr} {n c : Nat} {l : List UInt8} (h : Byt w A n c l) {src dst e : TypeId}
    (hs : P.underlying src = some (.slice e)) (he : P.underlying e = some (.int .u8)) (hd : P.underlying dst = some .string) :
    (convert src dst (.slice A n c)).run P w = .ok (.string ⟨l.toArray⟩) w := by
  rw [run_convert_bytes_string w src dst e A n c hs he hd]
  cases A with
  | none =>
    have hl : l = [] := by
      rcases Nat.eq_zero_or_pos n with h0 | h0
      · exact List.eq_nil_of_length_eq_zero (by rw [h.1, h0])
      · obtain ⟨b, o, e, _⟩ := h.2.2.2 h0; cases e
    subst hl
    simp [Conv.bytesToString, ByteArray.empty, ByteArray.emptyWithCapacity]
    rfl
  | some a =>
    have hb : bys l = (l.map fun b => (b.toNat : Int)).map (Value.int .u8) := by simp [bys]
    have hload : (loadCells a n).run P w = .ok ((l.map fun b => (b.toNat : Int)).map (Value.int .u8)).toArray w := by
      have := run_loadCells_list (P := P) (w := w) a (bys l) h.news
      rw [bys_len, h.1] at this
      rw [← hb]
      exact this
    rw [run_bytesToString w a n c _ hload, pushes]
    simp [ByteArray.empty, ByteArray.emptyWithCapacity]
    rfl
end Go.Proofs.YtiehmpiaddjhiaaDoor
/- From what is read of an argument to plain data: bytes, numbers, slices of whatever elements. Nothing of the program is named here. -/
namespace Go.Proofs.YtiehmpiaddjhiaaDoor
open Go.RowKit Go.ChangeShapes Go.WideShapes

theorem pick {α : Type} (n : Nat) (P : Nat → α → Prop) (h : ∀ i, i < n → ∃ a, P i a) : ∃ as : List α, as.length = n ∧ ∀ i (hi : i < as.length), P i as[i] := by
  induction n with
  | zero => exact ⟨[], rfl, fun i hi => absurd hi (by simp)⟩
  | succ n ih =>
    obtain ⟨as, hl, hp⟩ := ih fun i hi => h i (by omega)
    obtain ⟨a, ha⟩ := h n (by omega)
    refine ⟨as ++ [a], by simp [hl], fun i hi => ?_⟩
    simp at hi
    by_cases hlt : i < as.length
    · rw [List.getElem_append_left hlt]; exact hp i hlt
    · have : i = as.length := by omega
      subst this
      rw [List.getElem_append_right (by omega)]
      simpa [hl] using ha

section
variable {H : Type} {enc : TypeId × Value → H} {P : Program} {w : World} {base : Nat} {spare : Nat → Bool} {held : Bool} {fuel : Nat} {t e : TypeId} {x : DataW H × List MemPlace}

theorem rd_rows (sz : Nat) (hsz : 0 < sz) (ht : P.underlying t = some (.slice e)) (hc : P.cellsOf e = sz) {v : Value} (h : DataW.trod enc P w base spare held fuel t [v] = some x) :
    ∃ A n c, v = .slice A n c ∧ n ≤ c ∧ c ≤ 9223372036854775807 ∧ (0 < n → ∃ b o, A = some ⟨b, o, none⟩ ∧
      ∀ i, i < n → ∃ cs y fuel', cs.length = sz ∧ (∀ j (hj : j < cs.length), w.cell? ⟨b, o + i * sz + j, none⟩ = some cs[j]) ∧ DataW.trod enc P w base spare held fuel' e cs = some y) := by
  subst hc
  rcases Go.Deep.open_slice ht h with ⟨hcs, _⟩ | ⟨a, len, cap, m, n, D, Pl, hcs, hb, hl, hm, hmm, _, hel⟩
  · simp at hcs
    subst hcs
    exact ⟨none, 0, 0, rfl, Nat.le_refl _, by omega, fun h => absurd h (by omega)⟩
  · simp at hcs
    subst hcs
    have hml : len ≤ m := by rw [hmm]; split <;> omega
    refine ⟨some a, len, cap, rfl, hl, by simpa [maxLen] using hm, fun h0 => ?_⟩
    have each : ∀ i, i < len → ∃ cs y, cs.length = P.cellsOf e ∧ (∀ j (hj : j < cs.length), w.cell? ((a.add (i * P.cellsOf e)).add j) = some cs[j]) ∧ DataW.trod enc P w base spare held n e cs = some y := by
      intro i hi
      obtain ⟨cs, hcs, htr⟩ := hel i (by omega)
      have hs := World.cells?_some hcs
      refine ⟨cs, _, hs.2.1, fun j hj => ?_, htr⟩
      have := hs.2.2 j (by rw [← hs.2.1]; exact hj)
      rw [this]
      exact List.getElem?_eq_getElem hj
    obtain ⟨cs0, y0, hl0, hc0, _⟩ := each 0 h0
    have hspot : a.spot = none := by
      have := World.cell?_spot (hc0 0 (by omega))
      simpa [Addr.add] using this
    have ha : a = ⟨a.block, a.off, none⟩ := by cases a; simp at hspot; simp [hspot]
    refine ⟨a.block, a.off, by rw [← ha], fun i hi => ?_⟩
    obtain ⟨cs, y, h1, h2, h3⟩ := each i hi
    refine ⟨cs, y, n, h1, fun j hj => ?_, h3⟩
    have := h2 j hj
    rw [ha] at this
    unfold Addr.add at this
    by_cases hi0 : i * P.cellsOf e = 0 <;> by_cases hj0 : j = 0 <;> simp [hi0, hj0] at this <;> simpa [hi0, hj0] using this

theorem rd_bytes (ht : P.underlying t = some (.slice e)) (he : P.underlying e = some (.int .u8)) (hc : P.cellsOf e = 1) {v : Value} (h : DataW.trod enc P w base spare held fuel t [v] = some x) :
    ∃ A n c l, v = .slice A n c ∧ Byt w A n c l := by
  obtain ⟨A, n, c, rfl, h1, h2, h3⟩ := rd_rows 1 (by omega) ht hc h
  rcases Nat.eq_zero_or_pos n with h0 | h0
  · subst h0
    exact ⟨A, 0, c, [], rfl, rfl, h1, h2, fun h => absurd h (by omega)⟩
  · obtain ⟨b, o, rfl, hel⟩ := h3 h0
    have : ∀ i, i < n → ∃ u : UInt8, w.cell? ⟨b, o + i, none⟩ = some (.int .u8 (u.toNat : Int)) := by
      intro i hi
      obtain ⟨cs, y, fl, hl, hcell, htr⟩ := hel i hi
      obtain ⟨z, hz, _, hw⟩ := DataW.trod_int he htr
      subst hz
      have := hcell 0 (by simp)
      simp at this
      refine ⟨UInt8.ofNat z.toNat, ?_⟩
      rw [this]
      have : ((UInt8.ofNat z.toNat).toNat : Int) = z := by
        rw [UInt8.toNat_ofNat']
        have := bounds_u8 hw
        omega
      rw [this]
    obtain ⟨l, hl, hp⟩ := pick n _ this
    exact ⟨some ⟨b, o, none⟩, n, c, l, rfl, hl, h1, h2, fun _ => ⟨b, o, rfl, hp⟩⟩

theorem rd_field {fs : Array Field} {cs : List Value} (ht : P.underlying t = some (.struct fs)) (h : DataW.trod enc P w base spare held fuel t cs = some x) (i : Nat) (f : Field) (hf : fs[i]? = some f) (cs' : List Value)
    (hc : (cs.drop f.offset).take (P.cellsOf f.type) = cs') : ∃ n y, DataW.trod enc P w base spare held n f.type cs' = some y := by
  obtain ⟨xs, n, _, _, _, hl, hall⟩ := DataW.trod_struct ht h
  have := hall i f hf
  rw [hc] at this
  have hi : i < xs.length := by
    rw [hl]
    exact (Array.getElem?_eq_some_iff.1 hf).1
  rw [List.getElem?_eq_getElem hi] at this
  exact ⟨n, _, this⟩
theorem rd_nat {k : IntKind} (m : Nat) (ht : P.underlying t = some (.int k)) (hk : ∀ n, (Lit.int k n).wf = true → 0 ≤ n ∧ n ≤ (m : Int)) {c : Value} (h : DataW.trod enc P w base spare held fuel t [c] = some x) : ∃ n : Nat, c = .int k (n : Int) ∧ n ≤ m := by
  obtain ⟨z, hz, _, hw⟩ := DataW.trod_int ht h
  have hb := hk z hw
  obtain ⟨n, rfl⟩ := Int.eq_ofNat_of_zero_le hb.1
  simp at hz
  exact ⟨n, hz, by omega⟩
end
theorem wfu8 (n : Int) (h : (Lit.int .u8 n).wf = true) : 0 ≤ n ∧ n ≤ ((255 : Nat) : Int) := by simp [Lit.wf, IntKind.min, IntKind.max, IntKind.signed, IntKind.bits] at h; omega
theorem wfu16 (n : Int) (h : (Lit.int .u16 n).wf = true) : 0 ≤ n ∧ n ≤ ((65535 : Nat) : Int) := by simp [Lit.wf, IntKind.min, IntKind.max, IntKind.signed, IntKind.bits] at h; omega
theorem wfu32 (n : Int) (h : (Lit.int .u32 n).wf = true) : 0 ≤ n ∧ n ≤ ((4294967295 : Nat) : Int) := by simp [Lit.wf, IntKind.min, IntKind.max, IntKind.signed, IntKind.bits] at h; omega
end Go.Proofs.YtiehmpiaddjhiaaDoor
