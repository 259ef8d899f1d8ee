/- A pad beside a row of bytes that the law keeps itself: how the two are carried from call to call (for CutLays). -/
import Derived.Test.YtjfffddaiefggaaRefB
import Derived.Test.YtjfffddaiefggaaPadC
import Derived.Test.YtjfffddaiefggaaMem3
import Derived.Test.YtjfffddaiefggaaActs
import Derived.Test.YtjfffddaiefggaaSum
import Derived.Laws.IdiomCopy
namespace Go.Proofs.Ytjfffddaiefggaa
open Go.RowKit
set_option linter.unusedVariables false

/-- The pad g holds l; the value vw owns a row that reads as lw; they lie apart, both in memory that was made since w0. -/
structure Lays (w0 w : World) (g : Nat) (v vw : Value) (l lw : List UInt8) : Prop where
  pad : Padd w g g v l
  own : w.ownsRow g 5 1 vw lw.length (bys lw)
  apart : ∀ i, vw.ownBlock = some i → ¬ foot g v i
  kept : Kept Nil w0 w
  ge : w0.heap.size ≤ g

section
variable {w0 w w' : World} {g : Nat} {v v' vw vw' : Value} {l l' lw lw' : List UInt8}
theorem Lays.size (h : Lays w0 w g v vw l lw) : g ≤ w.heap.size := Nat.le_of_lt h.pad.blo.lt
theorem Lays.alloc (h : Lays w0 w g v vw l lw) (k : Kept Nil w w') : Lays w0 w' g v vw l lw :=
  ⟨h.pad.kept k (fun _ _ hf => hf), own_kept h.own k (fun _ _ hf => hf), h.apart, h.kept.then k, h.ge⟩
theorem Lays.heap (h : Lays w0 w g v vw l lw) (e : w'.heap = w.heap) (k : Kept Nil w0 w') : Lays w0 w' g v vw l lw :=
  ⟨⟨h.pad.blo.heap e, own_kept (w := w) (F := Nil) h.pad.own ⟨k.os.trans h.kept.os.symm, k.tape.trans h.kept.tape.symm, k.output.trans h.kept.output.symm, by rw [e]; exact Nat.le_refl _, fun _ _ _ => by rw [e]⟩ (fun _ _ hf => hf), h.pad.ge⟩,
    own_kept (w := w) (F := Nil) h.own ⟨k.os.trans h.kept.os.symm, k.tape.trans h.kept.tape.symm, k.output.trans h.kept.output.symm, by rw [e]; exact Nat.le_refl _, fun _ _ _ => by rw [e]⟩ (fun _ _ hf => hf), h.apart, k, h.ge⟩
theorem Lays.pad' (h : Lays w0 w g v vw l lw) (p : Padd w' g g v' l') (k : Kept (foot g v) w w') (n : Newer w.heap.size v v') : Lays w0 w' g v' vw l' lw := by
  refine ⟨p, own_kept h.own k h.apart, fun i hi hf => ?_, h.kept.fresh k (fun i hi => Nat.le_trans h.ge (h.pad.foot_ge _ hi)), h.ge⟩
  rcases hf with hf | hf
  · exact h.apart i hi (.inl hf)
  · rcases n i hf with hq | hq
    · exact h.apart i hi (.inr hq)
    · have := (h.own.lt i hi).2
      omega
theorem Lays.want' (h : Lays w0 w g v vw l lw) (o : w'.ownsRow g 5 1 vw' lw'.length (bys lw')) (k : Kept (fun i => vw.ownBlock = some i) w w') (n : vw'.ownBlock = vw.ownBlock ∨ vw'.ownBlock = some w.heap.size) : Lays w0 w' g v vw' l lw' := by
  refine ⟨h.pad.kept k (fun i hi hf => h.apart i hf hi), o, fun i hi hf => ?_, h.kept.fresh k (fun i hi => Nat.le_trans h.ge (h.own.lt i hi).1), h.ge⟩
  rcases n with n | n
  · exact h.apart i (n ▸ hi) hf
  · rw [n] at hi
    cases hi
    have := h.pad.foot_lt _ hf
    omega
theorem Lays.grown {m : Nat} (h : Lays w0 w g v vw l lw) (hm : lw'.length = m) (o : w'.ownsRow g 5 1 vw' (lw.length + m) (bys lw ++ bys lw')) (k : w.grownBy w' vw.ownBlock) (n : vw'.ownBlock = vw.ownBlock ∨ vw'.ownBlock = some w.heap.size) : Lays w0 w' g v vw' l (lw ++ lw') :=
  h.want' (by rw [bys_app, List.length_append, hm]; exact o) ((Kept.refl _ w).grown k (fun i hi _ => hi)) n
theorem Lays.far {b : Nat} (h : Lays w0 w g v vw l lw) (k : Kept (One b) w w') (hb : w0.heap.size ≤ b) (hf : ¬ foot g v b) (hw : vw.ownBlock ≠ some b) : Lays w0 w' g v vw l lw :=
  ⟨h.pad.kept k (fun i hi hq => hf (hq ▸ hi)), own_kept h.own k (fun i hi hq => hw (hq ▸ hi)), h.apart, h.kept.fresh k (fun i hi => hi ▸ hb), h.ge⟩
end

/-- Two bytes laid over a row. -/
theorem two_set (l : List UInt8) (k x : Nat) (h : k + 2 ≤ l.length) : ((bys l).set k (.int .u8 ((UInt8.ofNat (x / 256)).toNat : Int))).set (k + 1) (.int .u8 ((UInt8.ofNat x).toNat : Int)) = bys ((l.set k (UInt8.ofNat (x / 256))).set (k + 1) (UInt8.ofNat x)) := by
  rw [bys_set, bys_set]
theorem bem2 (x : Nat) : beM 2 x = [UInt8.ofNat (x / 256), UInt8.ofNat x] := by simp [beM, List.range_succ]

/-- copy of two bytes into a row of the call's own. -/
theorem run_copy2 {P : Program} {w : World} {B : Nat} {e dT sT ty : TypeId} (hu : P.underlying dT = some (.slice e)) (hs : (P.info? e).map (·.size) = some 1) {r : Nat} {l : List UInt8} {n c k d dc m sc x : Nat} (hown : w.ownsRow B e 1 (.slice (some ⟨r, 0, none⟩) n c) n (bys l)) (hn : l.length = n)
    (hk : k + 2 ≤ n) (hd : d = n - k) {A : Option Addr} (hb : Byt w A 2 sc (beM 2 x)) :
    ∃ w', (Builtin.copy_ #[dT, sT] ty #[.slice (some ⟨r, k, none⟩) d dc, .slice A 2 sc]).run P w = .ok (goInt 2) w' ∧
      w'.ownsRow B e 1 (.slice (some ⟨r, 0, none⟩) n c) n (bys ((l.set k (UInt8.ofNat (x / 256))).set (k + 1) (UInt8.ofNat x))) ∧ Kept (One r) w w' := by
  obtain ⟨ad, rfl⟩ : ∃ ad, A = some ad := by
    obtain ⟨b, o, e, _⟩ := hb.2.2.2 (by omega)
    exact ⟨_, e⟩
  have hrow : ∀ j, j < l.length → (w.cell? ⟨r, 0 + j, none⟩).isSome = true := fun j hj => by
    have := hown.cellAt j (by omega)
    rw [show (0 + j) = j from by omega, this]
    simp [bys, hj]
  have hrun := run_copy_cells (P := P) w dT sT ty e r k d dc ad 2 sc (bys (beM 2 x)) hu hs (by rw [bys_len, beM_len]; show 2 = min 2 d; omega) hb.news
    (fun j hj => by rw [bys_len, beM_len] at hj; have := hrow (k + j) (by omega); rw [show 0 + (k + j) = k + j from by omega] at this; exact this) (fun j _ => by have := hown.frozenAt (k + j); exact this) (bys_one _)
  rw [bys_len, beM_len] at hrun
  have hset : w.setCells r k (bys (beM 2 x)) = (w.setCell ⟨r, k, none⟩ (.int .u8 ((UInt8.ofNat (x / 256)).toNat : Int))).setCell ⟨r, k + 1, none⟩ (.int .u8 ((UInt8.ofNat x).toNat : Int)) := by
    rw [bem2]; rfl
  rw [hset] at hrun
  refine ⟨_, hrun, ?_, ((Kept.refl (One r) w).put rfl _).put rfl _⟩
  have o1 := (hown.stored k (.int .u8 ((UInt8.ofNat (x / 256)).toNat : Int))).1
  have o2 := (o1.stored (k + 1) (.int .u8 ((UInt8.ofNat x).toNat : Int))).1
  rw [two_set l k x (by omega)] at o2
  exact o2
theorem step_copy2 {P : Program} {ops : Array Oper} {o : Oper} {a : Act} {w : World} {K : Act → World → Prop} {Q : Exit → Act → World → Prop} {E : Prop} (hgd : o.guard = none) (dd s : Operand) {B : Nat} {e dT sT : TypeId}
    (ho : o.op = .call { callee := .builtin .copy, args := #[dd, s], argTypes := #[dT, sT] }) (hu : P.underlying dT = some (.slice e)) (hs : (P.info? e).map (·.size) = some 1) {r : Nat} {l : List UInt8} {n c k d dc sc x : Nat} (hown : w.ownsRow B e 1 (.slice (some ⟨r, 0, none⟩) n c) n (bys l)) (hn : l.length = n)
    (hk : k + 2 ≤ n) (hd : d = n - k) {A : Option Addr} (hb : Byt w A 2 sc (beM 2 x)) (e1 : a.eval dd = .slice (some ⟨r, k, none⟩) d dc) (e2 : a.eval s = .slice A 2 sc)
    (h : ∀ w', w'.ownsRow B e 1 (.slice (some ⟨r, 0, none⟩) n c) n (bys ((l.set k (UInt8.ofNat (x / 256))).set (k + 1) (UInt8.ofNat x))) → Kept (One r) w w' → K (a.put o.dst (goInt 2)) w') :
    if Region.wanted o (yielded ops a.tmps) = true then Oper.wp P o a w K Q else E := by
  have hw : Region.wanted o (yielded ops a.tmps) = true := by simp [Region.wanted, hgd]
  rw [if_pos hw]
  obtain ⟨w', hr, h2, h3⟩ := run_copy2 (P := P) (ty := o.type) (sT := sT) (dc := dc) hu hs (m := 0) hown hn hk hd hb
  unfold Oper.wp execOp
  simp only [ho, resolve, invoke, builtin, Sem.run_bind, Sem.run_pure, Result.andThen_ok, List.map_toArray, List.map_cons, List.map_nil, e1, e2, hr]
  exact h w' h2 h3

/-- Several values written out where they are laid: the cells in the walk's own spelling. -/
theorem PByte_cs (B g s n : Nat) (v : Value) (l : List UInt8) (xs : List Nat) (cs : Array Value) (hcs : cs = (xs.map fun x : Nat => Value.int .u8 (x : Int)).toArray) (hn : xs.length = n) (w : World) (t : TypeId) (hs : s = w.heap.size) (h : Padd w B g v l) (hB : B ≤ w.heap.size) (hbd : l.length + xs.length * 1 ≤ 1099511627776) (hx : ∀ x ∈ xs, x < 256 ^ 1) :
    Calls Try.prog 30 #[.pointer (some ⟨g, 0, none⟩), .slice (some ⟨s, 0, none⟩) n n] (w.alloc (.cells cs t)) fun e w' =>
      ∃ v', e = .returned (.pointer (some ⟨g, 0, none⟩)) ∧ Padd w' B g v' (l ++ beAll 1 xs) ∧ Kept (foot g v) w w' ∧ Newer w.heap.size v v' := by
  subst hcs hs hn
  exact PByte_lit B g v l xs w t h hB hbd hx
theorem PFour_cs (B g s n : Nat) (v : Value) (l : List UInt8) (xs : List Nat) (cs : Array Value) (hcs : cs = (xs.map fun x : Nat => Value.int .u32 (x : Int)).toArray) (hn : xs.length = n) (w : World) (t : TypeId) (hs : s = w.heap.size) (h : Padd w B g v l) (hB : B ≤ w.heap.size) (hbd : l.length + xs.length * 4 ≤ 1099511627776) (hx : ∀ x ∈ xs, x < 256 ^ 4) :
    Calls Try.prog 33 #[.pointer (some ⟨g, 0, none⟩), .slice (some ⟨s, 0, none⟩) n n] (w.alloc (.cells cs t)) fun e w' =>
      ∃ v', e = .returned (.pointer (some ⟨g, 0, none⟩)) ∧ Padd w' B g v' (l ++ beAll 4 xs) ∧ Kept (foot g v) w w' ∧ Newer w.heap.size v v' := by
  subst hcs hs hn
  exact PFour_lit B g v l xs w t h hB hbd hx
theorem Byt.of_blo {w : World} {g : Nat} {t : TypeId} {l : List UInt8} (h : Blo w g t (bys l).toArray) (hl : l.length ≤ 9223372036854775807) : Byt w (some ⟨g, 0, Option.none⟩) l.length l.length l := by
  refine ⟨rfl, Nat.le_refl _, hl, fun _ => ⟨g, 0, rfl, fun i hi => ?_⟩⟩
  rw [h.cell]
  simp [bys, hi]
theorem cutA_lt {r d k : Nat} (h : k < d) : cutA (some ⟨r, 0, none⟩) d k = some ⟨r, k, none⟩ := by
  unfold cutA
  rw [if_neg (by omega)]
  simp [Addr.add]
  omega
theorem Fill_at (B g : Nat) (v : Value) (l : List UInt8) (k x : Nat) (z : Int) (hz : z = (x : Int)) (w : World) (h : Padd w B g v l) (hl : l.length ≤ 140737488355328) (hk : k + 2 ≤ l.length) (hx : x < 65536) :
    Calls Try.prog 35 #[.pointer (some ⟨g, 0, none⟩), .int .i64 (k : Int), .int .u16 z] w fun e w' =>
      e = .returned (.int .i64 0) ∧ Padd w' B g v ((l.set k (UInt8.ofNat (x / 256))).set (k + 1) (UInt8.ofNat x)) ∧ Kept (foot g v) w w' := by
  subst hz
  exact Fill_ok B g v l k x w h hl hk hx
theorem rbytes2_at (x : Nat) (z : Int) (hz : z = (x : Int)) (w : World) (hx : x < 4294967296) :
    Calls Try.prog 32 #[.int .u32 z, .int .i64 2] w fun e w' => ∃ v, e = .returned v ∧ Made w w' v (beM 2 x) := by
  subst hz
  exact rbytes2 x w hx
theorem rbytes4_at (x : Nat) (z : Int) (hz : z = (x : Int)) (w : World) (hx : x < 4294967296) :
    Calls Try.prog 32 #[.int .u32 z, .int .i64 4] w fun e w' => ∃ v, e = .returned v ∧ Made w w' v (beM 4 x) := by
  subst hz
  exact rbytes4 x w hx
theorem rowz2b (w : World) (A A' : Option Addr) (n c n' c' : Nat) (l l' : List UInt8) (h : Byt w A n c l) (h' : Byt w A' n' c' l') (s : Nat) (hs : s = w.heap.size) : Rowz (w.alloc (.cells #[.slice A n c, .slice A' n' c'] 22)) (some ⟨s, 0, none⟩) 2 2 [l, l'] := by
  subst hs
  refine ⟨rfl, Nat.le_refl _, by omega, fun _ => ⟨w.heap.size, 0, rfl, fun i hi => ?_⟩⟩
  rcases (show i = 0 ∨ i = 1 by simp at hi; omega) with rfl | rfl
  · exact ⟨A, n, c, (Blo.new w 22 _).cell 0, h.kept ((Kept.refl Nil _).alloc _) (fun _ _ hf => hf)⟩
  · exact ⟨A', n', c', (Blo.new w 22 _).cell 1, h'.kept ((Kept.refl Nil _).alloc _) (fun _ _ hf => hf)⟩
theorem lays_step {w0 w w' : World} {g ga m n : Nat} {T : TypeId} {cs : Array Value} {v vw vw' : Value} {l lw lw' : List UInt8} (h : Lays w0 w g v vw l lw) (hb : Blo w ga T cs) (hlw : lw.length = n) (hm : lw'.length = m) (o : w'.ownsRow g 5 1 vw' (n + m) (bys lw ++ bys lw')) (k : w.grownBy w' vw.ownBlock) (hn : vw'.ownBlock = vw.ownBlock ∨ vw'.ownBlock = some w.heap.size) (hg : ∀ i, vw.ownBlock = some i → i ≠ ga) :
    Blo w' ga T cs ∧ Lays w0 w' g v vw' l (lw ++ lw') := by
  subst hlw
  have hk : Kept (fun i => vw.ownBlock = some i) w w' := (Kept.refl _ w).grown k (fun i hi _ => hi)
  exact ⟨hb.kept hk (fun hf => hg _ hf rfl), h.grown hm o k hn⟩
end Go.Proofs.Ytjfffddaiefggaa
