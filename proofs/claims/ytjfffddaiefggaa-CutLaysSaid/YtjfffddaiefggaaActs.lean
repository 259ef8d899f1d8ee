/- tolllaw01's acts as plain data, read off an argument; the two cutters side by side. -/
import Derived.Test.YtjfffddaiefggaaRefA
import Derived.Test.YtjfffddaiefggaaFrame
namespace Go.Proofs.Ytjfffddaiefggaa
open Go.RowKit
set_option linter.unusedVariables false

/-- A wall round a goal: what is proved behind it is a declaration of its own, and nobody looks through it. -/
structure Walled (p : Prop) : Prop where
  out : p

/-- An act, as it lies in memory. -/
structure AcD where
  what : Int
  n : Int
  v : Nat
  B : Option Addr
  bn : Nat
  bc : Nat
  b : List UInt8

structure AcOk (w : World) (t : AcD) : Prop where
  n0 : -9223372036854775808 ≤ t.n
  n1 : t.n ≤ 9223372036854775807
  vd : t.v < 4294967296
  byt : Byt w t.B t.bn t.bc t.b

def Acts (w : World) (A : Option Addr) (n c : Nat) (ts : List AcD) : Prop :=
  ts.length = n ∧ n ≤ c ∧ c ≤ 9223372036854775807 ∧ (∀ t ∈ ts, AcOk w t) ∧ (0 < n → ∃ b o, A = some ⟨b, o, none⟩ ∧ ∀ i (h : i < ts.length),
    w.cell? ⟨b, o + i * 4, none⟩ = some (.int .i64 ts[i].what) ∧ w.cell? ⟨b, o + i * 4 + 1, none⟩ = some (.int .i64 ts[i].n) ∧ w.cell? ⟨b, o + i * 4 + 2, none⟩ = some (.int .u32 (ts[i].v : Int)) ∧ w.cell? ⟨b, o + i * 4 + 3, none⟩ = some (.slice ts[i].B ts[i].bn ts[i].bc))
theorem Acts.kept {w w' : World} {A : Option Addr} {n c : Nat} {ts : List AcD} (h : Acts w A n c ts) (q : Kept Nil w w') : Acts w' A n c ts := by
  refine ⟨h.1, h.2.1, h.2.2.1, fun t ht => ?_, fun hn => ?_⟩
  · have := h.2.2.2.1 t ht
    exact ⟨this.n0, this.n1, this.vd, this.byt.kept q (fun _ _ hf => hf)⟩
  · obtain ⟨b, o, rfl, hc⟩ := h.2.2.2.2 hn
    exact ⟨b, o, rfl, fun i hi => ⟨q.cell (hc i hi).1 (fun hf => hf), q.cell (hc i hi).2.1 (fun hf => hf), q.cell (hc i hi).2.2.1 (fun hf => hf), q.cell (hc i hi).2.2.2 (fun hf => hf)⟩⟩

section
variable {H : Type} {enc : TypeId × Value → H} {w : World} {base : Nat} {spare : Nat → Bool} {held : Bool} {fuel : Nat} {x : DataW H × List MemPlace}
theorem rd_i64 {P : Program} {t : TypeId} (ht : P.underlying t = some (.int .i64)) {c : Value} (h : DataW.trod enc P w base spare held fuel t [c] = some x) : ∃ n : Int, c = .int .i64 n ∧ -9223372036854775808 ≤ n ∧ n ≤ 9223372036854775807 := by
  obtain ⟨z, hz, _, hw⟩ := DataW.trod_int ht h
  simp at hz
  simp [Lit.wf, IntKind.min, IntKind.max, IntKind.signed, IntKind.bits] at hw
  exact ⟨z, hz, by omega, by omega⟩
theorem rd_acts {v : Value} (h : DataW.trod enc Try.prog w base spare held fuel 23 [v] = some x) : ∃ A n c ts, v = .slice A n c ∧ Acts w A n c ts := by
  obtain ⟨A, n, c, rfl, h1, h2, h3⟩ := rd_rows 4 (by omega) Try.underlying23 (by kernel_rfl) h
  rcases Nat.eq_zero_or_pos n with h0 | h0
  · subst h0
    exact ⟨A, 0, c, [], rfl, rfl, h1, h2, by simp, fun h => absurd h (by omega)⟩
  · obtain ⟨b, o, rfl, hel⟩ := h3 h0
    have each : ∀ i, i < n → ∃ t : AcD, AcOk w t ∧ w.cell? ⟨b, o + i * 4, none⟩ = some (.int .i64 t.what) ∧ w.cell? ⟨b, o + i * 4 + 1, none⟩ = some (.int .i64 t.n) ∧ w.cell? ⟨b, o + i * 4 + 2, none⟩ = some (.int .u32 (t.v : Int)) ∧ w.cell? ⟨b, o + i * 4 + 3, none⟩ = some (.slice t.B t.bn t.bc) := by
      intro i hi
      obtain ⟨cs, y, fl, hl, hcell, htr⟩ := hel i hi
      match cs, hl with
      | [c0, c1, c2, c3], _ =>
        have q0 := hcell 0 (by simp)
        have q1 := hcell 1 (by simp)
        have q2 := hcell 2 (by simp)
        have q3 := hcell 3 (by simp)
        simp at q0 q1 q2 q3
        obtain ⟨n0, y0, t0⟩ := rd_field Try.underlying32 htr 0 _ rfl [c0] (by kernel_rfl)
        obtain ⟨n1, y1, t1⟩ := rd_field Try.underlying32 htr 1 _ rfl [c1] (by kernel_rfl)
        obtain ⟨n2, y2, t2⟩ := rd_field Try.underlying32 htr 2 _ rfl [c2] (by kernel_rfl)
        obtain ⟨n3, y3, t3⟩ := rd_field Try.underlying32 htr 3 _ rfl [c3] (by kernel_rfl)
        obtain ⟨wh, rfl, hw0, hw1⟩ := rd_i64 Try.underlying3 t0
        obtain ⟨nn, rfl, hn0, hn1⟩ := rd_i64 Try.underlying3 t1
        obtain ⟨vd, rfl, hvd⟩ := rd_nat 4294967295 Try.underlying30 wfu32 t2
        obtain ⟨B, bn, bc, bl, rfl, hby⟩ := rd_bytes Try.underlying22 Try.underlying5 (by kernel_rfl) t3
        exact ⟨⟨wh, nn, vd, B, bn, bc, bl⟩, ⟨hn0, hn1, by simp; omega, hby⟩, q0, q1, q2, q3⟩
    obtain ⟨ts, hl, hp⟩ := pick n _ each
    refine ⟨some ⟨b, o, none⟩, n, c, ts, rfl, hl, h1, h2, fun t ht => ?_, fun _ => ⟨b, o, rfl, fun i hi => (hp i hi).2⟩⟩
    obtain ⟨i, hi, rfl⟩ := List.getElem_of_mem ht
    exact (hp i hi).1
end

/-- The program's cutter and the reference's, side by side. -/
structure Both (w0 w : World) (g : Nat) (A : Option Addr) (n c : Nat) (s : Cst) (g2 : Nat) (B : Option Addr) (d : Nat) (t : Cst) : Prop where
  cut : Cutr w g A n c s
  ref : Refr w g2 B n d t
  ne : g ≠ g2
  ge : w0.heap.size ≤ g
  ge2 : w0.heap.size ≤ g2
  ap : ∀ i, Lies A n i → i ≠ g2
  lt : ∀ i, Lies B n i → i < w0.heap.size
  kept : Kept Nil w0 w
section
variable {w0 w w' : World} {g n c g2 d : Nat} {A B : Option Addr} {s s' t t' : Cst}
theorem Both.alloc (h : Both w0 w g A n c s g2 B d t) (k : Kept Nil w w') : Both w0 w' g A n c s g2 B d t :=
  ⟨h.cut.kept k (fun hf => hf) (fun _ _ hf => hf), h.ref.kept k (fun hf => hf) (fun _ _ hf => hf), h.ne, h.ge, h.ge2, h.ap, h.lt, h.kept.then k⟩
theorem Both.cut' (h : Both w0 w g A n c s g2 B d t) (c' : Cutr w' g A n c s') (k : Kept (One g) w w') : Both w0 w' g A n c s' g2 B d t :=
  ⟨c', h.ref.kept k (fun e => h.ne e.symm) (fun i hi e => by have := h.lt i hi; have := h.ge; cases e; omega), h.ne, h.ge, h.ge2, h.ap, h.lt, h.kept.fresh k (fun i e => by cases e; exact h.ge)⟩
theorem Both.ref' (h : Both w0 w g A n c s g2 B d t) (c' : Refr w' g2 B n d t') (k : Kept (One g2) w w') : Both w0 w' g A n c s g2 B d t' :=
  ⟨h.cut.kept k (fun e => h.ne e) (fun i hi e => h.ap i hi e), c', h.ne, h.ge, h.ge2, h.ap, h.lt, h.kept.fresh k (fun i e => by cases e; exact h.ge2)⟩
theorem Both.heap (h : Both w0 w g A n c s g2 B d t) (e : w'.heap = w.heap) (k : Kept Nil w0 w') : Both w0 w' g A n c s g2 B d t :=
  ⟨h.cut.heap e, h.ref.heap e, h.ne, h.ge, h.ge2, h.ap, h.lt, k⟩
theorem Both.far {b : Nat} (h : Both w0 w g A n c s g2 B d t) (k : Kept (One b) w w') (hb : w0.heap.size ≤ b) (hg : b ≠ g) (hg2 : b ≠ g2) (hA : ∀ i, Lies A n i → i ≠ b) : Both w0 w' g A n c s g2 B d t :=
  ⟨h.cut.kept k (fun e => hg e.symm) (fun i hi e => hA i hi e), h.ref.kept k (fun e => hg2 e.symm) (fun i hi e => by have := h.lt i hi; cases e; omega), h.ne, h.ge, h.ge2, h.ap, h.lt, h.kept.fresh k (fun i e => by cases e; exact hb)⟩
end
/-- What the program's Take leaves, in a region that draws its order. -/
theorem arm_cut {w0 wa W w5 : World} {g n c g2 d ga T q m : Nat} {A B : Option Addr} {s s' t : Cst} {cs : Array Value} {v5 : Value} {r : List UInt8} (h : Both w0 wa g A n c s g2 B d t) (hb : Blo wa ga T cs) (hga : ga ≠ g) (hW : W = wa.drewN q) (hm : r.length = m)
    (ho : w5.ownsRow W.heap.size 5 1 v5 r.length (bys r)) (hc : Cutr w5 g A n c s') (hk : Kept (One g) W w5) :
    w5.cell? ⟨ga, 1, none⟩ = cs[1]? ∧ Hid (Both w0 w5 g A n c s' g2 B d t) ∧ ∃ A5 c5, v5 = .slice A5 m c5 ∧ Hid (Byt w5 A5 m c5 r ∧ ∀ i, Lies A5 m i → i ≠ g2) := by
  subst hW
  have hk' : Kept (One g) wa w5 := ((Kept.refl (One g) wa).drewN q).same hk
  rw [hm] at ho
  obtain ⟨A5, c5, hv, hby, hl⟩ := Byt.of_own ho
  refine ⟨(hb.kept hk' (fun e => hga e)).cell 1, h.cut' hc hk', A5, c5, hv, hby, fun i hi => ?_⟩
  have h1 := hl i hi
  have h2 := h.ref.blo.lt
  have h3 : (wa.drewN q).heap.size = wa.heap.size := rfl
  omega
/-- What the reference's Take leaves behind it. -/
theorem arm_ref {w0 w5 W w6 : World} {g n c g2 d q m m5 c5 : Nat} {A B A5 : Option Addr} {s t t' : Cst} {v6 : Value} {r r5 : List UInt8} (h : Both w0 w5 g A n c s g2 B d t) (hW : W = w5.drewN q) (hm : r.length = m) (h5 : Byt w5 A5 m5 c5 r5 ∧ ∀ i, Lies A5 m5 i → i ≠ g2)
    (ho : w6.ownsRow W.heap.size 5 1 v6 r.length (bys r)) (hr : Refr w6 g2 B n d t') (hk : Kept (One g2) W w6) :
    Hid (Both w0 w6 g A n c s g2 B d t') ∧ Hid (Byt w6 A5 m5 c5 r5) ∧ ∃ A6 c6, v6 = .slice A6 m c6 ∧ Hid (Byt w6 A6 m c6 r) := by
  subst hW
  have hk' : Kept (One g2) w5 w6 := ((Kept.refl (One g2) w5).drewN q).same hk
  rw [hm] at ho
  obtain ⟨A6, c6, hv, hby, hl⟩ := Byt.of_own ho
  exact ⟨h.ref' hr hk', h5.1.kept hk' (fun i hi e => h5.2 i hi e), A6, c6, hv, hby⟩
/-- A store into a row of bytes of the call's own. -/
theorem own_put {w : World} {B e n c : Nat} {A : Option Addr} {zs : List Int} (h : w.ownsRow B e 1 (.slice A n c) n (zs.map (Value.int .u8))) {k : Nat} (hk : k < n) :
    ∃ b, A = some ⟨b, 0, none⟩ ∧ B ≤ b ∧ b < w.heap.size ∧ ∃ z, w.cell? ⟨b, k, none⟩ = some (.int .u8 z) ∧ w.frozen? ⟨b, k, none⟩ = false ∧
      ∀ z', (w.setCell ⟨b, k, none⟩ (.int .u8 z')).ownsRow B e 1 (.slice A n c) n ((zs.set k z').map (Value.int .u8)) := by
  have hlen : zs.length = n := by have := h.1; simpa using this
  rcases h.2 with ⟨_, h0⟩ | ⟨g, cap, cur, hv, hb, hg, h1, h2, h3, h4⟩
  · omega
  · injection hv with hv1 hv2 hv3
    subst hv1 hv3
    have hB : Blo w g e cur := hg
    have hcur : cur[k]? = some (.int .u8 zs[k]) := by
      have : (cur.toList.take (n * 1))[k]? = some (.int .u8 zs[k]) := by rw [h4]; simp [hlen, hk]
      rw [List.getElem?_take, if_pos (by omega)] at this
      simpa using this
    refine ⟨g, rfl, hb, hB.lt, zs[k], by rw [hB.cell]; exact hcur, hB.frozen k, fun z' => ⟨by simpa using hlen, .inr ⟨g, c, _, rfl, hb, hB.set k _, h1, h2, by simpa using h3, ?_⟩⟩⟩
    simp only [Nat.mul_one] at h4 ⊢
    rw [Array.toList_setIfInBounds, List.take_set, h4, List.map_set]
end Go.Proofs.Ytjfffddaiefggaa
