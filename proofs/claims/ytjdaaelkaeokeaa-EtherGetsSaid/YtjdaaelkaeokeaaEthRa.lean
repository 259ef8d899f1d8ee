/- tollref04.Get: what its stores turn. -/
import Derived.Test.YtjdaaelkaeokeaaEthS
import Derived.Test.YtjdaaelkaeokeaaEthE
namespace Go.Proofs.Ytjdaaelkaeokeaa
open Go.RowKit Go.Sort
set_option linter.unusedVariables false

theorem set_mid (pre post : List Value) (m : List UInt8) (q : Nat) (c : UInt8) (p : Nat) (hp : pre.length = p) (hq : q < m.length) (cs : List Value) (hcs : cs = pre ++ (bys m ++ post)) :
    cs.take (p + q) ++ [Value.int .u8 (c.toNat : Int)] ++ cs.drop (p + q + 1) = pre ++ (bys (m.set q c) ++ post) := by
  subst hp hcs
  have hq' : q < (bys m).length := by rw [bys_len]; exact hq
  have e : pre ++ (bys (m.set q c) ++ post) = (pre ++ (bys m ++ post)).set (pre.length + q) (Value.int .u8 (c.toNat : Int)) := by
    rw [List.set_append_right _ _ (by omega), Nat.add_sub_cancel_left, List.set_append_left _ _ hq']
    congr 2
    unfold bys
    rw [List.map_set]
  rw [e, List.set_eq_take_append_cons_drop, if_pos (by simp only [List.length_append]; omega)]
  simp
section
variable {f : Fr} {vt vb vr : Value} {w : World} {g : Nat} {T : TypeId}
theorem FB.set_dq (q : Nat) (c : UInt8) (hq : q < 6) (hf : f.six) (h : Blo w g T ((fcs f vt vb vr).take q ++ [Value.int .u8 (c.toNat : Int)] ++ (fcs f vt vb vr).drop (q + 1)).toArray) : FB w g T { f with d := f.d.set q c } vt vb vr := by
  have := set_mid [] (bys f.s ++ ([vt, .int .i64 f.k, .int .i64 f.y] ++ (bys f.l ++ (bys f.o ++ [vb, vr])))) f.d q c 0 rfl (by rw [hf.d]; exact hq) _ rfl
  rw [Nat.zero_add] at this
  unfold FB
  rw [show fcs { f with d := f.d.set q c } vt vb vr = [] ++ (bys (f.d.set q c) ++ (bys f.s ++ ([vt, .int .i64 f.k, .int .i64 f.y] ++ (bys f.l ++ (bys f.o ++ [vb, vr]))))) from rfl, ← this]
  exact h
theorem FB.set_sq (q : Nat) (c : UInt8) (hq : q < 6) (hf : f.six) (h : Blo w g T ((fcs f vt vb vr).take (6 + q) ++ [Value.int .u8 (c.toNat : Int)] ++ (fcs f vt vb vr).drop (6 + q + 1)).toArray) : FB w g T { f with s := f.s.set q c } vt vb vr := by
  have := set_mid (bys f.d) ([vt, .int .i64 f.k, .int .i64 f.y] ++ (bys f.l ++ (bys f.o ++ [vb, vr]))) f.s q c 6 (by rw [bys_len]; exact hf.d) (by rw [hf.s]; exact hq) _ rfl
  unfold FB
  rw [show fcs { f with s := f.s.set q c } vt vb vr = bys f.d ++ (bys (f.s.set q c) ++ ([vt, .int .i64 f.k, .int .i64 f.y] ++ (bys f.l ++ (bys f.o ++ [vb, vr])))) from rfl, ← this]
  exact h
theorem FB.set_lq (q : Nat) (c : UInt8) (hq : q < 3) (hf : f.six) (h : Blo w g T ((fcs f vt vb vr).take (15 + q) ++ [Value.int .u8 (c.toNat : Int)] ++ (fcs f vt vb vr).drop (15 + q + 1)).toArray) : FB w g T { f with l := f.l.set q c } vt vb vr := by
  have := set_mid (bys f.d ++ (bys f.s ++ [vt, Value.int .i64 f.k, Value.int .i64 f.y])) (bys f.o ++ [vb, vr]) f.l q c 15 (by simp only [List.length_append, bys_len, hf.d, hf.s]; rfl) (by rw [hf.l]; exact hq) (fcs f vt vb vr) (by unfold fcs; simp only [List.append_assoc])
  unfold FB
  rw [show fcs { f with l := f.l.set q c } vt vb vr = bys f.d ++ (bys f.s ++ [vt, Value.int .i64 f.k, Value.int .i64 f.y]) ++ (bys (f.l.set q c) ++ (bys f.o ++ [vb, vr])) by unfold fcs; simp only [List.append_assoc], ← this]
  exact h
theorem FB.set_oq (q : Nat) (c : UInt8) (hq : q < 3) (hf : f.six) (h : Blo w g T ((fcs f vt vb vr).take (18 + q) ++ [Value.int .u8 (c.toNat : Int)] ++ (fcs f vt vb vr).drop (18 + q + 1)).toArray) : FB w g T { f with o := f.o.set q c } vt vb vr := by
  have := set_mid (bys f.d ++ (bys f.s ++ ([vt, Value.int .i64 f.k, Value.int .i64 f.y] ++ bys f.l))) [vb, vr] f.o q c 18 (by simp only [List.length_append, bys_len, hf.d, hf.s, hf.l]; rfl) (by rw [hf.o]; exact hq) (fcs f vt vb vr) (by unfold fcs; simp only [List.append_assoc])
  unfold FB
  rw [show fcs { f with o := f.o.set q c } vt vb vr = bys f.d ++ (bys f.s ++ ([vt, Value.int .i64 f.k, Value.int .i64 f.y] ++ bys f.l)) ++ (bys (f.o.set q c) ++ [vb, vr]) by unfold fcs; simp only [List.append_assoc], ← this]
  exact h
end
/-- The first q of l, zeros behind. -/
def upto (N q : Nat) (l : List UInt8) : List UInt8 := l.take q ++ List.replicate (N - q) 0
theorem upto_len (N q : Nat) (l : List UInt8) (h : q ≤ l.length) (hq : q ≤ N) : (upto N q l).length = N := by unfold upto; rw [List.length_append, List.length_take, List.length_replicate]; omega
theorem upto_set (N q : Nat) (l : List UInt8) (h : q < l.length) (hq : q < N) : (upto N q l).set q l[q] = upto N (q + 1) l := by
  unfold upto
  have h1 : (l.take q).length = q := by rw [List.length_take]; omega
  rw [List.set_append_right _ _ (by omega), h1, Nat.sub_self, show N - q = (N - (q + 1)) + 1 by omega, List.replicate_succ, List.set_cons_zero, List.take_succ_eq_append_getElem h, List.append_assoc]
  rfl
theorem upto_all (N : Nat) (l : List UInt8) : upto N N l = l.take N := by unfold upto; rw [Nat.sub_self, List.replicate_zero, List.append_nil]
theorem upto_zero (N : Nat) (l : List UInt8) : upto N 0 l = List.replicate N 0 := rfl
theorem byt_ge {w : World} {b o n c : Nat} {l : List UInt8} (h : Byt w (some ⟨b, o, none⟩) n c l) (i : Nat) (u : UInt8) (hu : l[i]? = some u) : w.cell? ⟨b, o + i, none⟩ = some (.int .u8 (u.toNat : Int)) := by
  obtain ⟨hi, rfl⟩ := List.getElem?_eq_some_iff.1 hu
  obtain ⟨b', o', e, hc⟩ := h.at hi
  cases e
  exact hc
theorem infU : (Try.prog.info? 5).map (·.size) = some 1 := by kernel_rfl
def rF (d s : List UInt8) (k y : Int) (ll oo : List UInt8) : Fr := ⟨d, s, [], k, y, ll, oo, [], []⟩
/-- What Get knows while it fills its frame. -/
structure RI (w : World) (g7 : Nat) (At : Option Addr) (tn ct : Nat) (ts : List Tg) (A3 : Option Addr) (m3 c3 : Nat) (rr : List UInt8) (F : Fr) (vb vr : Value) (u : World) : Prop where
  fb : FB u g7 32 F (.slice At tn ct) vb vr
  fz : FB u w.heap.size 32 Fr.zero nilv nilv nilv
  tt : Tags u At tn ct ts
  rb : Byt u A3 m3 c3 rr
  kk : Kept Nil w u
  n1 : ∀ i, Lies At tn i → i ≠ g7 ∧ i ≠ w.heap.size
  n2 : ∀ i, Lies A3 m3 i → i ≠ g7 ∧ i ≠ w.heap.size
  n3 : w.heap.size ≠ g7
  n4 : w.heap.size ≤ g7
section
variable {w u u' : World} {g7 : Nat} {At : Option Addr} {tn ct : Nat} {ts : List Tg} {A3 : Option Addr} {m3 c3 : Nat} {rr : List UInt8} {F F' : Fr} {vb vr vb' vr' : Value}
theorem RI.st (h : RI w g7 At tn ct ts A3 m3 c3 rr F vb vr u) (k : Kept (One g7) u u') (hb : FB u' g7 32 F' (.slice At tn ct) vb' vr') : RI w g7 At tn ct ts A3 m3 c3 rr F' vb' vr' u' :=
  ⟨hb, h.fz.kept k (fun hf => h.n3 hf), h.tt.kept k (fun i hi hf => (h.n1 i hi).1 hf), h.rb.kept k (fun i hi hf => (h.n2 i hi).1 hf), h.kk.fresh k (fun i hi => by cases hi; exact h.n4), h.n1, h.n2, h.n3, h.n4⟩
theorem RI.kept (h : RI w g7 At tn ct ts A3 m3 c3 rr F vb vr u) (k : Kept Nil u u') : RI w g7 At tn ct ts A3 m3 c3 rr F vb vr u' :=
  ⟨h.fb.kept k (fun hf => hf), h.fz.kept k (fun hf => hf), h.tt.kept k (fun _ _ hf => hf), h.rb.kept k (fun _ _ hf => hf), h.kk.then k, h.n1, h.n2, h.n3, h.n4⟩
/-- The frame is handed back. -/
theorem RI.done (h : RI w g7 At tn ct ts A3 m3 c3 rr F vb vr u) (k : Kept (One w.heap.size) u u') (hF : F.six) (lb lr : List UInt8) (hts : ts.length ≤ 1000) (htn : tn = ts.length) (hvb : vb = nilv ∧ lb = [] ∨ ∃ A m c, vb = .slice A m c ∧ Byt u A m c lb ∧ ∀ i, Lies A m i → i ≠ w.heap.size) (hvr : vr = nilv ∧ lr = [] ∨ ∃ A m c, vr = .slice A m c ∧ Byt u A m c lr ∧ ∀ i, Lies A m i → i ≠ w.heap.size) :
    FrRd u' { F with t := ts, b := lb, r := lr } (.slice At tn ct) vb vr ∧ Kept Nil w u' := by
  refine ⟨⟨⟨hF.d, hF.s, hF.l, hF.o⟩, ⟨_, _, _, rfl, h.tt.kept k (fun i hi hf => (h.n1 i hi).2 hf)⟩, ?_, ?_, hts⟩, h.kk.fresh k (fun i hi => by cases hi; exact Nat.le_refl _)⟩
  · rcases hvb with ⟨rfl, rfl⟩ | ⟨A, m, c, rfl, hb, hn⟩
    · exact ⟨none, 0, 0, rfl, Byt.none _⟩
    · exact ⟨A, m, c, rfl, hb.kept k (fun i hi hf => hn i hi hf)⟩
  · rcases hvr with ⟨rfl, rfl⟩ | ⟨A, m, c, rfl, hb, hn⟩
    · exact ⟨none, 0, 0, rfl, Byt.none _⟩
    · exact ⟨A, m, c, rfl, hb.kept k (fun i hi hf => hn i hi hf)⟩
end
theorem car_pq (p q : UInt8) (rr : List UInt8) (N : Nat) (hN : p.toNat * 256 + q.toNat = N) : carM (p :: q :: rr) = if 1536 ≤ N then (⟨z6, z6, [], 1, (N : Int), z3, z3, rr, []⟩, 0) else if 1500 < N then (Fr.zero, 5) else if rr.length < N then (Fr.zero, 4) else llcM (rr.take N) (rr.drop N) := by
  have e : numM ((p :: q :: rr).take 2) = N := by rw [← hN]; simp [numM]
  unfold carM
  rw [if_neg (by simp), e]
  have e2 : (p :: q :: rr).drop 2 = rr := rfl
  have e3 : (p :: q :: rr).drop (2 + N) = rr.drop N := by rw [← List.drop_drop]; rfl
  rw [e2, e3]
  have e4 : ((p :: q :: rr).length < 2 + N) = (rr.length < N) := by simp only [List.length_cons, eq_iff_iff]; omega
  simp only [e4]
theorem RI.part {w u : World} {g7 : Nat} {At : Option Addr} {tn ct : Nat} {ts : List Tg} {A3 : Option Addr} {m3 c3 : Nat} {rr : List UInt8} {F : Fr} {vb vr : Value} (h : RI w g7 At tn ct ts A3 m3 c3 rr F vb vr u) (lo hi : Nat) (h1 : lo ≤ hi) (h2 : hi ≤ m3) (A' : Option Addr) (n' c' : Nat) (e1 : cutA A3 c3 lo = A') (e2 : hi - lo = n') (e3 : c3 - lo = c') :
    ∃ A m c, (Value.slice A' n' c') = .slice A m c ∧ Byt u A m c ((rr.take hi).drop lo) ∧ ∀ i, Lies A m i → i ≠ w.heap.size := by
  subst e1 e2 e3
  refine ⟨_, _, _, rfl, h.rb.cut h1 h2, fun i hi' => ?_⟩
  obtain ⟨g1, ad, g2, g3⟩ := Lies.cut i hi'
  exact (h.n2 i ⟨by omega, ad, g2, g3⟩).2
theorem take_take3 (rr : List UInt8) (N : Nat) (h : 3 ≤ N) : (rr.take N).take 3 = rr.take 3 := by rw [List.take_take, Nat.min_eq_left h]
theorem llc_not (rr : List UInt8) (N : Nat) (h3 : 3 ≤ N) (hN : N ≤ rr.length) (hs : rr.take 3 ≠ snapL) : llcM (rr.take N) (rr.drop N) = (⟨z6, z6, [], 2, 0, rr.take 3, z3, (rr.take N).drop 3, rr.drop N⟩, 0) := by
  unfold llcM
  rw [if_neg (by rw [List.length_take]; omega), take_take3 _ _ h3, if_neg hs]
theorem llc_short8 (rr : List UInt8) (N : Nat) (h3 : 3 ≤ N) (h8 : N < 8) (hN : N ≤ rr.length) (hs : rr.take 3 = snapL) : llcM (rr.take N) (rr.drop N) = (Fr.zero, 5) := by
  unfold llcM
  rw [if_neg (by rw [List.length_take]; omega), take_take3 _ _ h3, if_pos hs, if_pos (by rw [List.length_take]; omega)]
theorem llc_snap (rr : List UInt8) (N : Nat) (h8 : 8 ≤ N) (hN : N ≤ rr.length) (hs : rr.take 3 = snapL) (x y : UInt8) (hx : rr[6]? = some x) (hy : rr[7]? = some y) : llcM (rr.take N) (rr.drop N) = (⟨z6, z6, [], 3, ((x.toNat * 256 + y.toNat : Nat) : Int), rr.take 3, (rr.drop 3).take 3, (rr.take N).drop 8, rr.drop N⟩, 0) := by
  unfold llcM
  have e1 : ((rr.take N).drop 3).take 3 = (rr.drop 3).take 3 := by rw [List.drop_take, List.take_take, Nat.min_eq_left (by omega)]
  have e2 : ((rr.take N).drop 6).take 2 = [x, y] := by
    rw [List.drop_take, List.take_take, Nat.min_eq_left (by omega)]
    apply List.ext_getElem?
    intro i
    match i with
    | 0 => simp [hx]
    | 1 => simp [hy]
    | i + 2 => simp; omega
  rw [if_neg (by rw [List.length_take]; omega), take_take3 _ _ (by omega), if_pos hs, if_neg (by rw [List.length_take]; omega), e1, e2]
  simp [numM]
theorem wrap_pq (p q : UInt8) (Y : Nat) (h : p.toNat * 256 + q.toNat = Y) : wrap64 (p.toNat : Int) = (p.toNat : Int) ∧ wrap64 (256 * (p.toNat : Int)) = 256 * (p.toNat : Int) ∧ wrap64 (q.toNat : Int) = (q.toNat : Int) ∧ wrap64 (256 * (p.toNat : Int) + (q.toNat : Int)) = (Y : Int) ∧ 256 * (p.toNat : Int) + (q.toNat : Int) = (Y : Int) := by
  have hp := p.toNat_lt
  have hq := q.toNat_lt
  generalize p.toNat = a at *
  generalize q.toNat = b at *
  unfold wrap64
  refine ⟨?_, ?_, ?_, ?_, ?_⟩ <;> omega
theorem wrap_Y (p q : UInt8) (Y : Nat) (h : p.toNat * 256 + q.toNat = Y) : wrap64 (Y : Int) = (Y : Int) := by
  have hp := p.toNat_lt
  have hq := q.toNat_lt
  generalize p.toNat = a at *
  generalize q.toNat = b at *
  unfold wrap64
  omega
/-- A whole frame, byte by byte. -/
def gotF (l r : List UInt8) (ts : List Tg) (k y : Int) (ll oo b rr : List UInt8) : Fr := ⟨l.take 6, (l.drop 6).take 6, ts, k, y, ll, oo, b, rr⟩
theorem FrRd.zero (w : World) : FrRd w Fr.zero nilv nilv nilv := ⟨Fr.zero_six, ⟨none, 0, 0, rfl, Tags.nil w⟩, ⟨none, 0, 0, rfl, Byt.none w⟩, ⟨none, 0, 0, rfl, Byt.none w⟩, by decide⟩
end Go.Proofs.Ytjdaaelkaeokeaa
