/- Texts that belong together, one behind the other: EthRa, RfA. Conditions: those of each. -/
import Derived.Test.YtddpdopccejmbaaMg23
import Derived.Test.YtddpdopccejmbaaMg17
import Derived.Test.YtddpdopccejmbaaMg28
import Derived.Test.YtddpdopccejmbaaMg24
/- tollref04.Get: what its stores turn. -/
namespace Go.Proofs.Ytddpdopccejmbaa
open Go.RowKit Go.Sort
set_option linter.unusedVariables false

theorem set_mid (pre post : List Value) (m : List UInt8) (q : Nat) (c : UInt8) (p : Nat) (hp : pre.length = p) (hq : q < m.length) (cs : List Value) (hcs : cs = pre ++ (bys m ++ post)) :
    cs.take (p + q) ++ [Value.int .u8 (c.toNat : Int)] ++ cs.drop (p + q + 1) = pre ++ (bys (m.set q c) ++ post) := by
  subst hp hcs
  have hq' : q < (bys m).length := by rw [bys_len]; exact hq
  have e : pre ++ (bys (m.set q c) ++ post) = (pre ++ (bys m ++ post)).set (pre.length + q) (Value.int .u8 (c.toNat : Int)) := by
    rw [List.set_append_right _ _ (by omega), Nat.add_sub_cancel_left, List.set_append_left _ _ hq']
    congr 2
    unfold bys
    rw [List.map_set]
  rw [e, List.set_eq_take_append_cons_drop, if_pos (by simp only [List.length_append]; omega)]
  simp
section
variable {f : Fr} {vt vb vr : Value} {w : World} {g : Nat} {T : TypeId}
theorem FB.set_dq (q : Nat) (c : UInt8) (hq : q < 6) (hf : f.six) (h : Blo w g T ((fcs f vt vb vr).take q ++ [Value.int .u8 (c.toNat : Int)] ++ (fcs f vt vb vr).drop (q + 1)).toArray) : FB w g T { f with d := f.d.set q c } vt vb vr := by
  have := set_mid [] (bys f.s ++ ([vt, .int .i64 f.k, .int .i64 f.y] ++ (bys f.l ++ (bys f.o ++ [vb, vr])))) f.d q c 0 rfl (by rw [hf.d]; exact hq) _ rfl
  rw [Nat.zero_add] at this
  unfold FB
  rw [show fcs { f with d := f.d.set q c } vt vb vr = [] ++ (bys (f.d.set q c) ++ (bys f.s ++ ([vt, .int .i64 f.k, .int .i64 f.y] ++ (bys f.l ++ (bys f.o ++ [vb, vr]))))) from rfl, ← this]
  exact h
theorem FB.set_sq (q : Nat) (c : UInt8) (hq : q < 6) (hf : f.six) (h : Blo w g T ((fcs f vt vb vr).take (6 + q) ++ [Value.int .u8 (c.toNat : Int)] ++ (fcs f vt vb vr).drop (6 + q + 1)).toArray) : FB w g T { f with s := f.s.set q c } vt vb vr := by
  have := set_mid (bys f.d) ([vt, .int .i64 f.k, .int .i64 f.y] ++ (bys f.l ++ (bys f.o ++ [vb, vr]))) f.s q c 6 (by rw [bys_len]; exact hf.d) (by rw [hf.s]; exact hq) _ rfl
  unfold FB
  rw [show fcs { f with s := f.s.set q c } vt vb vr = bys f.d ++ (bys (f.s.set q c) ++ ([vt, .int .i64 f.k, .int .i64 f.y] ++ (bys f.l ++ (bys f.o ++ [vb, vr])))) from rfl, ← this]
  exact h
theorem FB.set_lq (q : Nat) (c : UInt8) (hq : q < 3) (hf : f.six) (h : Blo w g T ((fcs f vt vb vr).take (15 + q) ++ [Value.int .u8 (c.toNat : Int)] ++ (fcs f vt vb vr).drop (15 + q + 1)).toArray) : FB w g T { f with l := f.l.set q c } vt vb vr := by
  have := set_mid (bys f.d ++ (bys f.s ++ [vt, Value.int .i64 f.k, Value.int .i64 f.y])) (bys f.o ++ [vb, vr]) f.l q c 15 (by simp only [List.length_append, bys_len, hf.d, hf.s]; rfl) (by rw [hf.l]; exact hq) (fcs f vt vb vr) (by unfold fcs; simp only [List.append_assoc])
  unfold FB
  rw [show fcs { f with l := f.l.set q c } vt vb vr = bys f.d ++ (bys f.s ++ [vt, Value.int .i64 f.k, Value.int .i64 f.y]) ++ (bys (f.l.set q c) ++ (bys f.o ++ [vb, vr])) by unfold fcs; simp only [List.append_assoc], ← this]
  exact h
theorem FB.set_oq (q : Nat) (c : UInt8) (hq : q < 3) (hf : f.six) (h : Blo w g T ((fcs f vt vb vr).take (18 + q) ++ [Value.int .u8 (c.toNat : Int)] ++ (fcs f vt vb vr).drop (18 + q + 1)).toArray) : FB w g T { f with o := f.o.set q c } vt vb vr := by
  have := set_mid (bys f.d ++ (bys f.s ++ ([vt, Value.int .i64 f.k, Value.int .i64 f.y] ++ bys f.l))) [vb, vr] f.o q c 18 (by simp only [List.length_append, bys_len, hf.d, hf.s, hf.l]; rfl) (by rw [hf.o]; exact hq) (fcs f vt vb vr) (by unfold fcs; simp only [List.append_assoc])
  unfold FB
  rw [show fcs { f with o := f.o.set q c } vt vb vr = bys f.d ++ (bys f.s ++ ([vt, Value.int .i64 f.k, Value.int .i64 f.y] ++ bys f.l)) ++ (bys (f.o.set q c) ++ [vb, vr]) by unfold fcs; simp only [List.append_assoc], ← this]
  exact h
end
theorem infU : (Try.prog.info? 5).map (·.size) = some 1 := by kernel_rfl
def rF (d s : List UInt8) (k y : Int) (ll oo : List UInt8) : Fr := ⟨d, s, [], k, y, ll, oo, [], []⟩
/-- What Get knows while it fills its frame. -/
structure RI (w : World) (g7 : Nat) (At : Option Addr) (tn ct : Nat) (ts : List Tg) (A3 : Option Addr) (m3 c3 : Nat) (rr : List UInt8) (F : Fr) (vb vr : Value) (u : World) : Prop where
  fb : FB u g7 32 F (.slice At tn ct) vb vr
  fz : FB u w.heap.size 32 Fr.zero nilv nilv nilv
  tt : Tags u At tn ct ts
  rb : Byt u A3 m3 c3 rr
  kk : Kept Nil w u
  n1 : ∀ i, Lies At tn i → i ≠ g7 ∧ i ≠ w.heap.size
  n2 : ∀ i, Lies A3 m3 i → i ≠ g7 ∧ i ≠ w.heap.size
  n3 : w.heap.size ≠ g7
  n4 : w.heap.size ≤ g7
section
variable {w u u' : World} {g7 : Nat} {At : Option Addr} {tn ct : Nat} {ts : List Tg} {A3 : Option Addr} {m3 c3 : Nat} {rr : List UInt8} {F F' : Fr} {vb vr vb' vr' : Value}
theorem RI.st (h : RI w g7 At tn ct ts A3 m3 c3 rr F vb vr u) (k : Kept (One g7) u u') (hb : FB u' g7 32 F' (.slice At tn ct) vb' vr') : RI w g7 At tn ct ts A3 m3 c3 rr F' vb' vr' u' :=
  ⟨hb, h.fz.kept k (fun hf => h.n3 hf), h.tt.kept k (fun i hi hf => (h.n1 i hi).1 hf), h.rb.kept k (fun i hi hf => (h.n2 i hi).1 hf), h.kk.fresh k (fun i hi => by cases hi; exact h.n4), h.n1, h.n2, h.n3, h.n4⟩
theorem RI.kept (h : RI w g7 At tn ct ts A3 m3 c3 rr F vb vr u) (k : Kept Nil u u') : RI w g7 At tn ct ts A3 m3 c3 rr F vb vr u' :=
  ⟨h.fb.kept k (fun hf => hf), h.fz.kept k (fun hf => hf), h.tt.kept k (fun _ _ hf => hf), h.rb.kept k (fun _ _ hf => hf), h.kk.then k, h.n1, h.n2, h.n3, h.n4⟩
/-- The frame is handed back. -/
theorem RI.done (h : RI w g7 At tn ct ts A3 m3 c3 rr F vb vr u) (k : Kept (One w.heap.size) u u') (hF : F.six) (lb lr : List UInt8) (hts : ts.length ≤ 1000) (htn : tn = ts.length) (hvb : vb = nilv ∧ lb = [] ∨ ∃ A m c, vb = .slice A m c ∧ Byt u A m c lb ∧ ∀ i, Lies A m i → i ≠ w.heap.size) (hvr : vr = nilv ∧ lr = [] ∨ ∃ A m c, vr = .slice A m c ∧ Byt u A m c lr ∧ ∀ i, Lies A m i → i ≠ w.heap.size) :
    FrRd u' { F with t := ts, b := lb, r := lr } (.slice At tn ct) vb vr ∧ Kept Nil w u' := by
  refine ⟨⟨⟨hF.d, hF.s, hF.l, hF.o⟩, ⟨_, _, _, rfl, h.tt.kept k (fun i hi hf => (h.n1 i hi).2 hf)⟩, ?_, ?_, hts⟩, h.kk.fresh k (fun i hi => by cases hi; exact Nat.le_refl _)⟩
  · rcases hvb with ⟨rfl, rfl⟩ | ⟨A, m, c, rfl, hb, hn⟩
    · exact ⟨none, 0, 0, rfl, Byt.none _⟩
    · exact ⟨A, m, c, rfl, hb.kept k (fun i hi hf => hn i hi hf)⟩
  · rcases hvr with ⟨rfl, rfl⟩ | ⟨A, m, c, rfl, hb, hn⟩
    · exact ⟨none, 0, 0, rfl, Byt.none _⟩
    · exact ⟨A, m, c, rfl, hb.kept k (fun i hi hf => hn i hi hf)⟩
end
theorem car_pq (p q : UInt8) (rr : List UInt8) (N : Nat) (hN : p.toNat * 256 + q.toNat = N) : carM (p :: q :: rr) = if 1536 ≤ N then (⟨z6, z6, [], 1, (N : Int), z3, z3, rr, []⟩, 0) else if 1500 < N then (Fr.zero, 5) else if rr.length < N then (Fr.zero, 4) else llcM (rr.take N) (rr.drop N) := by
  have e : numM ((p :: q :: rr).take 2) = N := by rw [← hN]; simp [numM]
  unfold carM
  rw [if_neg (by simp), e]
  have e2 : (p :: q :: rr).drop 2 = rr := rfl
  have e3 : (p :: q :: rr).drop (2 + N) = rr.drop N := by rw [← List.drop_drop]; rfl
  rw [e2, e3]
  have e4 : ((p :: q :: rr).length < 2 + N) = (rr.length < N) := by simp only [List.length_cons, eq_iff_iff]; omega
  simp only [e4]
theorem RI.part {w u : World} {g7 : Nat} {At : Option Addr} {tn ct : Nat} {ts : List Tg} {A3 : Option Addr} {m3 c3 : Nat} {rr : List UInt8} {F : Fr} {vb vr : Value} (h : RI w g7 At tn ct ts A3 m3 c3 rr F vb vr u) (lo hi : Nat) (h1 : lo ≤ hi) (h2 : hi ≤ m3) (A' : Option Addr) (n' c' : Nat) (e1 : cutA A3 c3 lo = A') (e2 : hi - lo = n') (e3 : c3 - lo = c') :
    ∃ A m c, (Value.slice A' n' c') = .slice A m c ∧ Byt u A m c ((rr.take hi).drop lo) ∧ ∀ i, Lies A m i → i ≠ w.heap.size := by
  subst e1 e2 e3
  refine ⟨_, _, _, rfl, h.rb.cut h1 h2, fun i hi' => ?_⟩
  obtain ⟨g1, ad, g2, g3⟩ := Lies.cut i hi'
  exact (h.n2 i ⟨by omega, ad, g2, g3⟩).2
theorem take_take3 (rr : List UInt8) (N : Nat) (h : 3 ≤ N) : (rr.take N).take 3 = rr.take 3 := by rw [List.take_take, Nat.min_eq_left h]
theorem llc_not (rr : List UInt8) (N : Nat) (h3 : 3 ≤ N) (hN : N ≤ rr.length) (hs : rr.take 3 ≠ snapL) : llcM (rr.take N) (rr.drop N) = (⟨z6, z6, [], 2, 0, rr.take 3, z3, (rr.take N).drop 3, rr.drop N⟩, 0) := by
  unfold llcM
  rw [if_neg (by rw [List.length_take]; omega), take_take3 _ _ h3, if_neg hs]
theorem llc_short8 (rr : List UInt8) (N : Nat) (h3 : 3 ≤ N) (h8 : N < 8) (hN : N ≤ rr.length) (hs : rr.take 3 = snapL) : llcM (rr.take N) (rr.drop N) = (Fr.zero, 5) := by
  unfold llcM
  rw [if_neg (by rw [List.length_take]; omega), take_take3 _ _ h3, if_pos hs, if_pos (by rw [List.length_take]; omega)]
theorem llc_snap (rr : List UInt8) (N : Nat) (h8 : 8 ≤ N) (hN : N ≤ rr.length) (hs : rr.take 3 = snapL) (x y : UInt8) (hx : rr[6]? = some x) (hy : rr[7]? = some y) : llcM (rr.take N) (rr.drop N) = (⟨z6, z6, [], 3, ((x.toNat * 256 + y.toNat : Nat) : Int), rr.take 3, (rr.drop 3).take 3, (rr.take N).drop 8, rr.drop N⟩, 0) := by
  unfold llcM
  have e1 : ((rr.take N).drop 3).take 3 = (rr.drop 3).take 3 := by rw [List.drop_take, List.take_take, Nat.min_eq_left (by omega)]
  have e2 : ((rr.take N).drop 6).take 2 = [x, y] := by
    rw [List.drop_take, List.take_take, Nat.min_eq_left (by omega)]
    apply List.ext_getElem?
    intro i
    match i with
    | 0 => simp [hx]
    | 1 => simp [hy]
    | i + 2 => simp; omega
  rw [if_neg (by rw [List.length_take]; omega), take_take3 _ _ (by omega), if_pos hs, if_neg (by rw [List.length_take]; omega), e1, e2]
  simp [numM]
theorem wrap_pq (p q : UInt8) (Y : Nat) (h : p.toNat * 256 + q.toNat = Y) : wrap64 (p.toNat : Int) = (p.toNat : Int) ∧ wrap64 (256 * (p.toNat : Int)) = 256 * (p.toNat : Int) ∧ wrap64 (q.toNat : Int) = (q.toNat : Int) ∧ wrap64 (256 * (p.toNat : Int) + (q.toNat : Int)) = (Y : Int) ∧ 256 * (p.toNat : Int) + (q.toNat : Int) = (Y : Int) := by
  have hp := p.toNat_lt
  have hq := q.toNat_lt
  generalize p.toNat = a at *
  generalize q.toNat = b at *
  unfold wrap64
  refine ⟨?_, ?_, ?_, ?_, ?_⟩ <;> omega
theorem wrap_Y (p q : UInt8) (Y : Nat) (h : p.toNat * 256 + q.toNat = Y) : wrap64 (Y : Int) = (Y : Int) := by
  have hp := p.toNat_lt
  have hq := q.toNat_lt
  generalize p.toNat = a at *
  generalize q.toNat = b at *
  unfold wrap64
  omega
/-- A whole frame, byte by byte. -/
def gotF (l r : List UInt8) (ts : List Tg) (k y : Int) (ll oo b rr : List UInt8) : Fr := ⟨l.take 6, (l.drop 6).take 6, ts, k, y, ll, oo, b, rr⟩
theorem FrRd.zero (w : World) : FrRd w Fr.zero nilv nilv nilv := ⟨Fr.zero_six, ⟨none, 0, 0, rfl, Tags.nil w⟩, ⟨none, 0, 0, rfl, Byt.none w⟩, ⟨none, 0, 0, rfl, Byt.none w⟩, by decide⟩
end Go.Proofs.Ytddpdopccejmbaa
/- tollref03.MayTag, May; tollref04.Proto: contracts. -/
namespace Go.Proofs.Ytddpdopccejmbaa
open Go.RowKit Go.Sort
set_option linter.unusedVariables false
set_option maxHeartbeats 4000000 in
theorem rmt_yes (t : Tg) (h : t.ok) (w : World) : Calls Try.prog 62 #[tgv t] w fun e w' => e = .returned (.bool (mayT t)) ∧ Kept Nil w w' := by
  have hB := Blo.new w 69 #[.int .u16 (t.k : Int), .int .u8 (t.p : Int), .bool t.d, .int .u16 (t.n : Int)]
  have c0 := hB.cell 0
  have c1 := hB.cell 1
  have c3 := hB.cell 3
  simp at c0 c1 c3
  have HK := Lib.hid ((Kept.refl Nil w).alloc (.cells #[.int .u16 (t.k : Int), .int .u8 (t.p : Int), .bool t.d, .int .u16 (t.n : Int)] 69))
  have HM := Lib.hid (mayT_iff t)
  clear hB
  show Calls _ _ #[.agg #[.int .u16 (t.k : Int), .int .u8 (t.p : Int), .bool t.d, .int .u16 (t.n : Int)]] _ _
  have fin : ∀ b : Bool, (b = true ↔ ((t.k = 34984 ∨ t.k = 33024) ∧ t.p ≤ 7 ∧ t.n ≤ 4095)) → mayT t = b := fun b hb => by rw [Bool.eq_iff_iff, HM.out, hb]
  have FIN := Lib.hid fin
  clear fin
  by_cases g1 : t.k = 34984
  · have b1 : ((t.k : Int) == 34984) = true := by simp; omega
    by_cases g2 : t.p ≤ 7
    · have b2 : (t.p : Int) ≤ 7 := by omega
      by_cases g3 : t.n ≤ 4095
      · have b3 : (t.n : Int) ≤ 4095 := by omega
        have HF := Lib.hid (FIN.out true (by simp [g1, g2, g3]))
        clear g1 g2 g3
        go_enter Try.func62, Try.ntmps62
        go_wp2
        go_ret
        exact ⟨by rw [HF.out]; rfl, HK.out⟩
      · have b3 : ¬ (t.n : Int) ≤ 4095 := by omega
        have HF := Lib.hid (FIN.out false (by simp [g1, g2, g3]))
        clear g1 g2 g3
        go_enter Try.func62, Try.ntmps62
        go_wp2
        go_ret
        exact ⟨by rw [HF.out]; rfl, HK.out⟩
    · have b2 : ¬ (t.p : Int) ≤ 7 := by omega
      have HF := Lib.hid (FIN.out false (by simp [g1, g2]))
      clear g1 g2
      go_enter Try.func62, Try.ntmps62
      go_wp2
      go_ret
      exact ⟨by rw [HF.out]; rfl, HK.out⟩
  · have b1 : ((t.k : Int) == 34984) = false := by simp; omega
    by_cases g1' : t.k = 33024
    · have b1' : ((t.k : Int) == 33024) = true := by simp; omega
      by_cases g2 : t.p ≤ 7
      · have b2 : (t.p : Int) ≤ 7 := by omega
        by_cases g3 : t.n ≤ 4095
        · have b3 : (t.n : Int) ≤ 4095 := by omega
          have HF := Lib.hid (FIN.out true (by simp [g1', g2, g3]))
          clear g1 g1' g2 g3
          go_enter Try.func62, Try.ntmps62
          go_wp2
          go_ret
          exact ⟨by rw [HF.out]; rfl, HK.out⟩
        · have b3 : ¬ (t.n : Int) ≤ 4095 := by omega
          have HF := Lib.hid (FIN.out false (by simp [g1', g2, g3]))
          clear g1 g1' g2 g3
          go_enter Try.func62, Try.ntmps62
          go_wp2
          go_ret
          exact ⟨by rw [HF.out]; rfl, HK.out⟩
      · have b2 : ¬ (t.p : Int) ≤ 7 := by omega
        have HF := Lib.hid (FIN.out false (by simp [g1', g2]))
        clear g1 g1' g2
        go_enter Try.func62, Try.ntmps62
        go_wp2
        go_ret
        exact ⟨by rw [HF.out]; rfl, HK.out⟩
    · have b1' : ((t.k : Int) == 33024) = false := by simp; omega
      have HF := Lib.hid (FIN.out false (by simp [g1, g1']))
      clear g1 g1'
      go_enter Try.func62, Try.ntmps62
      go_wp2
      go_ret
      exact ⟨by rw [HF.out]; rfl, HK.out⟩
set_option maxRecDepth 100000 in
set_option maxHeartbeats 4000000 in
theorem rproto_yes (f : Fr) (vt vb vr : Value) (w : World) (h : FrRd w f vt vb vr) :
    Calls Try.prog 14 #[frv f vt vb vr] w fun e w' => ∃ v, e = .returned (.tuple #[.int .i64 (protoM f).1, v, .bool (protoM f).2.2]) ∧ (∃ A n c, v = .slice A n c ∧ Byt w' A n c (protoM f).2.1) ∧ Kept Nil w w' := by
  obtain ⟨At, nt, ct, rfl, htt⟩ := h.t
  obtain ⟨Ab, nb, cb, rfl, hbb⟩ := h.b
  obtain ⟨Ar, nr, cr, rfl, hrr⟩ := h.r
  have hk0 := (Kept.refl Nil w).alloc (.cells (fcs f (.slice At nt ct) (.slice Ab nb cb) (.slice Ar nr cr)).toArray 32)
  have hF := FB.new w 32 f (.slice At nt ct) (.slice Ab nb cb) (.slice Ar nr cr)
  obtain ⟨o0, o1, o2, ho⟩ := len3 h.six.o
  have HO := Lib.hid ho
  have HSIX := Lib.hid h.six
  have HF := Lib.hid hF
  have HK := Lib.hid hk0
  have HB := Lib.hid (hbb.kept hk0 (fun _ _ hf => hf))
  have hro := hF.ro h.six
  rw [ho] at hro
  have hr0 := hro 0 _ rfl
  have hr1 := hro 1 _ rfl
  have hr2 := hro 2 _ rfl
  have HRO := Lib.hid (And.intro hr0 (And.intro hr1 hr2))
  clear hbb htt hrr h hk0 hF ho hro hr0 hr1 hr2
  go_enter Try.func14, Try.ntmps14
  go_upto_region 1 with (fail)
  refine wp_nameE (fun W => W = w.alloc (.cells (fcs f (.slice At nt ct) (.slice Ab nb cb) (.slice Ar nr cr)).toArray 32)) rfl ?_
  rintro W hW
  have HW := Lib.hid hW
  have c13 : W.cell? ⟨w.heap.size, 13, none⟩ = some (.int .i64 f.k) := by rw [hW]; exact HF.out.ck HSIX.out
  have d0 : W.cell? ⟨w.heap.size, 18, none⟩ = some (.int .u8 (o0.toNat : Int)) := by rw [hW]; exact HRO.out.1
  have d1 : W.cell? ⟨w.heap.size, 19, none⟩ = some (.int .u8 (o1.toNat : Int)) := by rw [hW]; exact HRO.out.2.1
  have d2 : W.cell? ⟨w.heap.size, 20, none⟩ = some (.int .u8 (o2.toNat : Int)) := by rw [hW]; exact HRO.out.2.2
  clear hW
  by_cases g1 : f.k = 1
  · have b1 : (f.k == 1) = true := by simp [g1]
    have hp : protoM f = (f.y, f.b, true) := if_pos (.inl g1)
    have HP := Lib.hid hp
    have HKW := Lib.hid (show Kept Nil w W by rw [HW.out]; exact HK.out)
    have HFW := Lib.hid (show FB W w.heap.size 32 f (.slice At nt ct) (.slice Ab nb cb) (.slice Ar nr cr) by rw [HW.out]; exact HF.out)
    have HBW := Lib.hid (show Byt W Ab nb cb f.b by rw [HW.out]; exact HB.out)
    clear hp g1
    go_upto_region 2 with (fail)
    refine wp_region_quiet_below (by kernel_rfl) (by kernel_rfl) ?_
    have e14 := fun d os => (HFW.out.kept (kept_grown' W d os) (fun hf => hf)).cy HSIX.out
    have e21 := fun d os => (HFW.out.kept (kept_grown' W d os) (fun hf => hf)).cb HSIX.out
    repeat (go_big_quiet_step (fail))
    refine wpQuiet_nil ?_
    rintro w2 ⟨nq, hw⟩
    have hk2 : Kept Nil W w2 := by rw [hw]; exact kept_grown _ _
    have HK2 := Lib.hid (HKW.out.then hk2)
    have HB2 := Lib.hid (HBW.out.kept hk2 (fun _ _ hf => hf))
    clear hw hk2 e14 e21
    go_wp2
    refine bodyPost_ret (v := .tuple #[.int .i64 f.y, .slice Ab nb cb, .bool true]) (by simp [results, Try.results14, go_sem]) rfl ?_
    rw [HP.out]
    exact ⟨_, rfl, ⟨_, _, _, rfl, HB2.out⟩, HK2.out⟩
  · have b1 : (f.k == 1) = false := by simp [g1]
    by_cases g2 : f.k = 3
    · have b2 : (f.k == 3) = true := by simp [g2]
      by_cases g3 : o0.toNat = 0
      · have b3 : ((o0.toNat : Int) == 0) = true := by simp; omega
        by_cases g4 : o1.toNat = 0
        · have b4 : ((o1.toNat : Int) == 0) = true := by simp; omega
          by_cases g5 : o2.toNat = 0
          · have b5 : ((o2.toNat : Int) == 0) = true := by simp; omega
            have hp : protoM f = (f.y, f.b, true) := if_pos (.inr ⟨g2, by rw [HO.out]; show [o0, o1, o2] = [0, 0, 0]; rw [show o0 = 0 from UInt8.toNat_inj.1 g3, show o1 = 0 from UInt8.toNat_inj.1 g4, show o2 = 0 from UInt8.toNat_inj.1 g5]⟩)
            have HP := Lib.hid hp
            have HKW := Lib.hid (show Kept Nil w W by rw [HW.out]; exact HK.out)
            have HFW := Lib.hid (show FB W w.heap.size 32 f (.slice At nt ct) (.slice Ab nb cb) (.slice Ar nr cr) by rw [HW.out]; exact HF.out)
            have HBW := Lib.hid (show Byt W Ab nb cb f.b by rw [HW.out]; exact HB.out)
            clear hp g1 g2 g3 g4 g5
            go_upto_region 2 with (fail)
            refine wp_region_quiet_below (by kernel_rfl) (by kernel_rfl) ?_
            have e14 := fun d os => (HFW.out.kept (kept_grown' W d os) (fun hf => hf)).cy HSIX.out
            have e21 := fun d os => (HFW.out.kept (kept_grown' W d os) (fun hf => hf)).cb HSIX.out
            repeat (go_big_quiet_step (fail))
            refine wpQuiet_nil ?_
            rintro w2 ⟨nq, hw⟩
            have hk2 : Kept Nil W w2 := by rw [hw]; exact kept_grown _ _
            have HK2 := Lib.hid (HKW.out.then hk2)
            have HB2 := Lib.hid (HBW.out.kept hk2 (fun _ _ hf => hf))
            clear hw hk2 e14 e21
            go_wp2
            refine bodyPost_ret (v := .tuple #[.int .i64 f.y, .slice Ab nb cb, .bool true]) (by simp [results, Try.results14, go_sem]) rfl ?_
            rw [HP.out]
            exact ⟨_, rfl, ⟨_, _, _, rfl, HB2.out⟩, HK2.out⟩
          · have b5 : ((o2.toNat : Int) == 0) = false := by simp; omega
            have hp : protoM f = (0, [], false) := if_neg (by rintro (h | ⟨_, h⟩); exact g1 h; rw [HO.out] at h; injection h with _ h; injection h with _ h; injection h with h _; exact g5 (by rw [h]; rfl))
            have HP := Lib.hid hp
            have HKW := Lib.hid (show Kept Nil w W by rw [HW.out]; exact HK.out)
            clear hp g1 g2 g3 g4 g5
            go_wp2
            refine bodyPost_ret (v := .tuple #[.int .i64 0, .slice none 0 0, .bool false]) (by simp [results, Try.results14, go_sem]) rfl ?_
            rw [HP.out]
            exact ⟨_, rfl, ⟨_, _, _, rfl, Byt.none _⟩, HKW.out⟩
        · have b4 : ((o1.toNat : Int) == 0) = false := by simp; omega
          have hp : protoM f = (0, [], false) := if_neg (by rintro (h | ⟨_, h⟩); exact g1 h; rw [HO.out] at h; injection h with _ h; injection h with h _; exact g4 (by rw [h]; rfl))
          have HP := Lib.hid hp
          have HKW := Lib.hid (show Kept Nil w W by rw [HW.out]; exact HK.out)
          clear hp g1 g2 g3 g4
          go_wp2
          refine bodyPost_ret (v := .tuple #[.int .i64 0, .slice none 0 0, .bool false]) (by simp [results, Try.results14, go_sem]) rfl ?_
          rw [HP.out]
          exact ⟨_, rfl, ⟨_, _, _, rfl, Byt.none _⟩, HKW.out⟩
      · have b3 : ((o0.toNat : Int) == 0) = false := by simp; omega
        have hp : protoM f = (0, [], false) := if_neg (by rintro (h | ⟨_, h⟩); exact g1 h; rw [HO.out] at h; injection h with h _; exact g3 (by rw [h]; rfl))
        have HP := Lib.hid hp
        have HKW := Lib.hid (show Kept Nil w W by rw [HW.out]; exact HK.out)
        clear hp g1 g2 g3
        go_wp2
        refine bodyPost_ret (v := .tuple #[.int .i64 0, .slice none 0 0, .bool false]) (by simp [results, Try.results14, go_sem]) rfl ?_
        rw [HP.out]
        exact ⟨_, rfl, ⟨_, _, _, rfl, Byt.none _⟩, HKW.out⟩
    · have b2 : (f.k == 3) = false := by simp [g2]
      have hp : protoM f = (0, [], false) := if_neg (by rintro (h | ⟨h, _⟩); exact g1 h; exact g2 h)
      have HP := Lib.hid hp
      have HKW := Lib.hid (show Kept Nil w W by rw [HW.out]; exact HK.out)
      clear hp g1 g2
      go_wp2
      refine bodyPost_ret (v := .tuple #[.int .i64 0, .slice none 0 0, .bool false]) (by simp [results, Try.results14, go_sem]) rfl ?_
      rw [HP.out]
      exact ⟨_, rfl, ⟨_, _, _, rfl, Byt.none _⟩, HKW.out⟩
end Go.Proofs.Ytddpdopccejmbaa
