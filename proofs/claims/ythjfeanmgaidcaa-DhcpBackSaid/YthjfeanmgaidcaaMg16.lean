/- Texts that belong together, one behind the other: Cst, DhV. Conditions: those of each. -/
import Derived.Test.YthjfeanmgaidcaaMg15
import Derived.Test.YthjfeanmgaidcaaMg12
/- Regions in free order whose operations have known values; each load of a cell that is stored comes before its store. Nothing of the program is named here. -/
namespace Go.Proofs.Ythjfeanmgaidcaa
open Go.RowKit Go.Sort
set_option linter.unusedVariables false

/-- A store of the region: which operation, block, field, what stood there, what will. -/
structure Sto where
  i : Nat
  g : Nat
  f : Nat
  x : Value
  y : Value
def cR (V : List (Value → Prop)) (S : List Sto) (i : Nat) (v : Value) (u : World) : Prop := V.getD i (fun _ => True) v ∧ ∀ e ∈ S, e.i = i → u.cell? ⟨e.g, e.f, none⟩ = some e.y
def cU (S : List Sto) (j : Nat) (u : World) : Prop := ∀ e ∈ S, e.i = j → u.cell? ⟨e.g, e.f, none⟩ = some e.x
structure cI (D : List Nat) (m : Nat) (x y : Value) (K : World → Prop) (a0 a : Act) (u : World) : Prop where
  size : a.tmps.size = a0.tmps.size
  defs : a.defers = a0.defers
  fr : ∀ k, k ∉ D → a.tmps.getD k undef = a0.tmps.getD k undef
  mv : a.eval (.tmp m) = x ∨ a.eval (.tmp m) = y
  inv : K u
section
variable {P : Program} {D : List Nat} {m : Nat} {x y : Value} {K : World → Prop} {a0 a : Act} {u : World}
theorem cI.put (h : cI D m x y K a0 a u) (k : Nat) (v : Value) (hk : k ∈ D) (hm : k ≠ m) : cI D m x y K a0 (a.put (some k) v) u where
  size := by rw [put_size]; exact h.size
  defs := h.defs
  fr := fun j hj => (eval_put a k v j (fun e => hj (e ▸ hk))).trans (h.fr j hj)
  mv := by rw [eval_put _ _ _ _ hm]; exact h.mv
  inv := h.inv
theorem cI.putm (h : cI D m x y K a0 a u) (hk : m ∈ D) (hlt : m < a0.tmps.size) : cI D m x y K a0 (a.put (some m) y) u where
  size := by rw [put_size]; exact h.size
  defs := h.defs
  fr := fun j hj => (eval_put a m y j (fun e => hj (e ▸ hk))).trans (h.fr j hj)
  mv := .inr (by
    simp only [Act.put, Act.eval, Array.getD_eq_getD_getElem?]
    rw [Array.getElem?_setIfInBounds_self_of_lt (by rw [h.size]; exact hlt)]
    rfl)
  inv := h.inv
end
section
variable {P : Program} {o : Oper} {a : Act} {u : World} {D : List Nat} {m : Nat} {x y : Value} {K : World → Prop} {a0 : Act} {V : List (Value → Prop)} {S : List Sto} {Q : Exit → Act → World → Prop} {i : Nat}
theorem c_pure (hI : cI D m x y K a0 a u) (v : Value) (h : (execOp a.eval o).run P u = .ok (.value v) u) (k : Nat) (hd : o.dst = some k) (hk : D.contains k = true) (hm : (k == m) = false) (hV : V.getD i (fun _ => True) v) (hS : (S.all fun e => e.i != i) = true) :
    o.wp P a u (fun a' w' => ∃ v, a' = a.put o.dst v ∧ cI D m x y K a0 a' w' ∧ (cR V S i (if o.dst.isSome then v else undef) w') ∧ (∀ j x, j ≠ i → cR V S j x u → cR V S j x w') ∧ ∀ j, j ≠ i → cU S j u → cU S j w') Q := by
  refine step_pure v h (by rw [hd]; rfl) (by rw [hd]; exact hI.put k v (by simpa using hk) (by simpa using hm)) ⟨hV, fun e he hi => ?_⟩
  have := List.all_eq_true.1 hS e he
  simp [hi] at this
theorem c_mv (hI : cI D m x y K a0 a u) (h : (execOp a.eval o).run P u = .ok (.value y) u) (hd : o.dst = some m) (hk : D.contains m = true) (hlt : m < a0.tmps.size) (hV : V.getD i (fun _ => True) y) (hS : (S.all fun e => e.i != i) = true) :
    o.wp P a u (fun a' w' => ∃ v, a' = a.put o.dst v ∧ cI D m x y K a0 a' w' ∧ (cR V S i (if o.dst.isSome then v else undef) w') ∧ (∀ j x, j ≠ i → cR V S j x u → cR V S j x w') ∧ ∀ j, j ≠ i → cU S j u → cU S j w') Q := by
  refine step_pure y h (by rw [hd]; rfl) (by rw [hd]; exact hI.putm (by simpa using hk) hlt) ⟨hV, fun e he hi => ?_⟩
  have := List.all_eq_true.1 hS e he
  simp [hi] at this
theorem c_cell {u u' : World} {g f g' f' : Nat} {T : TypeId} {cs : List Value} {v z : Value} (hb : Blo u g T cs.toArray) (hf : f < cs.length) (hb' : Blo u' g T (cs.take f ++ [v] ++ cs.drop (f + [v].length)).toArray) (hk : Kept (One g) u u') (hne : g' ≠ g ∨ f' ≠ f) (hc : u.cell? ⟨g', f', none⟩ = some z) : u'.cell? ⟨g', f', none⟩ = some z := by
  by_cases hg : g' = g
  · subst hg
    have hff : f' ≠ f := by rcases hne with h | h; exact absurd rfl h; exact h
    rw [hb.cell] at hc
    rw [hb'.cell]
    have e : cs.take f ++ [v] ++ cs.drop (f + [v].length) = cs.set f v := by rw [List.set_eq_take_append_cons_drop, if_pos hf]; simp
    rw [e]
    simp only [List.getElem?_toArray] at hc ⊢
    rw [List.getElem?_set_ne (Ne.symm hff)]
    exact hc
  · exact hk.cell hc (fun h => hg h)
theorem c_new {u' : World} {g f : Nat} {T : TypeId} {cs : List Value} {v : Value} (hf : f < cs.length) (hb' : Blo u' g T (cs.take f ++ [v] ++ cs.drop (f + [v].length)).toArray) : u'.cell? ⟨g, f, none⟩ = some v := by
  rw [hb'.cell]
  have e : cs.take f ++ [v] ++ cs.drop (f + [v].length) = cs.set f v := by rw [List.set_eq_take_append_cons_drop, if_pos hf]; simp
  rw [e]
  simp [hf]
theorem c_st (hI : cI D m x y K a0 a u) (ty : TypeId) (p q : Operand) (ho : o.op = .store ty p q) (hd : o.dst = none) {g f : Nat} {z : Value} (hp : a.eval p = pAt g f) (hq : a.eval q = z) (hz : z.cells = #[z]) (hz1 : z.oneCell' = true) (hi : (P.info? ty).map (·.size) = some 1) {T : TypeId} {cs : List Value} (hb : Blo u g T cs.toArray) (hf : f < cs.length)
    (hS : ∀ e ∈ S, (e.i = i ∧ e.g = g ∧ e.f = f ∧ e.y = z) ∨ (e.i ≠ i ∧ (g ≠ e.g ∨ f ≠ e.f))) (hV : V.getD i (fun _ => True) undef)
    (hK : ∀ u', Blo u' g T (cs.take f ++ [z] ++ cs.drop (f + [z].length)).toArray → Kept (One g) u u' → u'.heap.size = u.heap.size → K u') :
    o.wp P a u (fun a' w' => ∃ v, a' = a.put o.dst v ∧ cI D m x y K a0 a' w' ∧ (cR V S i (if o.dst.isSome then v else undef) w') ∧ (∀ j x, j ≠ i → cR V S j x u → cR V S j x w') ∧ ∀ j, j ≠ i → cU S j u → cU S j w') Q := by
  refine step_st ty p q ho hd hp [z] hq hz hi hb (by rw [List.length_singleton]; omega) (by intro t ht; rw [List.mem_singleton] at ht; rw [ht]; exact hz1) fun u' hbl hk hsz => ?_
  refine ⟨⟨hI.size, hI.defs, hI.fr, hI.mv, hK u' hbl hk hsz⟩, ⟨hV, fun e he hei => ?_⟩, fun j t hj hr => ⟨hr.1, fun e he hej => ?_⟩, fun j hj hu e he hej => ?_⟩
  · rcases hS e he with ⟨_, rfl, rfl, rfl⟩ | ⟨h, _⟩
    · exact c_new hf hbl
    · exact absurd hei h
  · rcases hS e he with ⟨h, _⟩ | ⟨_, h⟩
    · exact absurd (hej.symm.trans h) hj
    · exact c_cell hb hf hbl hk (by rcases h with h | h; exact .inl (Ne.symm h); exact .inr (Ne.symm h)) (hr.2 e he hej)
  · rcases hS e he with ⟨h, _⟩ | ⟨_, h⟩
    · exact absurd (hej.symm.trans h) hj
    · exact c_cell hb hf hbl hk (by rcases h with h | h; exact .inl (Ne.symm h); exact .inr (Ne.symm h)) (hu e he hej)
/-- What stood in a cell that a later store turns. -/
theorem c_old {ops : Array Oper} {k j : Nat} (hU : Yet ops (cU S) k u) (oj : Oper) (hj : ops[j]? = some oj) (he : ∃ e ∈ oj.after, Region.binds .any e = true ∧ e.on = k) (e : Sto) (hm : e ∈ S) (hi : e.i = j) : u.cell? ⟨e.g, e.f, none⟩ = some e.x := hU.2 j oj hj he e hm hi
theorem exec_mv2 (x : Operand) (ho : o.op = .move x) {v : Value} (hx : a.eval x = v) : (execOp a.eval o).run P u = .ok (.value v) u := by
  unfold execOp
  simp only [ho, hx, Sem.run_pure]
theorem exec_as2 (x : Operand) (ho : o.op = .assign x) {v : Value} (hx : a.eval x = v) : (execOp a.eval o).run P u = .ok (.value v) u := by
  unfold execOp
  simp only [ho, hx, Sem.run_pure]
theorem exec_bin2 (op : BinOp) (t t' : TypeId) (p q : Operand) (ho : o.op = .binOp op t p q t') {v v' r : Value} (hx : a.eval p = v) (hy : a.eval q = v') (hr : ((do eqGuard op t p q v v'; binOp op t v v') : Sem Value).run P u = .ok r u) : (execOp a.eval o).run P u = .ok (.value r) u := by
  unfold execOp
  simp only [ho, hx, hy]
  rw [Sem.run_bind, hr]
  rfl
theorem exec_len2 (p : Operand) (t : TypeId) (ho : o.op = .call { callee := .builtin .len, args := #[p], argTypes := #[t] }) {v r : Value} (hx : a.eval p = v) (hr : (Builtin.len_ #[t] o.type #[v]).run P u = .ok r u) : (execOp a.eval o).run P u = .ok (.value r) u := by
  unfold execOp
  simp only [ho, resolve, invoke, builtin, Sem.run_bind, Sem.run_pure, Result.andThen_ok, List.map_toArray, List.map_cons, List.map_nil, hx, hr]
theorem exec_cutS (t : TypeId) (p h : Operand) (ho : o.op = .slice t p none (some h) none) {s : ByteArray} {m : Nat} {r : Value} (ht : P.underlying t = some .string) (hx : a.eval p = .string s) (hh : a.eval h = .int .i64 (m : Int)) (hr : (Instr.slice t (.string s) none (some (.int .i64 (m : Int))) none).run P u = .ok r u) : (execOp a.eval o).run P u = .ok (.value r) u := by
  unfold execOp
  simp only [ho, hx, hh, Option.map_none, Option.map_some, Instr.sliceAt, Sem.run_bind, run_underlying ht, Result.andThen_ok, hr, Sem.run_pure]
end
theorem wp_nameC2 {P : Program} {c : Code} {Q : Exit → Act → World → Prop} {a : Act} {w : World} (h : ∀ A, A = a → Code.wp P c Q A w) : Code.wp P c Q a w := h a rfl
end Go.Proofs.Ythjfeanmgaidcaa
/- Package dhcp: contracts of Value, Number, Wanted, Lease, Type. -/
namespace Go.Proofs.Ythjfeanmgaidcaa
open Go.RowKit Go.Sort
set_option linter.unusedVariables false

/-- The bytes of all options of a code. -/
def valM (c : UInt8) (os : List Opn) : List UInt8 := ((os.filter fun o => o.1 == c).map (·.2)).flatten
def isM (c : UInt8) (os : List Opn) : Bool := os.any fun o => o.1 == c
def totM (os : List Opn) : Nat := (os.map fun o => o.2.length).sum
def valD (c : UInt8) (os : List Opn) : List UInt8 × Bool := if hasD c = true then (valM c os, isM c os) else ([], false)
def numD (c : UInt8) (os : List Opn) : Nat × Bool := if (valD c os).1.length = 4 then (numM (valD c os).1, true) else (0, false)
def typL (l : List UInt8) : Nat := match l with
  | [b] => if 1 ≤ b.toNat ∧ b.toNat ≤ 8 then b.toNat else 0
  | _ => 0
def typD (os : List Opn) : Nat := typL (valD 53 os).1
theorem valM_app (c : UInt8) (a b : List Opn) : valM c (a ++ b) = valM c a ++ valM c b := by simp [valM]
theorem isM_app (c : UInt8) (a b : List Opn) : isM c (a ++ b) = (isM c a || isM c b) := by simp [isM]
theorem valM_one (c : UInt8) (o : Opn) : valM c [o] = if o.1 = c then o.2 else [] := by
  unfold valM
  by_cases h : o.1 = c <;> simp [h]
theorem isM_one (c : UInt8) (o : Opn) : isM c [o] = decide (o.1 = c) := by simp [isM]; rfl
theorem valM_take (c : UInt8) (os : List Opn) (k : Nat) (h : k < os.length) : valM c (os.take (k + 1)) = valM c (os.take k) ++ if os[k].1 = c then os[k].2 else [] := by
  rw [List.take_succ_eq_append_getElem h, valM_app, valM_one]
theorem isM_take (c : UInt8) (os : List Opn) (k : Nat) (h : k < os.length) : isM c (os.take (k + 1)) = (isM c (os.take k) || decide (os[k].1 = c)) := by
  rw [List.take_succ_eq_append_getElem h, isM_app, isM_one]
theorem valM_le (c : UInt8) (os : List Opn) : (valM c os).length ≤ totM os := by
  induction os with
  | nil => simp [valM, totM]
  | cons o os ih =>
    rw [show o :: os = [o] ++ os from rfl, valM_app, valM_one]
    unfold totM at ih ⊢
    simp only [List.length_append, List.cons_append, List.nil_append, List.map_cons, List.sum_cons]
    split <;> simp <;> omega
theorem totM_take (os : List Opn) (k : Nat) : totM (os.take k) ≤ totM os := by
  have : totM os = totM (os.take k) + totM (os.drop k) := by
    conv => lhs; rw [← List.take_append_drop k os]
    unfold totM
    rw [List.map_append, List.sum_append]
  omega
theorem own_ge1 {w : World} {B e size n : Nat} {v : Value} {xs : List Value} (h : w.ownsRow B e size v n xs) : ∀ i, v.ownBlock = some i → B ≤ i := fun i hi => (h.lt i hi).1
set_option maxRecDepth 100000 in
set_option maxHeartbeats 4000000 in
theorem value_yes (D : Nat → Prop) (h : Dh) (vo vb : Value) (cd : UInt8) (w : World) (hI : DhIn D w h vo vb) (ht : totM h.os ≤ 1099511627776) : Calls Try.prog 65 #[dhv h vo vb, .int .u8 (cd.toNat : Int)] w fun e w' => ∃ v, e = .returned (.tuple #[v, .bool (valD cd h.os).2]) ∧ Made w w' v (valD cd h.os).1 := by
  have hP := DB.new w 33 h vo vb
  have hk := (Kept.refl Nil w).alloc (.cells (dcs h vo vb).toArray 33)
  obtain ⟨i0, hi, hz0, hz1, hz2⟩ := info_parts Try.infb
  go_enter Try.func65, Try.ntmps65
  go_upto_region 1 with (fail)
  refine wp_nameE (fun W => DB W w.heap.size 33 h vo vb ∧ Kept Nil w W) ⟨hP, hk⟩ ?_
  clear hP hk
  rintro W ⟨hP, hk⟩
  have hco := hP.co hI.ok.s6
  have HK := Lib.hid hk
  obtain ⟨A, n, c, rfl, hO⟩ := hI.o
  have HO := Lib.hid (hO.kept hk (fun _ _ hf => hf))
  have hnc := hO.lt.1
  have hcc := hO.lt.2
  have HL := Lib.hid hO.len
  have HT := Lib.hid ht
  clear hP hk hO hI ht
  cases hh : hasD cd with
  | false =>
    have HV := Lib.hid (show valD cd h.os = ([], false) by unfold valD; rw [hh]; rfl)
    go_wp2_with (go_at_call 52; refine (has_yes cd _).mono ?_; rintro e w' ⟨rfl, rfl⟩; rw [hh])
    go_ret2
    exact ⟨_, by rw [HV.out]; rfl, by rw [HV.out]; exact World.ownsRow_nil _ _ _ _, HK.out⟩
  | true =>
    have HV := Lib.hid (show valD cd h.os = (valM cd h.os, isM cd h.os) by unfold valD; rw [hh]; rfl)
    go_wp2_with (go_at_call 52; refine (has_yes cd _).mono ?_; rintro e w' ⟨rfl, rfl⟩; rw [hh])
    clear hh
    go_loopw [6, 7, 16] (fun v b i wr => ∃ k : Nat, k ≤ n ∧ i = .int .i64 (k : Int) ∧ b = .bool (isM cd (h.os.take k)) ∧ wr.ownsRow W.heap.size 5 1 v (valM cd (h.os.take k)).length (bys (valM cd (h.os.take k))) ∧ Kept Nil W wr) (fun _ _ i _ => n - (intOf i).toNat)
    case atStart => exact ⟨0, Nat.zero_le _, rfl, rfl, World.ownsRow_nil _ _ _ _, Kept.refl _ _⟩
    case round =>
      obtain ⟨k, hk, rfl, rfl, hown, hkp⟩ := hrel
      by_cases hlt : k < n
      · have hkl : k < h.os.length := by rw [HL.out]; exact hlt
        have HV1 := Lib.hid (valM_take cd h.os k hkl)
        have HI1 := Lib.hid (isM_take cd h.os k hkl)
        have HLE := Lib.hid (show (valM cd (h.os.take (k + 1))).length ≤ 1099511627776 from Nat.le_trans (Nat.le_trans (valM_le cd (h.os.take (k + 1))) (totM_take h.os (k + 1))) HT.out)
        obtain ⟨b, o, A', m, c', rfl, hrow, hby, -⟩ := (HO.out.kept hkp (fun _ _ hf => hf)).at hkl
        have q0 := hrow 0 _ rfl
        have q1 := hrow 1 _ rfl
        rw [Nat.add_zero] at q0
        generalize h.os[k] = op at *
        obtain ⟨oc, ov⟩ := op
        simp only at q0
        have HV1' := HV1
        have HW := Lib.hid hown
        have HKP := Lib.hid hkp
        have HBY := Lib.hid hby
        have ec : ((oc.toNat : Int) == (cd.toNat : Int)) = decide (oc = cd) := u8_eq oc cd
        clear hown hkp hrow hby
        by_cases hc : oc = cd
        · rw [show decide (oc = cd) = true by simp [hc]] at ec
          have h1 := HV1.out
          have h2 := HI1.out
          simp only [hc, if_true, decide_true, Bool.or_true] at h1 h2
          have HH1 := Lib.hid h1
          have HH2 := Lib.hid h2
          have hka := (Kept.refl Nil wr).alloc (.cells #[.int .u8 (oc.toNat : Int), .slice A' m c'] 47)
          have HOW := Lib.hid (own_kept HW.out hka (fun _ _ hf => hf))
          have HYA := Lib.hid (HBY.out.kept hka (fun _ _ hf => hf))
          have HSZ := Lib.hid (show W.heap.size ≤ (wr.alloc (.cells #[.int .u8 (oc.toNat : Int), .slice A' m c'] 47)).heap.size by have := HKP.out.size; simp; omega)
          have HBD := Lib.hid (show (valM cd (h.os.take k)).length + m ≤ 140737488355328 by have := HLE.out; rw [h1, List.length_append] at this; have := HBY.out.1; simp only at this; omega)
          clear h1 h2 HV1 HI1 HV1' hka hc
          go_wp2_with (at_builtin; refine wpList_any rfl _ _ 31 rfl W.heap.size 5 i0 (.int .u8 0) Try.underlying31 hi hz0 hz1 hz2 rfl _ _ _ rfl HOW.out _ _ _ ov rfl HYA.out HBD.out HSZ.out ?_; intro v' w1 hown' hgr _)
          have hk1 : Kept Nil W w1 := (HKP.out.alloc _).grown hgr (fun j hj hj' => absurd hj' (by have := own_ge1 HW.out j hj; omega))
          have HO1 := Lib.hid hown'
          have HK1 := Lib.hid hk1
          clear hown' hgr hk1
          go_wp2
          go_roundw
          case rel => exact ⟨k + 1, by omega, by go_num, by rw [HH2.out], by rw [HH1.out, bys_app, List.length_append]; have := HBY.out.1; simp only at this; rw [this]; exact HO1.out, HK1.out⟩
          case measure => simp [intOf]; omega
        · rw [show decide (oc = cd) = false by simp [hc]] at ec
          have h1 := HV1.out
          have h2 := HI1.out
          simp only [hc, if_false, List.append_nil, decide_false, Bool.or_false] at h1 h2
          rw [← h1] at HW
          rw [← h2]
          clear h1 h2 hc HV1 HI1 HV1'
          go_wp2
          go_roundw
          case rel => exact ⟨k + 1, by omega, by go_num, rfl, own_kept HW.out ((Kept.refl Nil wr).alloc _) (fun _ _ hf => hf), HKP.out.alloc _⟩
          case measure => simp [intOf]; omega
      · obtain rfl : k = n := by omega
        have e1 : h.os.take k = h.os := List.take_of_length_le (by rw [HL.out]; exact Nat.le_refl _)
        rw [e1] at hown ⊢
        have HW := Lib.hid hown
        have HKP := Lib.hid hkp
        clear hown hkp hlt e1
        go_wp2
        go_ret2
        rw [HV.out]
        exact ⟨_, rfl, own_mono HW.out HK.out.size, HK.out.then HKP.out⟩
end Go.Proofs.Ythjfeanmgaidcaa
