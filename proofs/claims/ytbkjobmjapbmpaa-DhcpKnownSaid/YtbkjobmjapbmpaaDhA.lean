/- Messages of DHCP as plain data, and as cells. -/
import Derived.Test.YtbkjobmjapbmpaaProg
import Derived.Test.YtbkjobmjapbmpaaAgg
import Derived.Test.YtbkjobmjapbmpaaNewB
import Derived.Test.YtbkjobmjapbmpaaRec
import Derived.Test.YtbkjobmjapbmpaaPadC
import Derived.Test.YtbkjobmjapbmpaaRegJ
import Derived.Deep.DeepCutAuto
namespace Go.Proofs.Ytbkjobmjapbmpaa
open Go.RowKit Go.Sort
set_option linter.unusedVariables false

/-- An option: its code, its value. -/
abbrev Opn := UInt8 × List UInt8
/-- A message. -/
structure Dh where
  op : UInt8
  hp : UInt8
  xi : Nat
  se : Nat
  fl : Nat
  ci : Nat
  yo : Nat
  ne : Nat
  re : Nat
  st : List UInt8
  pd : List UInt8
  sv : List UInt8
  fi : List UInt8
  os : List Opn
  bh : List UInt8
/-- How long a message's arrays are. -/
structure Dh.six (h : Dh) : Prop where
  st : h.st.length = 6
  pd : h.pd.length = 10
  sv : h.sv.length = 64
  fi : h.fi.length = 128
/-- What any message of the program is. -/
structure Dh.ok (h : Dh) : Prop extends Dh.six h where
  xi : h.xi < 4294967296
  se : h.se < 65536
  fl : h.fl < 65536
  ci : h.ci < 4294967296
  yo : h.yo < 4294967296
  ne : h.ne < 4294967296
  re : h.re < 4294967296
theorem Dh.ok.s6 {h : Dh} (k : h.ok) : h.six := ⟨k.st, k.pd, k.sv, k.fi⟩
def zer (n : Nat) : List UInt8 := List.replicate n 0
def Dh.zero : Dh := ⟨0, 0, 0, 0, 0, 0, 0, 0, 0, zer 6, zer 10, zer 64, zer 128, [], []⟩
theorem Dh.zero_ok : Dh.zero.ok := ⟨⟨rfl, rfl, rfl, rfl⟩, by decide, by decide, by decide, by decide, by decide, by decide, by decide⟩
/-- The first nine cells. -/
def dns (h : Dh) : List Value := [.int .u8 (h.op.toNat : Int), .int .u8 (h.hp.toNat : Int), .int .u32 (h.xi : Int), .int .u16 (h.se : Int), .int .u16 (h.fl : Int), .int .u32 (h.ci : Int), .int .u32 (h.yo : Int), .int .u32 (h.ne : Int), .int .u32 (h.re : Int)]
/-- A message's cells. -/
def dcs (h : Dh) (vo vb : Value) : List Value := dns h ++ (bys h.st ++ (bys h.pd ++ (bys h.sv ++ (bys h.fi ++ [vo, vb]))))
def nilv : Value := .slice none 0 0
section
variable {h : Dh} {vo vb : Value} {w w' : World} {g : Nat} {T : TypeId}
theorem dcs_len (hs : h.six) : (dcs h vo vb).length = 219 := by
  simp only [dcs, dns, List.length_append, bys_len, hs.st, hs.pd, hs.sv, hs.fi, List.length_cons, List.length_nil]
theorem dcs_one (ho : vo.oneCell' = true) (hb : vb.oneCell' = true) : ∀ u ∈ dcs h vo vb, u.oneCell' = true := by
  intro u hu
  simp only [dcs, dns, List.mem_append, List.mem_cons, List.not_mem_nil, or_false] at hu
  rcases hu with h | h | h | h | h | h
  · rcases h with rfl | rfl | rfl | rfl | rfl | rfl | rfl | rfl | rfl <;> rfl
  · exact bys_one _ u h
  · exact bys_one _ u h
  · exact bys_one _ u h
  · exact bys_one _ u h
  · rcases h with rfl | rfl
    · exact ho
    · exact hb
/-- A block holds a message. -/
def DB (w : World) (g : Nat) (T : TypeId) (h : Dh) (vo vb : Value) : Prop := Blo w g T (dcs h vo vb).toArray
theorem DB.all (b : DB w g T h vo vb) : Row w g 0 (dcs h vo vb) := Blo.row [] _ [] (by rw [List.nil_append, List.append_nil]; exact b)
theorem DB.kept {F : Nat → Prop} (b : DB w g T h vo vb) (k : Kept F w w') (hg : ¬ F g) : DB w' g T h vo vb := Blo.kept b k hg
theorem DB.new (w : World) (T : TypeId) (h : Dh) (vo vb : Value) : DB (w.alloc (.cells (dcs h vo vb).toArray T)) w.heap.size T h vo vb := Blo.new w T _
theorem DB.lt (b : DB w g T h vo vb) : g < w.heap.size := Blo.lt b
theorem DB.rn (b : DB w g T h vo vb) : Row w g 0 (dns h) := by
  have := Blo.row [] (dns h) (bys h.st ++ (bys h.pd ++ (bys h.sv ++ (bys h.fi ++ [vo, vb])))) (w := w) (g := g) (t := T) (by simpa [DB, dcs] using b)
  exact this
theorem DB.rst (b : DB w g T h vo vb) : Row w g 9 (bys h.st) := by
  have := Blo.row (dns h) (bys h.st) (bys h.pd ++ (bys h.sv ++ (bys h.fi ++ [vo, vb]))) (w := w) (g := g) (t := T) (by simpa [DB, dcs] using b)
  exact this
theorem DB.rpd (b : DB w g T h vo vb) (hs : h.six) : Row w g 15 (bys h.pd) := by
  have := Blo.row (dns h ++ bys h.st) (bys h.pd) (bys h.sv ++ (bys h.fi ++ [vo, vb])) (w := w) (g := g) (t := T) (by simpa [DB, dcs] using b)
  rwa [List.length_append, bys_len, hs.st] at this
theorem DB.rsv (b : DB w g T h vo vb) (hs : h.six) : Row w g 25 (bys h.sv) := by
  have := Blo.row (dns h ++ bys h.st ++ bys h.pd) (bys h.sv) (bys h.fi ++ [vo, vb]) (w := w) (g := g) (t := T) (by simpa [DB, dcs] using b)
  rwa [List.length_append, List.length_append, bys_len, bys_len, hs.st, hs.pd] at this
theorem DB.rfi (b : DB w g T h vo vb) (hs : h.six) : Row w g 89 (bys h.fi) := by
  have := Blo.row (dns h ++ bys h.st ++ bys h.pd ++ bys h.sv) (bys h.fi) [vo, vb] (w := w) (g := g) (t := T) (by simpa [DB, dcs] using b)
  rwa [List.length_append, List.length_append, List.length_append, bys_len, bys_len, bys_len, hs.st, hs.pd, hs.sv] at this
theorem DB.re (b : DB w g T h vo vb) (hs : h.six) : Row w g 217 [vo, vb] := by
  have := Blo.row (dns h ++ bys h.st ++ bys h.pd ++ bys h.sv ++ bys h.fi) [vo, vb] [] (w := w) (g := g) (t := T) (by simpa [DB, dcs] using b)
  rwa [List.length_append, List.length_append, List.length_append, List.length_append, bys_len, bys_len, bys_len, bys_len, hs.st, hs.pd, hs.sv, hs.fi] at this
theorem DB.c0 (b : DB w g T h vo vb) : w.cell? ⟨g, 0, none⟩ = some (.int .u8 (h.op.toNat : Int)) := b.rn 0 _ rfl
theorem DB.c1 (b : DB w g T h vo vb) : w.cell? ⟨g, 1, none⟩ = some (.int .u8 (h.hp.toNat : Int)) := b.rn 1 _ rfl
theorem DB.c2 (b : DB w g T h vo vb) : w.cell? ⟨g, 2, none⟩ = some (.int .u32 (h.xi : Int)) := b.rn 2 _ rfl
theorem DB.c3 (b : DB w g T h vo vb) : w.cell? ⟨g, 3, none⟩ = some (.int .u16 (h.se : Int)) := b.rn 3 _ rfl
theorem DB.c4 (b : DB w g T h vo vb) : w.cell? ⟨g, 4, none⟩ = some (.int .u16 (h.fl : Int)) := b.rn 4 _ rfl
theorem DB.c5 (b : DB w g T h vo vb) : w.cell? ⟨g, 5, none⟩ = some (.int .u32 (h.ci : Int)) := b.rn 5 _ rfl
theorem DB.c6 (b : DB w g T h vo vb) : w.cell? ⟨g, 6, none⟩ = some (.int .u32 (h.yo : Int)) := b.rn 6 _ rfl
theorem DB.c7 (b : DB w g T h vo vb) : w.cell? ⟨g, 7, none⟩ = some (.int .u32 (h.ne : Int)) := b.rn 7 _ rfl
theorem DB.c8 (b : DB w g T h vo vb) : w.cell? ⟨g, 8, none⟩ = some (.int .u32 (h.re : Int)) := b.rn 8 _ rfl
theorem DB.co (b : DB w g T h vo vb) (hs : h.six) : w.cell? ⟨g, 217, none⟩ = some vo := b.re hs 0 _ rfl
theorem DB.cb (b : DB w g T h vo vb) (hs : h.six) : w.cell? ⟨g, 218, none⟩ = some vb := b.re hs 1 _ rfl
/-- Stored anew as a whole. -/
theorem DB.of_all {h' : Dh} {vo' vb' : Value} (hs : h.six) (hs' : h'.six) (b : Blo w g T ((dcs h vo vb).take 0 ++ dcs h' vo' vb' ++ (dcs h vo vb).drop (0 + (dcs h' vo' vb').length)).toArray) : DB w g T h' vo' vb' := by
  rw [dcs_len hs', List.drop_of_length_le (by rw [dcs_len hs]; omega)] at b
  simpa [DB] using b
/-- A part in the middle stored anew. -/
theorem spl_mid {α : Type} (a l l' b : List α) (n : Nat) (ha : a.length = n) (h : l.length = l'.length) : (a ++ (l ++ b)).take n ++ l' ++ (a ++ (l ++ b)).drop (n + l'.length) = a ++ (l' ++ b) := by
  subst ha
  rw [List.take_left, ← List.drop_drop, List.drop_left, ← h, List.drop_left, List.append_assoc]
theorem DB.set_n {h' : Dh} {n : Nat} {x : Value} (hn : (dns h).take n ++ [x] ++ (dns h).drop (n + 1) = dns h') (hr : h'.st = h.st ∧ h'.pd = h.pd ∧ h'.sv = h.sv ∧ h'.fi = h.fi) (h9 : n < 9) (b : Blo w g T ((dcs h vo vb).take n ++ [x] ++ (dcs h vo vb).drop (n + [x].length)).toArray) : DB w g T h' vo vb := by
  have hl : (dns h).length = 9 := rfl
  unfold DB dcs
  rw [← hn, hr.1, hr.2.1, hr.2.2.1, hr.2.2.2]
  unfold dcs at b
  rw [List.take_append_of_le_length (by rw [hl]; omega), List.drop_append_of_le_length (by rw [hl]; simp; omega)] at b
  simpa only [List.append_assoc, List.length_singleton] using b
theorem DB.set_st (s : List UInt8) (hl : s.length = 6) (hs : h.six) (b : Blo w g T ((dcs h vo vb).take 9 ++ bys s ++ (dcs h vo vb).drop (9 + (bys s).length)).toArray) : DB w g T { h with st := s } vo vb := by
  have := spl_mid (dns h) (bys h.st) (bys s) (bys h.pd ++ (bys h.sv ++ (bys h.fi ++ [vo, vb]))) 9 rfl (by rw [bys_len, bys_len, hl, hs.st])
  unfold dcs at b
  rw [this] at b
  exact b
theorem DB.set_pd (s : List UInt8) (hl : s.length = 10) (hs : h.six) (b : Blo w g T ((dcs h vo vb).take 15 ++ bys s ++ (dcs h vo vb).drop (15 + (bys s).length)).toArray) : DB w g T { h with pd := s } vo vb := by
  have := spl_mid (dns h ++ bys h.st) (bys h.pd) (bys s) (bys h.sv ++ (bys h.fi ++ [vo, vb])) 15 (by rw [List.length_append, bys_len, hs.st]; rfl) (by rw [bys_len, bys_len, hl, hs.pd])
  unfold dcs at b
  rw [show dns h ++ (bys h.st ++ (bys h.pd ++ (bys h.sv ++ (bys h.fi ++ [vo, vb])))) = (dns h ++ bys h.st) ++ (bys h.pd ++ (bys h.sv ++ (bys h.fi ++ [vo, vb]))) from by simp, this] at b
  simp only [List.append_assoc] at b
  exact b
theorem DB.set_sv (s : List UInt8) (hl : s.length = 64) (hs : h.six) (b : Blo w g T ((dcs h vo vb).take 25 ++ bys s ++ (dcs h vo vb).drop (25 + (bys s).length)).toArray) : DB w g T { h with sv := s } vo vb := by
  have := spl_mid (dns h ++ bys h.st ++ bys h.pd) (bys h.sv) (bys s) (bys h.fi ++ [vo, vb]) 25 (by rw [List.length_append, List.length_append, bys_len, bys_len, hs.st, hs.pd]; rfl) (by rw [bys_len, bys_len, hl, hs.sv])
  unfold dcs at b
  rw [show dns h ++ (bys h.st ++ (bys h.pd ++ (bys h.sv ++ (bys h.fi ++ [vo, vb])))) = (dns h ++ bys h.st ++ bys h.pd) ++ (bys h.sv ++ (bys h.fi ++ [vo, vb])) from by simp, this] at b
  simp only [List.append_assoc] at b
  exact b
theorem DB.set_fi (s : List UInt8) (hl : s.length = 128) (hs : h.six) (b : Blo w g T ((dcs h vo vb).take 89 ++ bys s ++ (dcs h vo vb).drop (89 + (bys s).length)).toArray) : DB w g T { h with fi := s } vo vb := by
  have := spl_mid (dns h ++ bys h.st ++ bys h.pd ++ bys h.sv) (bys h.fi) (bys s) [vo, vb] 89 (by rw [List.length_append, List.length_append, List.length_append, bys_len, bys_len, bys_len, hs.st, hs.pd, hs.sv]; rfl) (by rw [bys_len, bys_len, hl, hs.fi])
  unfold dcs at b
  rw [show dns h ++ (bys h.st ++ (bys h.pd ++ (bys h.sv ++ (bys h.fi ++ [vo, vb])))) = (dns h ++ bys h.st ++ bys h.pd ++ bys h.sv) ++ (bys h.fi ++ [vo, vb]) from by simp, this] at b
  simp only [List.append_assoc] at b
  exact b
theorem DB.set_e (x : Value) {vo' vb' : Value} {n : Nat} (hx : (n = 217 ∧ vo' = x ∧ vb' = vb) ∨ (n = 218 ∧ vo' = vo ∧ vb' = x)) (hs : h.six) (b : Blo w g T ((dcs h vo vb).take n ++ [x] ++ (dcs h vo vb).drop (n + [x].length)).toArray) : DB w g T h vo' vb' := by
  have e : ∀ l : List Value, dns h ++ (bys h.st ++ (bys h.pd ++ (bys h.sv ++ (bys h.fi ++ l)))) = (dns h ++ bys h.st ++ bys h.pd ++ bys h.sv ++ bys h.fi) ++ l := fun l => by simp
  have hl : (dns h ++ bys h.st ++ bys h.pd ++ bys h.sv ++ bys h.fi).length = 217 := by rw [List.length_append, List.length_append, List.length_append, List.length_append, bys_len, bys_len, bys_len, bys_len, hs.st, hs.pd, hs.sv, hs.fi]; rfl
  unfold dcs at b
  rw [e] at b
  unfold DB dcs
  rw [e]
  generalize dns h ++ bys h.st ++ bys h.pd ++ bys h.sv ++ bys h.fi = P at *
  rcases hx with ⟨rfl, rfl, rfl⟩ | ⟨rfl, rfl, rfl⟩
  · have := spl_mid P [vo] [vo'] [vb'] 217 hl rfl
    rw [show P ++ [vo, vb'] = P ++ ([vo] ++ [vb']) from rfl, this] at b
    exact b
  · have := spl_mid (P ++ [vo']) [vb] [vb'] [] 218 (by rw [List.length_append, hl]; rfl) rfl
    rw [show P ++ [vo', vb] = (P ++ [vo']) ++ ([vb] ++ []) from by simp, this] at b
    simpa using b
end
/-- What a copy of bytes leaves, be there any or none. -/
theorem wpList_cp {P : Program} {w : World} {ops : Array Oper} {rest : List Oper} {o : Oper} {a : Act} {Q : Exit → Act → World → Prop} (hgd : o.guard = none) (d s : Operand) (dT sT : TypeId)
    (ho : o.op = .call { callee := .builtin .copy, args := #[d, s], argTypes := #[dT, sT] }) (elem : TypeId) (hu : P.underlying dT = some (.slice elem)) (hsz : (P.info? elem).map (·.size) = some 1)
    (g off dLen dCap sLen sCap : Nat) (sp : Option Addr) (hd : a.eval d = .slice (some ⟨g, off, none⟩) dLen dCap) (hs : a.eval s = .slice sp sLen sCap) (l : List UInt8) (hl : Byt w sp sLen sCap l) (hle : sLen ≤ dLen)
    (cur : List Value) (t : TypeId) (hg : Blo w g t cur.toArray) (hfit : off + dLen ≤ cur.length)
    (h : ∀ w', Blo w' g t (cur.take off ++ bys l ++ cur.drop (off + (bys l).length)).toArray → Kept (One g) w w' → wpList P ops Q rest (a.put o.dst (goInt (bys l).length)) w') :
    wpList P ops Q (o :: rest) a w := by
  have hln : (bys l).length = Nat.min sLen dLen := by rw [bys_len, hl.1]; exact (Nat.min_eq_left hle).symm
  by_cases h0 : sLen = 0
  · have hl0 : l = [] := List.eq_nil_of_length_eq_zero (by rw [hl.1, h0])
    subst hl0
    refine wpList_copy_nothing hgd d s dT sT ho elem hu hsz (some ⟨g, off, none⟩) sp dLen dCap sLen sCap hd hs (by rw [h0]; simp) ?_
    have := h w (by simpa [bys] using hg) (Kept.refl _ _)
    simpa [bys] using this
  · obtain ⟨b, o', rfl, _⟩ := hl.2.2.2 (by omega)
    refine wpList_copy_own hgd d s dT sT ho elem hu hsz g off dLen dCap ⟨b, o', none⟩ sLen sCap hd hs cur.toArray t hg (bys l) hln hl.news (by have := hl.1; simp [bys_len] at *; omega) (bys_one l) ?_
    refine h _ ?_ (kept_setRow w g _)
    have := setRow_heap w g cur.toArray (cur.take off ++ (bys l ++ cur.drop (off + (bys l).length))).toArray t _ hg
    simpa [Blo] using this
/-- A variable made: its block known whole, the world under a new name. -/
theorem wpList_al {P : Program} {w : World} {ops : Array Oper} {rest : List Oper} {o : Oper} {a : Act} {Q : Exit → Act → World → Prop} (hgd : Region.wanted o (yielded ops a.tmps) = true) (t : TypeId) (ho : o.op = .alloc t) (l : List Value)
    (h1 : ∀ u : World, (Instr.alloc t true (.tuple #[])).run P u = .ok (.pointer (some ⟨u.heap.size, 0, none⟩)) (u.alloc (.cells l.toArray t)))
    (h : ∀ w', Blo w' w.heap.size t l.toArray → Kept Nil w w' → w'.heap.size = w.heap.size + 1 → wpList P ops Q rest (a.put o.dst (.pointer (some ⟨w.heap.size, 0, none⟩))) w') : wpList P ops Q (o :: rest) a w := by
  refine BigFrame.wpList_want hgd fun K hK => ?_
  unfold Oper.wp execOp
  simp only [ho, Sem.run_bind, Sem.run_pure, h1, Result.andThen_ok]
  exact hK _ _ (h _ (Blo.new w t _) ((Kept.refl Nil w).alloc _) (by simp))
/-- A struct put together. -/
theorem wpList_bd {P : Program} {w : World} {ops : Array Oper} {rest : List Oper} {o : Oper} {a : Act} {Q : Exit → Act → World → Prop} (hgd : Region.wanted o (yielded ops a.tmps) = true) (ty : TypeId) (ps : Array (Nat × Operand)) (ho : o.op = .build ty ps) (xs : Array (Nat × Value)) (hxs : (ps.toList.map fun x => (x.1, a.eval x.2)) = xs.toList) (v : Value)
    (hv : ∀ w, (Instr.build ty xs).run P w = .ok v w) (h : wpList P ops Q rest (a.put o.dst v) w) : wpList P ops Q (o :: rest) a w := by
  have e : (ps.map fun x => (x.1, a.eval x.2)) = xs := Array.toList_inj.1 (by rw [Array.toList_map]; exact hxs)
  refine BigFrame.wpList_want hgd fun K hK => ?_
  unfold Oper.wp execOp
  simp only [ho, e, Sem.run_bind, Sem.run_pure, hv, Result.andThen_ok]
  exact hK _ _ h
theorem infDh (h : Dh) (hs : h.six) (vo vb : Value) : (Try.prog.info? 73).map (·.size) = some (dcs h vo vb).length := by rw [dcs_len hs]; kernel_rfl
theorem infOp (k v : Value) : (Try.prog.info? 85).map (·.size) = some [k, v].length := by kernel_rfl
theorem infBy (l : List UInt8) (n : Nat) (h : l.length = n) : some (bys l).length = some n := by rw [bys_len, h]
def dhv (h : Dh) (vo vb : Value) : Value := .agg (dcs h vo vb).toArray
/-- The zero value. -/
theorem zero_dh : (Try.prog.info? 73).map (·.zero) = some (some (dhv Dh.zero nilv nilv)) := by kernel_rfl
theorem al_dh (u : World) : (Instr.alloc 73 true (.tuple #[])).run Try.prog u = .ok (.pointer (some ⟨u.heap.size, 0, none⟩)) (u.alloc (.cells (dcs Dh.zero nilv nilv).toArray 73)) := by kernel_rfl
theorem al_op (u : World) : (Instr.alloc 85 true (.tuple #[])).run Try.prog u = .ok (.pointer (some ⟨u.heap.size, 0, none⟩)) (u.alloc (.cells [Value.int .u8 0, nilv].toArray 85)) := by kernel_rfl
theorem bd_zero (w : World) : (Instr.build 73 #[]).run Try.prog w = .ok (dhv Dh.zero nilv nilv) w := by kernel_rfl
theorem bd_one (b : UInt8) (w : World) : (Instr.build 73 #[(0, .int .u8 (b.toNat : Int))]).run Try.prog w = .ok (dhv { Dh.zero with op := b } nilv nilv) w := by kernel_rfl
theorem bd_op (k : Int) (A : Option Addr) (n c : Nat) (w : World) : (Instr.build 85 #[(0, .int .u8 k), (1, .slice A n c)]).run Try.prog w = .ok (.agg [Value.int .u8 k, .slice A n c].toArray) w := by kernel_rfl
end Go.Proofs.Ytbkjobmjapbmpaa
