/- Texts that belong together, one behind the other: DhA, DhM. Conditions: those of each. -/
import Derived.Test.YthjfeanmgaidcaaProg
import Derived.Test.YthjfeanmgaidcaaMg3
import Derived.Test.YthjfeanmgaidcaaMg4
import Derived.Test.YthjfeanmgaidcaaMg8
import Derived.Test.YthjfeanmgaidcaaMg9
import Derived.Deep.DeepCutAuto
/- Messages of DHCP as plain data, and as cells. -/
namespace Go.Proofs.Ythjfeanmgaidcaa
open Go.RowKit Go.Sort
set_option linter.unusedVariables false

/-- An option: its code, its value. -/
abbrev Opn := UInt8 × List UInt8
/-- A message. -/
structure Dh where
  op : UInt8
  hp : UInt8
  xi : Nat
  se : Nat
  fl : Nat
  ci : Nat
  yo : Nat
  ne : Nat
  re : Nat
  st : List UInt8
  pd : List UInt8
  sv : List UInt8
  fi : List UInt8
  os : List Opn
  bh : List UInt8
/-- How long a message's arrays are. -/
structure Dh.six (h : Dh) : Prop where
  st : h.st.length = 6
  pd : h.pd.length = 10
  sv : h.sv.length = 64
  fi : h.fi.length = 128
/-- What any message of the program is. -/
structure Dh.ok (h : Dh) : Prop extends Dh.six h where
  xi : h.xi < 4294967296
  se : h.se < 65536
  fl : h.fl < 65536
  ci : h.ci < 4294967296
  yo : h.yo < 4294967296
  ne : h.ne < 4294967296
  re : h.re < 4294967296
theorem Dh.ok.s6 {h : Dh} (k : h.ok) : h.six := ⟨k.st, k.pd, k.sv, k.fi⟩
def zer (n : Nat) : List UInt8 := List.replicate n 0
def Dh.zero : Dh := ⟨0, 0, 0, 0, 0, 0, 0, 0, 0, zer 6, zer 10, zer 64, zer 128, [], []⟩
theorem Dh.zero_ok : Dh.zero.ok := ⟨⟨rfl, rfl, rfl, rfl⟩, by decide, by decide, by decide, by decide, by decide, by decide, by decide⟩
/-- The first nine cells. -/
def dns (h : Dh) : List Value := [.int .u8 (h.op.toNat : Int), .int .u8 (h.hp.toNat : Int), .int .u32 (h.xi : Int), .int .u16 (h.se : Int), .int .u16 (h.fl : Int), .int .u32 (h.ci : Int), .int .u32 (h.yo : Int), .int .u32 (h.ne : Int), .int .u32 (h.re : Int)]
/-- A message's cells. -/
def dcs (h : Dh) (vo vb : Value) : List Value := dns h ++ (bys h.st ++ (bys h.pd ++ (bys h.sv ++ (bys h.fi ++ [vo, vb]))))
def nilv : Value := .slice none 0 0
section
variable {h : Dh} {vo vb : Value} {w w' : World} {g : Nat} {T : TypeId}
theorem dcs_len (hs : h.six) : (dcs h vo vb).length = 219 := by
  simp only [dcs, dns, List.length_append, bys_len, hs.st, hs.pd, hs.sv, hs.fi, List.length_cons, List.length_nil]
theorem dcs_one (ho : vo.oneCell' = true) (hb : vb.oneCell' = true) : ∀ u ∈ dcs h vo vb, u.oneCell' = true := by
  intro u hu
  simp only [dcs, dns, List.mem_append, List.mem_cons, List.not_mem_nil, or_false] at hu
  rcases hu with h | h | h | h | h | h
  · rcases h with rfl | rfl | rfl | rfl | rfl | rfl | rfl | rfl | rfl <;> rfl
  · exact bys_one _ u h
  · exact bys_one _ u h
  · exact bys_one _ u h
  · exact bys_one _ u h
  · rcases h with rfl | rfl
    · exact ho
    · exact hb
/-- A block holds a message. -/
def DB (w : World) (g : Nat) (T : TypeId) (h : Dh) (vo vb : Value) : Prop := Blo w g T (dcs h vo vb).toArray
theorem DB.all (b : DB w g T h vo vb) : Row w g 0 (dcs h vo vb) := Blo.row [] _ [] (by rw [List.nil_append, List.append_nil]; exact b)
theorem DB.kept {F : Nat → Prop} (b : DB w g T h vo vb) (k : Kept F w w') (hg : ¬ F g) : DB w' g T h vo vb := Blo.kept b k hg
theorem DB.new (w : World) (T : TypeId) (h : Dh) (vo vb : Value) : DB (w.alloc (.cells (dcs h vo vb).toArray T)) w.heap.size T h vo vb := Blo.new w T _
theorem DB.lt (b : DB w g T h vo vb) : g < w.heap.size := Blo.lt b
theorem DB.rn (b : DB w g T h vo vb) : Row w g 0 (dns h) := by
  have := Blo.row [] (dns h) (bys h.st ++ (bys h.pd ++ (bys h.sv ++ (bys h.fi ++ [vo, vb])))) (w := w) (g := g) (t := T) (by simpa [DB, dcs] using b)
  exact this
theorem DB.rst (b : DB w g T h vo vb) : Row w g 9 (bys h.st) := by
  have := Blo.row (dns h) (bys h.st) (bys h.pd ++ (bys h.sv ++ (bys h.fi ++ [vo, vb]))) (w := w) (g := g) (t := T) (by simpa [DB, dcs] using b)
  exact this
theorem DB.rpd (b : DB w g T h vo vb) (hs : h.six) : Row w g 15 (bys h.pd) := by
  have := Blo.row (dns h ++ bys h.st) (bys h.pd) (bys h.sv ++ (bys h.fi ++ [vo, vb])) (w := w) (g := g) (t := T) (by simpa [DB, dcs] using b)
  rwa [List.length_append, bys_len, hs.st] at this
theorem DB.rsv (b : DB w g T h vo vb) (hs : h.six) : Row w g 25 (bys h.sv) := by
  have := Blo.row (dns h ++ bys h.st ++ bys h.pd) (bys h.sv) (bys h.fi ++ [vo, vb]) (w := w) (g := g) (t := T) (by simpa [DB, dcs] using b)
  rwa [List.length_append, List.length_append, bys_len, bys_len, hs.st, hs.pd] at this
theorem DB.rfi (b : DB w g T h vo vb) (hs : h.six) : Row w g 89 (bys h.fi) := by
  have := Blo.row (dns h ++ bys h.st ++ bys h.pd ++ bys h.sv) (bys h.fi) [vo, vb] (w := w) (g := g) (t := T) (by simpa [DB, dcs] using b)
  rwa [List.length_append, List.length_append, List.length_append, bys_len, bys_len, bys_len, hs.st, hs.pd, hs.sv] at this
theorem DB.re (b : DB w g T h vo vb) (hs : h.six) : Row w g 217 [vo, vb] := by
  have := Blo.row (dns h ++ bys h.st ++ bys h.pd ++ bys h.sv ++ bys h.fi) [vo, vb] [] (w := w) (g := g) (t := T) (by simpa [DB, dcs] using b)
  rwa [List.length_append, List.length_append, List.length_append, List.length_append, bys_len, bys_len, bys_len, bys_len, hs.st, hs.pd, hs.sv, hs.fi] at this
theorem DB.c0 (b : DB w g T h vo vb) : w.cell? ⟨g, 0, none⟩ = some (.int .u8 (h.op.toNat : Int)) := b.rn 0 _ rfl
theorem DB.c1 (b : DB w g T h vo vb) : w.cell? ⟨g, 1, none⟩ = some (.int .u8 (h.hp.toNat : Int)) := b.rn 1 _ rfl
theorem DB.c2 (b : DB w g T h vo vb) : w.cell? ⟨g, 2, none⟩ = some (.int .u32 (h.xi : Int)) := b.rn 2 _ rfl
theorem DB.c3 (b : DB w g T h vo vb) : w.cell? ⟨g, 3, none⟩ = some (.int .u16 (h.se : Int)) := b.rn 3 _ rfl
theorem DB.c4 (b : DB w g T h vo vb) : w.cell? ⟨g, 4, none⟩ = some (.int .u16 (h.fl : Int)) := b.rn 4 _ rfl
theorem DB.c5 (b : DB w g T h vo vb) : w.cell? ⟨g, 5, none⟩ = some (.int .u32 (h.ci : Int)) := b.rn 5 _ rfl
theorem DB.c6 (b : DB w g T h vo vb) : w.cell? ⟨g, 6, none⟩ = some (.int .u32 (h.yo : Int)) := b.rn 6 _ rfl
theorem DB.c7 (b : DB w g T h vo vb) : w.cell? ⟨g, 7, none⟩ = some (.int .u32 (h.ne : Int)) := b.rn 7 _ rfl
theorem DB.c8 (b : DB w g T h vo vb) : w.cell? ⟨g, 8, none⟩ = some (.int .u32 (h.re : Int)) := b.rn 8 _ rfl
theorem DB.co (b : DB w g T h vo vb) (hs : h.six) : w.cell? ⟨g, 217, none⟩ = some vo := b.re hs 0 _ rfl
theorem DB.cb (b : DB w g T h vo vb) (hs : h.six) : w.cell? ⟨g, 218, none⟩ = some vb := b.re hs 1 _ rfl
/-- Stored anew as a whole. -/
theorem DB.of_all {h' : Dh} {vo' vb' : Value} (hs : h.six) (hs' : h'.six) (b : Blo w g T ((dcs h vo vb).take 0 ++ dcs h' vo' vb' ++ (dcs h vo vb).drop (0 + (dcs h' vo' vb').length)).toArray) : DB w g T h' vo' vb' := by
  rw [dcs_len hs', List.drop_of_length_le (by rw [dcs_len hs]; omega)] at b
  simpa [DB] using b
/-- A part in the middle stored anew. -/
theorem spl_mid {α : Type} (a l l' b : List α) (n : Nat) (ha : a.length = n) (h : l.length = l'.length) : (a ++ (l ++ b)).take n ++ l' ++ (a ++ (l ++ b)).drop (n + l'.length) = a ++ (l' ++ b) := by
  subst ha
  rw [List.take_left, ← List.drop_drop, List.drop_left, ← h, List.drop_left, List.append_assoc]
theorem DB.set_n {h' : Dh} {n : Nat} {x : Value} (hn : (dns h).take n ++ [x] ++ (dns h).drop (n + 1) = dns h') (hr : h'.st = h.st ∧ h'.pd = h.pd ∧ h'.sv = h.sv ∧ h'.fi = h.fi) (h9 : n < 9) (b : Blo w g T ((dcs h vo vb).take n ++ [x] ++ (dcs h vo vb).drop (n + [x].length)).toArray) : DB w g T h' vo vb := by
  have hl : (dns h).length = 9 := rfl
  unfold DB dcs
  rw [← hn, hr.1, hr.2.1, hr.2.2.1, hr.2.2.2]
  unfold dcs at b
  rw [List.take_append_of_le_length (by rw [hl]; omega), List.drop_append_of_le_length (by rw [hl]; simp; omega)] at b
  simpa only [List.append_assoc, List.length_singleton] using b
theorem DB.set_st (s : List UInt8) (hl : s.length = 6) (hs : h.six) (b : Blo w g T ((dcs h vo vb).take 9 ++ bys s ++ (dcs h vo vb).drop (9 + (bys s).length)).toArray) : DB w g T { h with st := s } vo vb := by
  have := spl_mid (dns h) (bys h.st) (bys s) (bys h.pd ++ (bys h.sv ++ (bys h.fi ++ [vo, vb]))) 9 rfl (by rw [bys_len, bys_len, hl, hs.st])
  unfold dcs at b
  rw [this] at b
  exact b
theorem DB.set_pd (s : List UInt8) (hl : s.length = 10) (hs : h.six) (b : Blo w g T ((dcs h vo vb).take 15 ++ bys s ++ (dcs h vo vb).drop (15 + (bys s).length)).toArray) : DB w g T { h with pd := s } vo vb := by
  have := spl_mid (dns h ++ bys h.st) (bys h.pd) (bys s) (bys h.sv ++ (bys h.fi ++ [vo, vb])) 15 (by rw [List.length_append, bys_len, hs.st]; rfl) (by rw [bys_len, bys_len, hl, hs.pd])
  unfold dcs at b
  rw [show dns h ++ (bys h.st ++ (bys h.pd ++ (bys h.sv ++ (bys h.fi ++ [vo, vb])))) = (dns h ++ bys h.st) ++ (bys h.pd ++ (bys h.sv ++ (bys h.fi ++ [vo, vb]))) from by simp, this] at b
  simp only [List.append_assoc] at b
  exact b
theorem DB.set_sv (s : List UInt8) (hl : s.length = 64) (hs : h.six) (b : Blo w g T ((dcs h vo vb).take 25 ++ bys s ++ (dcs h vo vb).drop (25 + (bys s).length)).toArray) : DB w g T { h with sv := s } vo vb := by
  have := spl_mid (dns h ++ bys h.st ++ bys h.pd) (bys h.sv) (bys s) (bys h.fi ++ [vo, vb]) 25 (by rw [List.length_append, List.length_append, bys_len, bys_len, hs.st, hs.pd]; rfl) (by rw [bys_len, bys_len, hl, hs.sv])
  unfold dcs at b
  rw [show dns h ++ (bys h.st ++ (bys h.pd ++ (bys h.sv ++ (bys h.fi ++ [vo, vb])))) = (dns h ++ bys h.st ++ bys h.pd) ++ (bys h.sv ++ (bys h.fi ++ [vo, vb])) from by simp, this] at b
  simp only [List.append_assoc] at b
  exact b
theorem DB.set_fi (s : List UInt8) (hl : s.length = 128) (hs : h.six) (b : Blo w g T ((dcs h vo vb).take 89 ++ bys s ++ (dcs h vo vb).drop (89 + (bys s).length)).toArray) : DB w g T { h with fi := s } vo vb := by
  have := spl_mid (dns h ++ bys h.st ++ bys h.pd ++ bys h.sv) (bys h.fi) (bys s) [vo, vb] 89 (by rw [List.length_append, List.length_append, List.length_append, bys_len, bys_len, bys_len, hs.st, hs.pd, hs.sv]; rfl) (by rw [bys_len, bys_len, hl, hs.fi])
  unfold dcs at b
  rw [show dns h ++ (bys h.st ++ (bys h.pd ++ (bys h.sv ++ (bys h.fi ++ [vo, vb])))) = (dns h ++ bys h.st ++ bys h.pd ++ bys h.sv) ++ (bys h.fi ++ [vo, vb]) from by simp, this] at b
  simp only [List.append_assoc] at b
  exact b
theorem DB.set_e (x : Value) {vo' vb' : Value} {n : Nat} (hx : (n = 217 ∧ vo' = x ∧ vb' = vb) ∨ (n = 218 ∧ vo' = vo ∧ vb' = x)) (hs : h.six) (b : Blo w g T ((dcs h vo vb).take n ++ [x] ++ (dcs h vo vb).drop (n + [x].length)).toArray) : DB w g T h vo' vb' := by
  have e : ∀ l : List Value, dns h ++ (bys h.st ++ (bys h.pd ++ (bys h.sv ++ (bys h.fi ++ l)))) = (dns h ++ bys h.st ++ bys h.pd ++ bys h.sv ++ bys h.fi) ++ l := fun l => by simp
  have hl : (dns h ++ bys h.st ++ bys h.pd ++ bys h.sv ++ bys h.fi).length = 217 := by rw [List.length_append, List.length_append, List.length_append, List.length_append, bys_len, bys_len, bys_len, bys_len, hs.st, hs.pd, hs.sv, hs.fi]; rfl
  unfold dcs at b
  rw [e] at b
  unfold DB dcs
  rw [e]
  generalize dns h ++ bys h.st ++ bys h.pd ++ bys h.sv ++ bys h.fi = P at *
  rcases hx with ⟨rfl, rfl, rfl⟩ | ⟨rfl, rfl, rfl⟩
  · have := spl_mid P [vo] [vo'] [vb'] 217 hl rfl
    rw [show P ++ [vo, vb'] = P ++ ([vo] ++ [vb']) from rfl, this] at b
    exact b
  · have := spl_mid (P ++ [vo']) [vb] [vb'] [] 218 (by rw [List.length_append, hl]; rfl) rfl
    rw [show P ++ [vo', vb] = (P ++ [vo']) ++ ([vb] ++ []) from by simp, this] at b
    simpa using b
end
/-- What a copy of bytes leaves, be there any or none. -/
theorem wpList_cp {P : Program} {w : World} {ops : Array Oper} {rest : List Oper} {o : Oper} {a : Act} {Q : Exit → Act → World → Prop} (hgd : o.guard = none) (d s : Operand) (dT sT : TypeId)
    (ho : o.op = .call { callee := .builtin .copy, args := #[d, s], argTypes := #[dT, sT] }) (elem : TypeId) (hu : P.underlying dT = some (.slice elem)) (hsz : (P.info? elem).map (·.size) = some 1)
    (g off dLen dCap sLen sCap : Nat) (sp : Option Addr) (hd : a.eval d = .slice (some ⟨g, off, none⟩) dLen dCap) (hs : a.eval s = .slice sp sLen sCap) (l : List UInt8) (hl : Byt w sp sLen sCap l) (hle : sLen ≤ dLen)
    (cur : List Value) (t : TypeId) (hg : Blo w g t cur.toArray) (hfit : off + dLen ≤ cur.length)
    (h : ∀ w', Blo w' g t (cur.take off ++ bys l ++ cur.drop (off + (bys l).length)).toArray → Kept (One g) w w' → wpList P ops Q rest (a.put o.dst (goInt (bys l).length)) w') :
    wpList P ops Q (o :: rest) a w := by
  have hln : (bys l).length = Nat.min sLen dLen := by rw [bys_len, hl.1]; exact (Nat.min_eq_left hle).symm
  by_cases h0 : sLen = 0
  · have hl0 : l = [] := List.eq_nil_of_length_eq_zero (by rw [hl.1, h0])
    subst hl0
    refine wpList_copy_nothing hgd d s dT sT ho elem hu hsz (some ⟨g, off, none⟩) sp dLen dCap sLen sCap hd hs (by rw [h0]; simp) ?_
    have := h w (by simpa [bys] using hg) (Kept.refl _ _)
    simpa [bys] using this
  · obtain ⟨b, o', rfl, _⟩ := hl.2.2.2 (by omega)
    refine wpList_copy_own hgd d s dT sT ho elem hu hsz g off dLen dCap ⟨b, o', none⟩ sLen sCap hd hs cur.toArray t hg (bys l) hln hl.news (by have := hl.1; simp [bys_len] at *; omega) (bys_one l) ?_
    refine h _ ?_ (kept_setRow w g _)
    have := setRow_heap w g cur.toArray (cur.take off ++ (bys l ++ cur.drop (off + (bys l).length))).toArray t _ hg
    simpa [Blo] using this
/-- A variable made: its block known whole, the world under a new name. -/
theorem wpList_al {P : Program} {w : World} {ops : Array Oper} {rest : List Oper} {o : Oper} {a : Act} {Q : Exit → Act → World → Prop} (hgd : Region.wanted o (yielded ops a.tmps) = true) (t : TypeId) (ho : o.op = .alloc t) (l : List Value)
    (h1 : ∀ u : World, (Instr.alloc t true (.tuple #[])).run P u = .ok (.pointer (some ⟨u.heap.size, 0, none⟩)) (u.alloc (.cells l.toArray t)))
    (h : ∀ w', Blo w' w.heap.size t l.toArray → Kept Nil w w' → w'.heap.size = w.heap.size + 1 → wpList P ops Q rest (a.put o.dst (.pointer (some ⟨w.heap.size, 0, none⟩))) w') : wpList P ops Q (o :: rest) a w := by
  refine BigFrame.wpList_want hgd fun K hK => ?_
  unfold Oper.wp execOp
  simp only [ho, Sem.run_bind, Sem.run_pure, h1, Result.andThen_ok]
  exact hK _ _ (h _ (Blo.new w t _) ((Kept.refl Nil w).alloc _) (by simp))
/-- A struct put together. -/
theorem wpList_bd {P : Program} {w : World} {ops : Array Oper} {rest : List Oper} {o : Oper} {a : Act} {Q : Exit → Act → World → Prop} (hgd : Region.wanted o (yielded ops a.tmps) = true) (ty : TypeId) (ps : Array (Nat × Operand)) (ho : o.op = .build ty ps) (xs : Array (Nat × Value)) (hxs : (ps.toList.map fun x => (x.1, a.eval x.2)) = xs.toList) (v : Value)
    (hv : ∀ w, (Instr.build ty xs).run P w = .ok v w) (h : wpList P ops Q rest (a.put o.dst v) w) : wpList P ops Q (o :: rest) a w := by
  have e : (ps.map fun x => (x.1, a.eval x.2)) = xs := Array.toList_inj.1 (by rw [Array.toList_map]; exact hxs)
  refine BigFrame.wpList_want hgd fun K hK => ?_
  unfold Oper.wp execOp
  simp only [ho, e, Sem.run_bind, Sem.run_pure, hv, Result.andThen_ok]
  exact hK _ _ h
theorem infDh (h : Dh) (hs : h.six) (vo vb : Value) : (Try.prog.info? 33).map (·.size) = some (dcs h vo vb).length := by rw [dcs_len hs]; kernel_rfl
theorem infOp (k v : Value) : (Try.prog.info? 47).map (·.size) = some [k, v].length := by kernel_rfl
theorem infBy (l : List UInt8) (n : Nat) (h : l.length = n) : some (bys l).length = some n := by rw [bys_len, h]
def dhv (h : Dh) (vo vb : Value) : Value := .agg (dcs h vo vb).toArray
/-- The zero value. -/
theorem zero_dh : (Try.prog.info? 33).map (·.zero) = some (some (dhv Dh.zero nilv nilv)) := by kernel_rfl
theorem al_dh (u : World) : (Instr.alloc 33 true (.tuple #[])).run Try.prog u = .ok (.pointer (some ⟨u.heap.size, 0, none⟩)) (u.alloc (.cells (dcs Dh.zero nilv nilv).toArray 33)) := by kernel_rfl
theorem al_op (u : World) : (Instr.alloc 47 true (.tuple #[])).run Try.prog u = .ok (.pointer (some ⟨u.heap.size, 0, none⟩)) (u.alloc (.cells [Value.int .u8 0, nilv].toArray 47)) := by kernel_rfl
theorem bd_zero (w : World) : (Instr.build 33 #[]).run Try.prog w = .ok (dhv Dh.zero nilv nilv) w := by kernel_rfl
theorem bd_one (b : UInt8) (w : World) : (Instr.build 33 #[(0, .int .u8 (b.toNat : Int))]).run Try.prog w = .ok (dhv { Dh.zero with op := b } nilv nilv) w := by kernel_rfl
theorem bd_op (k : Int) (A : Option Addr) (n c : Nat) (w : World) : (Instr.build 47 #[(0, .int .u8 k), (1, .slice A n c)]).run Try.prog w = .ok (.agg [Value.int .u8 k, .slice A n c].toArray) w := by kernel_rfl
end Go.Proofs.Ythjfeanmgaidcaa
/- Messages of DHCP: read, laid, there and back. Plain data alone. -/
namespace Go.Proofs.Ythjfeanmgaidcaa
set_option linter.unusedVariables false

theorem dnum2 (x : Nat) (h : x < 65536) : numM (beM 2 x) = x := by simp [numM, beM, List.range_succ]; omega
theorem dnum4 (x : Nat) (h : x < 4294967296) : numM (beM 4 x) = x := by simp [numM, beM, List.range_succ]; omega
theorem dbe_two (x : Nat) : beM 2 x = [UInt8.ofNat (x / 256), UInt8.ofNat x] := by simp [beM, List.range_succ]
theorem dbe2 (a b : UInt8) : beM 2 (numM [a, b]) = [a, b] := by
  have ha := a.toNat_lt
  have hb := b.toNat_lt
  have e : numM [a, b] = a.toNat * 256 + b.toNat := by simp [numM]
  rw [dbe_two, e]
  have e1 : UInt8.ofNat ((a.toNat * 256 + b.toNat) / 256) = a := UInt8.toNat_inj.1 (by rw [UInt8.toNat_ofNat']; omega)
  have e2 : UInt8.ofNat (a.toNat * 256 + b.toNat) = b := UInt8.toNat_inj.1 (by rw [UInt8.toNat_ofNat']; omega)
  rw [e1, e2]
theorem dbe4 (a b c d : UInt8) : beM 4 (numM [a, b, c, d]) = [a, b, c, d] := by
  have ha := a.toNat_lt
  have hb := b.toNat_lt
  have hc := c.toNat_lt
  have hd := d.toNat_lt
  have e : numM [a, b, c, d] = a.toNat * 16777216 + b.toNat * 65536 + c.toNat * 256 + d.toNat := by simp only [numM, List.foldl_cons, List.foldl_nil]; omega
  rw [e]
  have e0 : ∀ x : Nat, beM 4 x = [UInt8.ofNat (x / 16777216), UInt8.ofNat (x / 65536), UInt8.ofNat (x / 256), UInt8.ofNat x] := fun x => by simp [beM, List.range_succ]
  rw [e0]
  have e1 : UInt8.ofNat ((a.toNat * 16777216 + b.toNat * 65536 + c.toNat * 256 + d.toNat) / 16777216) = a := UInt8.toNat_inj.1 (by rw [UInt8.toNat_ofNat']; omega)
  have e2 : UInt8.ofNat ((a.toNat * 16777216 + b.toNat * 65536 + c.toNat * 256 + d.toNat) / 65536) = b := UInt8.toNat_inj.1 (by rw [UInt8.toNat_ofNat']; omega)
  have e3 : UInt8.ofNat ((a.toNat * 16777216 + b.toNat * 65536 + c.toNat * 256 + d.toNat) / 256) = c := UInt8.toNat_inj.1 (by rw [UInt8.toNat_ofNat']; omega)
  have e4 : UInt8.ofNat (a.toNat * 16777216 + b.toNat * 65536 + c.toNat * 256 + d.toNat) = d := UInt8.toNat_inj.1 (by rw [UInt8.toNat_ofNat']; omega)
  rw [e1, e2, e3, e4]
/-- A head: tos, ttl, protocol, number, three flags, offset, from, to, options. -/
structure Hd where
  t : UInt8
  l : UInt8
  p : UInt8
  i : Nat
  e : Bool
  d : Bool
  m : Bool
  o : Int
  s : Nat
  g : Nat
  x : List UInt8
structure Hd.ok (h : Hd) : Prop where
  i : h.i < 65536
  o : -9223372036854775808 ≤ h.o ∧ h.o ≤ 9223372036854775807
  s : h.s < 4294967296
  g : h.g < 4294967296
def Hd.zero : Hd := ⟨0, 0, 0, 0, false, false, false, 0, 0, 0, []⟩
theorem two_list (l : List UInt8) (h : l.length = 2) : ∃ a b, l = [a, b] := by
  match l, h with
  | [a, b], _ => exact ⟨a, b, rfl⟩
theorem four_list (l : List UInt8) (h : l.length = 4) : ∃ a b c d, l = [a, b, c, d] := by
  match l, h with
  | [a, b, c, d], _ => exact ⟨a, b, c, d, rfl⟩
theorem be_num2 (l : List UInt8) (h : l.length = 2) : beM 2 (numM l) = l := by
  obtain ⟨a, b, rfl⟩ := two_list l h
  exact dbe2 a b
theorem be_num4 (l : List UInt8) (h : l.length = 4) : beM 4 (numM l) = l := by
  obtain ⟨a, b, c, d, rfl⟩ := four_list l h
  exact dbe4 a b c d

/-- The four ahead of the options. -/
def mrk : List UInt8 := [99, 130, 83, 99]
/-- Options read, and what is behind their end. -/
def optF : Nat → List UInt8 → Option (List Opn × List UInt8)
  | 0, _ => none
  | _ + 1, [] => none
  | f + 1, c :: r => if c = 255 then some ([], r) else if c = 0 then optF f r else
      match r with
      | [] => none
      | n :: q => if q.length < n.toNat then none else (optF f (q.drop n.toNat)).map fun x => ((c, q.take n.toNat) :: x.1, x.2)
theorem optF_more : ∀ (f : Nat) (l : List UInt8), l.length < f → ∀ f', l.length < f' → optF f l = optF f' l
  | 0, l, h, _, _ => absurd h (by omega)
  | f + 1, l, h, 0, h' => absurd h' (by omega)
  | f + 1, [], h, f' + 1, h' => rfl
  | f + 1, c :: r, h, f' + 1, h' => by
    simp only [List.length_cons] at h h'
    unfold optF
    split
    · rfl
    · split
      · exact optF_more f r (by omega) f' (by omega)
      · cases r with
        | nil => rfl
        | cons n q =>
          simp only
          split
          · rfl
          · simp only [List.length_cons] at h h'
            rw [optF_more f (q.drop n.toNat) (by simp; omega) f' (by simp; omega)]
def optM (l : List UInt8) : Option (List Opn × List UInt8) := optF (l.length + 1) l
theorem optM_nil : optM [] = none := rfl
theorem optM_end (r : List UInt8) : optM (255 :: r) = some ([], r) := by unfold optM; rfl
theorem optM_zero (r : List UInt8) : optM (0 :: r) = optM r := by
  unfold optM
  rw [show (0 :: r : List UInt8).length + 1 = (r.length + 1) + 1 from rfl]
  conv => lhs; unfold optF
  rw [if_neg (by decide), if_pos rfl]
theorem optM_one (c : UInt8) (h : c ≠ 255) (h0 : c ≠ 0) : optM [c] = none := by
  unfold optM optF
  rw [if_neg h, if_neg h0]
theorem optM_cons (c n : UInt8) (q : List UInt8) (h : c ≠ 255) (h0 : c ≠ 0) : optM (c :: n :: q) = if q.length < n.toNat then none else (optM (q.drop n.toNat)).map fun x => ((c, q.take n.toNat) :: x.1, x.2) := by
  unfold optM
  rw [show (c :: n :: q : List UInt8).length + 1 = (q.length + 2) + 1 from rfl]
  conv => lhs; unfold optF
  rw [if_neg h, if_neg h0]
  simp only
  split
  · rfl
  · rw [optF_more (q.length + 2) (q.drop n.toNat) (by simp; omega) ((q.drop n.toNat).length + 1) (by omega)]
/-- An option that may be. -/
def okO (o : Opn) : Bool := decide (o.1 ≠ 0) && decide (o.1 ≠ 255) && decide (o.2.length ≤ 255)
def oneB (o : Opn) : List UInt8 := o.1 :: UInt8.ofNat o.2.length :: o.2
def optB (os : List Opn) : List UInt8 := (os.map oneB).flatten
/-- The same with nothings between. -/
def padB (os : List Opn) : List UInt8 := (os.map fun o => [0, 0] ++ oneB o ++ [0]).flatten
theorem optM_option (o : Opn) (h : okO o = true) (r : List UInt8) : optM (oneB o ++ r) = (optM r).map fun x => (o :: x.1, x.2) := by
  simp only [okO, Bool.and_eq_true, decide_eq_true_eq] at h
  have hn : (UInt8.ofNat o.2.length).toNat = o.2.length := by rw [UInt8.toNat_ofNat']; omega
  show optM (o.1 :: UInt8.ofNat o.2.length :: (o.2 ++ r)) = _
  rw [optM_cons _ _ _ h.1.2 h.1.1, hn, if_neg (by simp), List.drop_left, List.take_left]
theorem optM_laid : ∀ (os : List Opn) (h : ∀ o ∈ os, okO o = true) (r : List UInt8), optM (optB os ++ 255 :: r) = some (os, r)
  | [], _, r => optM_end r
  | o :: os, h, r => by
    have := optM_laid os (fun x hx => h x (by simp [hx])) r
    rw [show optB (o :: os) ++ 255 :: r = oneB o ++ (optB os ++ 255 :: r) from by simp [optB], optM_option o (h o (by simp)), this]
    rfl
theorem optM_pad : ∀ (os : List Opn) (h : ∀ o ∈ os, okO o = true) (r : List UInt8), optM (padB os ++ 255 :: r) = some (os, r)
  | [], _, r => optM_end r
  | o :: os, h, r => by
    have := optM_pad os (fun x hx => h x (by simp [hx])) r
    rw [show padB (o :: os) ++ 255 :: r = 0 :: 0 :: (oneB o ++ 0 :: (padB os ++ 255 :: r)) from by simp [padB], optM_zero, optM_zero, optM_option o (h o (by simp)), optM_zero, this]
    rfl
theorem optM_cut : ∀ (os : List Opn) (h : ∀ o ∈ os, okO o = true) (k : Nat), k ≤ (optB os).length → optM ((optB os).take k) = none
  | [], _, k, hk => by simp [optB, optM_nil]
  | o :: os, h, k, hk => by
    have ih := optM_cut os (fun x hx => h x (by simp [hx]))
    have ho := h o (by simp)
    rw [show optB (o :: os) = oneB o ++ optB os from by simp [optB]] at hk ⊢
    rcases Nat.lt_or_ge k (oneB o).length with h1 | h1
    · rw [List.take_append_of_le_length (by omega)]
      simp only [okO, Bool.and_eq_true, decide_eq_true_eq] at ho
      have hn : (UInt8.ofNat o.2.length).toNat = o.2.length := by rw [UInt8.toNat_ofNat']; omega
      match k, h1 with
      | 0, _ => exact optM_nil
      | 1, _ => exact optM_one _ ho.1.2 ho.1.1
      | k + 2, h1 =>
        simp only [oneB, List.length_cons] at h1
        show optM (o.1 :: UInt8.ofNat o.2.length :: o.2.take k) = none
        rw [optM_cons _ _ _ ho.1.2 ho.1.1, hn, if_pos (by simp; omega)]
    · rw [List.take_append, List.take_of_length_le h1, optM_option o ho, ih _ (by simp at hk; omega)]
      rfl
theorem optM_some (n : Nat) : ∀ (l : List UInt8), l.length ≤ n → ∀ os r, optM l = some (os, r) → (∀ o ∈ os, okO o = true) ∧ (optB os).length + 1 + r.length ≤ l.length := by
  induction n with
  | zero =>
    intro l hl os r h
    obtain rfl : l = [] := List.eq_nil_of_length_eq_zero (by omega)
    rw [optM_nil] at h
    cases h
  | succ n ih =>
    intro l hl os r h
    match l, hl, h with
    | [], _, h => rw [optM_nil] at h; cases h
    | c :: q, hl, h =>
      by_cases hc : c = 255
      · subst hc
        rw [optM_end] at h
        cases h
        exact ⟨fun o h => by simp at h, by simp [optB]; omega⟩
      · by_cases h0 : c = 0
        · subst h0
          rw [optM_zero] at h
          obtain ⟨h1, h2⟩ := ih q (by simp at hl; omega) os r h
          exact ⟨h1, by simp; omega⟩
        · match q, hl, h with
          | [], _, h => rw [optM_one c hc h0] at h; cases h
          | b :: q, hl, h =>
            rw [optM_cons c b q hc h0] at h
            split at h
            · cases h
            · rename_i hlt
              cases hm : optM (q.drop b.toNat) with
              | none => rw [hm] at h; cases h
              | some x =>
                rw [hm] at h
                simp only [Option.map_some, Option.some.injEq, Prod.mk.injEq] at h
                obtain ⟨rfl, rfl⟩ := h
                obtain ⟨h1, h2⟩ := ih (q.drop b.toNat) (by simp at hl ⊢; omega) x.1 x.2 hm
                have hb := b.toNat_lt
                refine ⟨fun o ho => ?_, ?_⟩
                · rcases List.mem_cons.1 ho with rfl | ho
                  · simp [okO, h0, hc]; omega
                  · exact h1 o ho
                · simp [optB, oneB] at h2 ⊢; omega
/-- The 236 bytes ahead of the four. -/
def headB (h : Dh) : List UInt8 := [h.op, 1, 6, h.hp] ++ (beM 4 h.xi ++ (beM 2 h.se ++ (beM 2 h.fl ++ (beM 4 h.ci ++ (beM 4 h.yo ++ (beM 4 h.ne ++ (beM 4 h.re ++ (h.st ++ (h.pd ++ (h.sv ++ h.fi))))))))))
theorem headB_len {h : Dh} (hs : h.six) : (headB h).length = 236 := by
  simp only [headB, List.length_append, beM_len, hs.st, hs.pd, hs.sv, hs.fi, List.length_cons, List.length_nil]
def formB (h : Dh) : List UInt8 := headB h ++ (mrk ++ (optB h.os ++ 255 :: h.bh))
def mayD (h : Dh) : Bool := decide (h.op = 1 ∨ h.op = 2) && h.os.all okO
def bytesD (h : Dh) : List UInt8 × Int := if mayD h = true then (formB h, 0) else ([], 1)
/-- What 236 bytes tell. -/
def headOf (l : List UInt8) : Dh := ⟨l.getD 0 0, l.getD 3 0, numM ((l.drop 4).take 4), numM ((l.drop 8).take 2), numM ((l.drop 10).take 2), numM ((l.drop 12).take 4), numM ((l.drop 16).take 4), numM ((l.drop 20).take 4), numM ((l.drop 24).take 4), (l.drop 28).take 6, (l.drop 34).take 10, (l.drop 44).take 64, (l.drop 108).take 128, [], []⟩
def wellB (l : List UInt8) : Bool := decide (l.getD 0 0 = 1 ∨ l.getD 0 0 = 2) && decide (l.getD 1 0 = 1) && decide (l.getD 2 0 = 6) && decide ((l.drop 236).take 4 = mrk)
def getD (l : List UInt8) : Dh × Int :=
  if l.length < 240 then (Dh.zero, 4) else if wellB l = false then (Dh.zero, 5) else
    match optM (l.drop 240) with
    | none => (Dh.zero, 4)
    | some x => ({ headOf l with os := x.1, bh := x.2 }, 0)
theorem numD_le {l : List UInt8} {n : Nat} (h : l.length ≤ n) : numM l < 256 ^ n := Nat.lt_of_lt_of_le (numM_lt l) (Nat.pow_le_pow_right (by decide) h)
theorem headOf_ok (l : List UInt8) (h : 240 ≤ l.length) : (headOf l).ok :=
  ⟨⟨by simp [headOf]; omega, by simp [headOf]; omega, by simp [headOf]; omega, by simp [headOf]; omega⟩, numD_le (n := 4) (by simp; omega), numD_le (n := 2) (by simp; omega), numD_le (n := 2) (by simp; omega), numD_le (n := 4) (by simp; omega), numD_le (n := 4) (by simp; omega), numD_le (n := 4) (by simp; omega), numD_le (n := 4) (by simp; omega)⟩
theorem getD_ok (l : List UInt8) : (getD l).1.ok := by
  unfold getD
  split
  · exact Dh.zero_ok
  · rename_i h
    split
    · exact Dh.zero_ok
    · split
      · exact Dh.zero_ok
      · have := headOf_ok l (by omega)
        exact ⟨⟨this.st, this.pd, this.sv, this.fi⟩, this.xi, this.se, this.fl, this.ci, this.yo, this.ne, this.re⟩
/-- Pieces of a row. -/
theorem drop_at {α : Type} (a b : List α) (n m : Nat) (h : a.length = n) : (a ++ b).drop (n + m) = b.drop m := by subst h; rw [← List.drop_drop, List.drop_left]
theorem take_at {α : Type} (a b : List α) (n : Nat) (h : a.length = n) : (a ++ b).take n = a := by subst h; exact List.take_left ..
theorem headOf_laid (h : Dh) (hk : h.ok) (r : List UInt8) : headOf (headB h ++ r) = { h with os := [], bh := [] } := by
  obtain ⟨op, hp, xi, se, fl, ci, yo, ne, re, st, pd, sv, fi, os, bh⟩ := h
  obtain ⟨⟨h1, h2, h3, h4⟩, n1, n2, n3, n4, n5, n6, n7⟩ := hk
  simp only at h1 h2 h3 h4 n1 n2 n3 n4 n5 n6 n7
  have e0 : headB ⟨op, hp, xi, se, fl, ci, yo, ne, re, st, pd, sv, fi, os, bh⟩ ++ r = [op, 1, 6, hp] ++ (beM 4 xi ++ (beM 2 se ++ (beM 2 fl ++ (beM 4 ci ++ (beM 4 yo ++ (beM 4 ne ++ (beM 4 re ++ (st ++ (pd ++ (sv ++ (fi ++ r))))))))))) := by simp [headB]
  rw [e0]
  have d4 := drop_at [op, 1, 6, hp] (beM 4 xi ++ (beM 2 se ++ (beM 2 fl ++ (beM 4 ci ++ (beM 4 yo ++ (beM 4 ne ++ (beM 4 re ++ (st ++ (pd ++ (sv ++ (fi ++ r))))))))))) 4 0 rfl
  have d8 := drop_at [op, 1, 6, hp] (beM 4 xi ++ (beM 2 se ++ (beM 2 fl ++ (beM 4 ci ++ (beM 4 yo ++ (beM 4 ne ++ (beM 4 re ++ (st ++ (pd ++ (sv ++ (fi ++ r))))))))))) 4 4 rfl
  have d10 := drop_at [op, 1, 6, hp] (beM 4 xi ++ (beM 2 se ++ (beM 2 fl ++ (beM 4 ci ++ (beM 4 yo ++ (beM 4 ne ++ (beM 4 re ++ (st ++ (pd ++ (sv ++ (fi ++ r))))))))))) 4 6 rfl
  have d12 := drop_at [op, 1, 6, hp] (beM 4 xi ++ (beM 2 se ++ (beM 2 fl ++ (beM 4 ci ++ (beM 4 yo ++ (beM 4 ne ++ (beM 4 re ++ (st ++ (pd ++ (sv ++ (fi ++ r))))))))))) 4 8 rfl
  have d16 := drop_at [op, 1, 6, hp] (beM 4 xi ++ (beM 2 se ++ (beM 2 fl ++ (beM 4 ci ++ (beM 4 yo ++ (beM 4 ne ++ (beM 4 re ++ (st ++ (pd ++ (sv ++ (fi ++ r))))))))))) 4 12 rfl
  have d20 := drop_at [op, 1, 6, hp] (beM 4 xi ++ (beM 2 se ++ (beM 2 fl ++ (beM 4 ci ++ (beM 4 yo ++ (beM 4 ne ++ (beM 4 re ++ (st ++ (pd ++ (sv ++ (fi ++ r))))))))))) 4 16 rfl
  have d24 := drop_at [op, 1, 6, hp] (beM 4 xi ++ (beM 2 se ++ (beM 2 fl ++ (beM 4 ci ++ (beM 4 yo ++ (beM 4 ne ++ (beM 4 re ++ (st ++ (pd ++ (sv ++ (fi ++ r))))))))))) 4 20 rfl
  have d28 := drop_at [op, 1, 6, hp] (beM 4 xi ++ (beM 2 se ++ (beM 2 fl ++ (beM 4 ci ++ (beM 4 yo ++ (beM 4 ne ++ (beM 4 re ++ (st ++ (pd ++ (sv ++ (fi ++ r))))))))))) 4 24 rfl
  have d34 := drop_at [op, 1, 6, hp] (beM 4 xi ++ (beM 2 se ++ (beM 2 fl ++ (beM 4 ci ++ (beM 4 yo ++ (beM 4 ne ++ (beM 4 re ++ (st ++ (pd ++ (sv ++ (fi ++ r))))))))))) 4 30 rfl
  have d44 := drop_at [op, 1, 6, hp] (beM 4 xi ++ (beM 2 se ++ (beM 2 fl ++ (beM 4 ci ++ (beM 4 yo ++ (beM 4 ne ++ (beM 4 re ++ (st ++ (pd ++ (sv ++ (fi ++ r))))))))))) 4 40 rfl
  have d108 := drop_at [op, 1, 6, hp] (beM 4 xi ++ (beM 2 se ++ (beM 2 fl ++ (beM 4 ci ++ (beM 4 yo ++ (beM 4 ne ++ (beM 4 re ++ (st ++ (pd ++ (sv ++ (fi ++ r))))))))))) 4 104 rfl
  rw [List.drop_zero] at d4
  have f4 := fun (x : Nat) (q : List UInt8) (m : Nat) => drop_at (beM 4 x) q 4 m (beM_len 4 x)
  have f2 := fun (x : Nat) (q : List UInt8) (m : Nat) => drop_at (beM 2 x) q 2 m (beM_len 2 x)
  have fs := fun (q : List UInt8) (m : Nat) => drop_at st q 6 m h1
  have fp := fun (q : List UInt8) (m : Nat) => drop_at pd q 10 m h2
  have fv := fun (q : List UInt8) (m : Nat) => drop_at sv q 64 m h3
  have t4 := fun (x : Nat) (q : List UInt8) => take_at (beM 4 x) q 4 (beM_len 4 x)
  have t2 := fun (x : Nat) (q : List UInt8) => take_at (beM 2 x) q 2 (beM_len 2 x)
  have g8 := d8.trans (f4 xi _ 0)
  have g10 := (d10.trans (f4 xi _ 2)).trans (f2 se _ 0)
  have g12 := ((d12.trans (f4 xi _ 4)).trans (f2 se _ 2)).trans (f2 fl _ 0)
  have g16 := (((d16.trans (f4 xi _ 8)).trans (f2 se _ 6)).trans (f2 fl _ 4)).trans (f4 ci _ 0)
  have g20 := ((((d20.trans (f4 xi _ 12)).trans (f2 se _ 10)).trans (f2 fl _ 8)).trans (f4 ci _ 4)).trans (f4 yo _ 0)
  have g24 := (((((d24.trans (f4 xi _ 16)).trans (f2 se _ 14)).trans (f2 fl _ 12)).trans (f4 ci _ 8)).trans (f4 yo _ 4)).trans (f4 ne _ 0)
  have g28 := ((((((d28.trans (f4 xi _ 20)).trans (f2 se _ 18)).trans (f2 fl _ 16)).trans (f4 ci _ 12)).trans (f4 yo _ 8)).trans (f4 ne _ 4)).trans (f4 re _ 0)
  have g34 := (((((((d34.trans (f4 xi _ 26)).trans (f2 se _ 24)).trans (f2 fl _ 22)).trans (f4 ci _ 18)).trans (f4 yo _ 14)).trans (f4 ne _ 10)).trans (f4 re _ 6)).trans (fs _ 0)
  have g44 := ((((((((d44.trans (f4 xi _ 36)).trans (f2 se _ 34)).trans (f2 fl _ 32)).trans (f4 ci _ 28)).trans (f4 yo _ 24)).trans (f4 ne _ 20)).trans (f4 re _ 16)).trans (fs _ 10)).trans (fp _ 0)
  have g108 := (((((((((d108.trans (f4 xi _ 100)).trans (f2 se _ 98)).trans (f2 fl _ 96)).trans (f4 ci _ 92)).trans (f4 yo _ 88)).trans (f4 ne _ 84)).trans (f4 re _ 80)).trans (fs _ 74)).trans (fp _ 64)).trans (fv _ 0)
  rw [List.drop_zero] at g8 g10 g12 g16 g20 g24 g28 g34 g44 g108
  unfold headOf
  rw [d4, g8, g10, g12, g16, g20, g24, g28, g34, g44, g108, t4, t2, t2, t4, t4, t4, t4, take_at st _ 6 h1, take_at pd _ 10 h2, take_at sv _ 64 h3, take_at fi _ 128 h4, dnum4 xi n1, dnum2 se n2, dnum2 fl n3, dnum4 ci n4, dnum4 yo n5, dnum4 ne n6, dnum4 re n7]
  rfl
theorem piece {α : Type} (l : List α) (a n m : Nat) (h : a + n = m) : (l.drop a).take n ++ l.drop m = l.drop a := by
  subst h
  rw [← List.drop_drop, List.take_append_drop]
theorem headB_of (l : List UInt8) (h : 240 ≤ l.length) (h1 : l.getD 1 0 = 1) (h2 : l.getD 2 0 = 6) (os : List Opn) (bh : List UInt8) : headB { headOf l with os := os, bh := bh } = l.take 236 := by
  have e4 : ∀ k, k + 4 ≤ 240 → beM 4 (numM ((l.drop k).take 4)) = (l.drop k).take 4 := fun k hk => be_num4 _ (by simp; omega)
  have e2 : ∀ k, k + 2 ≤ 240 → beM 2 (numM ((l.drop k).take 2)) = (l.drop k).take 2 := fun k hk => be_num2 _ (by simp; omega)
  have e0 : [l.getD 0 0, 1, 6, l.getD 3 0] = l.take 4 := by
    rw [← h1, ← h2]
    match l, h with
    | a :: b :: c :: d :: r, _ => rfl
  have hj : headB { headOf l with os := os, bh := bh } ++ l.drop 236 = l := by
    simp only [headB, headOf]
    rw [e0, e4 4 (by omega), e2 8 (by omega), e2 10 (by omega), e4 12 (by omega), e4 16 (by omega), e4 20 (by omega), e4 24 (by omega)]
    simp only [List.append_assoc]
    rw [piece l 108 128 236 rfl, piece l 44 64 108 rfl, piece l 34 10 44 rfl, piece l 28 6 34 rfl, piece l 24 4 28 rfl, piece l 20 4 24 rfl, piece l 16 4 20 rfl, piece l 12 4 16 rfl, piece l 10 2 12 rfl, piece l 8 2 10 rfl, piece l 4 4 8 rfl, List.take_append_drop]
  have hl : (headB { headOf l with os := os, bh := bh }).length = 236 := headB_len ⟨(headOf_ok l h).st, (headOf_ok l h).pd, (headOf_ok l h).sv, (headOf_ok l h).fi⟩
  conv => rhs; rw [← hj]
  exact (take_at _ _ 236 hl).symm
theorem wellB_laid (h : Dh) (hk : h.six) (ho : h.op = 1 ∨ h.op = 2) (r : List UInt8) : wellB (headB h ++ (mrk ++ r)) = true := by
  have hd : ((headB h ++ (mrk ++ r)).drop 236).take 4 = mrk := by
    have := drop_at (headB h) (mrk ++ r) 236 0 (headB_len hk)
    rw [this, List.drop_zero]
    rfl
  unfold wellB
  rw [hd]
  have e : ∀ k, k < 4 → (headB h ++ (mrk ++ r)).getD k 0 = [h.op, 1, 6, h.hp].getD k 0 := by
    intro k hk
    rw [show headB h ++ (mrk ++ r) = [h.op, 1, 6, h.hp] ++ ((beM 4 h.xi ++ (beM 2 h.se ++ (beM 2 h.fl ++ (beM 4 h.ci ++ (beM 4 h.yo ++ (beM 4 h.ne ++ (beM 4 h.re ++ (h.st ++ (h.pd ++ (h.sv ++ h.fi)))))))))) ++ (mrk ++ r)) from by simp [headB]]
    match k, hk with
    | 0, _ => rfl
    | 1, _ => rfl
    | 2, _ => rfl
    | 3, _ => rfl
  rw [e 0 (by omega), e 1 (by omega), e 2 (by omega)]
  simp [ho]
theorem getD_form (h : Dh) (hk : h.ok) (ho : h.op = 1 ∨ h.op = 2) (r : List UInt8) : getD (headB h ++ (mrk ++ r)) = match optM r with
    | none => (Dh.zero, 4)
    | some x => ({ h with os := x.1, bh := x.2 }, 0) := by
  have hl := headB_len hk.s6
  unfold getD
  rw [if_neg (by simp [hl, mrk]; omega), if_neg (by rw [wellB_laid h hk.s6 ho]; simp), show (headB h ++ (mrk ++ r)).drop 240 = r from by
    have := drop_at (headB h) (mrk ++ r) 236 4 hl
    rw [this]
    rfl, headOf_laid h hk]
/-- There and back. -/
theorem getD_laid (h : Dh) (hk : h.ok) (hm : mayD h = true) : getD (formB h) = (h, 0) := by
  simp only [mayD, Bool.and_eq_true, decide_eq_true_eq, List.all_eq_true] at hm
  unfold formB
  rw [getD_form h hk hm.1, optM_laid h.os hm.2]
theorem getD_pad (h : Dh) (hk : h.ok) (hm : mayD h = true) : getD (headB h ++ (mrk ++ (padB h.os ++ 255 :: h.bh))) = (h, 0) := by
  simp only [mayD, Bool.and_eq_true, decide_eq_true_eq, List.all_eq_true] at hm
  rw [getD_form h hk hm.1, optM_pad h.os hm.2]
theorem getD_cut (h : Dh) (hk : h.ok) (hm : mayD h = true) (k : Nat) (hlt : k < 241 + (optB h.os).length) : (getD ((formB h).take k)).2 = 4 := by
  simp only [mayD, Bool.and_eq_true, decide_eq_true_eq, List.all_eq_true] at hm
  have hl := headB_len hk.s6
  rcases Nat.lt_or_ge k 240 with h1 | h1
  · unfold getD
    rw [if_pos (by simp; omega)]
  · have : (formB h).take k = headB h ++ (mrk ++ (optB h.os).take (k - 240)) := by
      unfold formB
      rw [List.take_append, hl, List.take_of_length_le (by omega), List.take_append, List.take_of_length_le (show mrk.length ≤ k - 236 by simp [mrk]; omega), List.take_append_of_le_length (by simp [mrk]; omega)]
      simp [mrk]
      rw [show k - 236 - 4 = k - 240 from by omega]
    rw [this, getD_form h hk hm.1, optM_cut h.os hm.2 _ (by omega)]
/-- What is got may be, and is no longer than what was read. -/
theorem getD_may (l : List UInt8) (h0 : (getD l).2 = 0) : mayD (getD l).1 = true ∧ (formB (getD l).1).length ≤ l.length := by
  unfold getD at h0 ⊢
  split at h0
  · cases h0
  · rename_i h1
    split at h0
    · cases h0
    · rename_i h2
      rw [if_neg h1, if_neg h2]
      cases hm : optM (l.drop 240) with
      | none => rw [hm] at h0; cases h0
      | some x =>
        obtain ⟨h3, h4⟩ := optM_some _ (l.drop 240) (Nat.le_refl _) x.1 x.2 hm
        have h5 : wellB l = true := by simpa using h2
        simp only [wellB, Bool.and_eq_true, decide_eq_true_eq] at h5
        refine ⟨?_, ?_⟩
        · simp only [mayD, Bool.and_eq_true, decide_eq_true_eq, List.all_eq_true]
          exact ⟨h5.1.1.1, h3⟩
        · have := headB_of l (by omega) h5.1.1.2 h5.1.2 x.1 x.2
          simp only [formB, List.length_append, List.length_cons, this]
          simp [mrk] at h4 ⊢
          omega
theorem getD_err (l : List UInt8) : (getD l).2 = 0 ∨ ((getD l).1 = Dh.zero ∧ ((getD l).2 = 4 ∨ (getD l).2 = 5)) := by
  unfold getD
  split
  · exact .inr ⟨rfl, .inl rfl⟩
  · split
    · exact .inr ⟨rfl, .inr rfl⟩
    · split
      · exact .inr ⟨rfl, .inl rfl⟩
      · exact .inl rfl
end Go.Proofs.Ythjfeanmgaidcaa
