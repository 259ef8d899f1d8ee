/- Texts that belong together, one behind the other: Num, BpA. Conditions: those of each. -/
import Derived.Test.YthjfeanmgaidcaaMg0
import Derived.Test.YthjfeanmgaidcaaProg
import Derived.Test.YthjfeanmgaidcaaMg3
import Derived.Deep.DeepCutAuto
/- Numbers and their bytes, in plain words. Nothing of the program is named here. -/
namespace Go.Proofs.Ythjfeanmgaidcaa
set_option linter.unusedVariables false

/-- A number out of bytes, the highest first. -/
def numM (l : List UInt8) : Nat := l.foldl (fun a b => a * 256 + b.toNat) 0
theorem numM_snoc (l : List UInt8) (b : UInt8) : numM (l ++ [b]) = numM l * 256 + b.toNat := by simp [numM]
theorem foldn_lt (l : List UInt8) (a : Nat) : l.foldl (fun a b => a * 256 + b.toNat) a < (a + 1) * 256 ^ l.length := by
  induction l generalizing a with
  | nil => simp
  | cons b l ih =>
    have h1 := ih (a * 256 + b.toNat)
    have h2 := b.toNat_lt
    have h3 : (a * 256 + b.toNat + 1) * 256 ^ l.length ≤ (a + 1) * 256 * 256 ^ l.length := Nat.mul_le_mul_right _ (by omega)
    simp only [List.foldl_cons, List.length_cons, Nat.pow_succ]
    rw [Nat.mul_comm (256 ^ l.length) 256, ← Nat.mul_assoc]
    omega
theorem numM_lt (l : List UInt8) : numM l < 256 ^ l.length := by have := foldn_lt l 0; simpa [numM] using this
theorem six_of (l : List UInt8) (h : l.length = 6) : ∃ a b c d e f, l = [a, b, c, d, e, f] := by
  match l, h with
  | [a, b, c, d, e, f], _ => exact ⟨a, b, c, d, e, f, rfl⟩
/-- A number's bytes, W of them, the highest first. -/
def beM (W x : Nat) : List UInt8 := (List.range W).map fun j => UInt8.ofNat (x / 2 ^ (8 * (W - 1 - j)))
theorem beM_len (W x : Nat) : (beM W x).length = W := by simp [beM]
def beAll (W : Nat) (xs : List Nat) : List UInt8 := (xs.map (beM W)).flatten
theorem beAll_snoc (W : Nat) (xs : List Nat) (k : Nat) (h : k < xs.length) : beAll W (xs.take (k + 1)) = beAll W (xs.take k) ++ beM W xs[k] := by
  rw [List.take_succ_eq_append_getElem h]
  simp only [beAll, List.map_append, List.flatten_append, List.map_cons, List.map_nil, List.flatten_cons, List.flatten_nil, List.append_nil]
theorem beAll_len (W : Nat) (xs : List Nat) : (beAll W xs).length = xs.length * W := by
  induction xs with
  | nil => simp [beAll]
  | cons x xs ih => simp only [beAll, List.map_cons, List.flatten_cons, List.length_append, beM_len, List.length_cons] at ih ⊢; rw [ih, Nat.add_mul]; omega
theorem bys_set (l : List UInt8) (i : Nat) (b : UInt8) : (bys l).set i (.int .u8 (b.toNat : Int)) = bys (l.set i b) := by simp [bys, List.map_set]
end Go.Proofs.Ythjfeanmgaidcaa
/- Package bpdu: messages as plain data, and as cells. -/
namespace Go.Proofs.Ythjfeanmgaidcaa
open Go.RowKit Go.Sort
set_option linter.unusedVariables false

/-- A message: its kind, flags, root, bridge, cost, port, age, greatest age, hello, delay. -/
structure Bp where
  kd : Int
  fl : Nat
  ro : Nat
  br : Nat
  co : Nat
  po : Nat
  ag : Nat
  ma : Nat
  he : Nat
  de : Nat
  deriving DecidableEq
structure Bp.ok (m : Bp) : Prop where
  k0 : -9223372036854775808 ≤ m.kd
  k1 : m.kd ≤ 9223372036854775807
  fl : m.fl < 256
  ro : m.ro < 18446744073709551616
  br : m.br < 18446744073709551616
  co : m.co < 4294967296
  po : m.po < 65536
  ag : m.ag < 65536
  ma : m.ma < 65536
  he : m.he < 65536
  de : m.de < 65536
def Bp.zero : Bp := ⟨0, 0, 0, 0, 0, 0, 0, 0, 0, 0⟩
def Bp.chg : Bp := ⟨2, 0, 0, 0, 0, 0, 0, 0, 0, 0⟩
theorem Bp.zero_ok : Bp.zero.ok := ⟨by decide, by decide, by decide, by decide, by decide, by decide, by decide, by decide, by decide, by decide, by decide⟩
theorem Bp.chg_ok : Bp.chg.ok := ⟨by decide, by decide, by decide, by decide, by decide, by decide, by decide, by decide, by decide, by decide, by decide⟩
def mayB (m : Bp) : Bool := if m.kd = 1 ∨ m.kd = 3 then decide (m.ag < m.ma) else if m.kd = 2 then decide (m = Bp.chg) else false
def fstB (m : Bp) : Nat := if m.kd = 1 then 0 else if m.kd = 3 then 514 else 128
/-- What stands behind the first four bytes. -/
def fldB (m : Bp) : List UInt8 := beM 1 m.fl ++ (beM 8 m.ro ++ (beM 4 m.co ++ (beM 8 m.br ++ (beM 2 m.po ++ (beM 2 m.ag ++ (beM 2 m.ma ++ (beM 2 m.he ++ beM 2 m.de)))))))
def endB (m : Bp) : List UInt8 := if m.kd = 3 then [0] else []
def forB (m : Bp) : List UInt8 := beM 4 (fstB m) ++ (if m.kd = 2 then [] else fldB m ++ endB m)
def putB (m : Bp) : List UInt8 × Int := if mayB m then (forB m, 0) else ([], 1)
theorem fldB_len (m : Bp) : (fldB m).length = 31 := by simp only [fldB, List.length_append, beM_len]
theorem forB_le (m : Bp) : (forB m).length ≤ 36 := by
  unfold forB endB
  split
  · simp [beM_len]
  · split <;> simp [beM_len, fldB_len]
theorem forB_ge (m : Bp) : 4 ≤ (forB m).length := by
  unfold forB
  rw [List.length_append, beM_len]
  omega
def cmp1 (x y : Nat) : Int := if x < y then -1 else if y < x then 1 else 0
def orI (l : List Int) : Int := match l with
  | [] => 0
  | x :: l => if x = 0 then orI l else x
def cpdB (m : Bp) : Bp := if m.kd = 2 then Bp.chg else m
def cmpL (a b : Bp) : List Int := [cmp1 a.ro b.ro, cmp1 a.co b.co, cmp1 a.br b.br, cmp1 a.po b.po]
def cmpB (a b : Bp) : Int := orI (cmpL (cpdB a) (cpdB b))
theorem cpdB_ok {m : Bp} (h : m.ok) : (cpdB m).ok := by unfold cpdB; split; exact Bp.chg_ok; exact h

/-- A message's cells. -/
def bpl (m : Bp) : List Value := [.int .i64 m.kd, .int .u8 (m.fl : Int), .int .u64 (m.ro : Int), .int .u64 (m.br : Int), .int .u32 (m.co : Int), .int .u16 (m.po : Int), .int .u16 (m.ag : Int), .int .u16 (m.ma : Int), .int .u16 (m.he : Int), .int .u16 (m.de : Int)]
theorem bpl_one (m : Bp) : ∀ v ∈ bpl m, v.oneCell' = true := by
  intro v hv
  simp only [bpl, List.mem_cons, List.not_mem_nil, or_false] at hv
  rcases hv with rfl | rfl | rfl | rfl | rfl | rfl | rfl | rfl | rfl | rfl <;> rfl
def bpv (m : Bp) : Value := .agg (bpl m).toArray
def BPB (W : World) (g : Nat) (T : TypeId) (m : Bp) : Prop := Blo W g T (bpl m).toArray
section
variable {W W' : World} {g : Nat} {T : TypeId} {m : Bp}
theorem BPB.all (b : BPB W g T m) : Row W g 0 (bpl m) := Blo.row [] _ [] (by rw [List.nil_append, List.append_nil]; exact b)
theorem BPB.kept {F : Nat → Prop} (b : BPB W g T m) (k : Kept F W W') (hg : ¬ F g) : BPB W' g T m := Blo.kept b k hg
theorem BPB.new (W : World) (T : TypeId) (m : Bp) : BPB (W.alloc (.cells (bpl m).toArray T)) W.heap.size T m := Blo.new W T _
theorem BPB.lt (b : BPB W g T m) : g < W.heap.size := Blo.lt b
theorem BPB.c0 (b : BPB W g T m) : W.cell? ⟨g, 0, none⟩ = some (.int .i64 m.kd) := b.all 0 _ rfl
theorem BPB.c1 (b : BPB W g T m) : W.cell? ⟨g, 1, none⟩ = some (.int .u8 (m.fl : Int)) := b.all 1 _ rfl
theorem BPB.c2 (b : BPB W g T m) : W.cell? ⟨g, 2, none⟩ = some (.int .u64 (m.ro : Int)) := b.all 2 _ rfl
theorem BPB.c3 (b : BPB W g T m) : W.cell? ⟨g, 3, none⟩ = some (.int .u64 (m.br : Int)) := b.all 3 _ rfl
theorem BPB.c4 (b : BPB W g T m) : W.cell? ⟨g, 4, none⟩ = some (.int .u32 (m.co : Int)) := b.all 4 _ rfl
theorem BPB.c5 (b : BPB W g T m) : W.cell? ⟨g, 5, none⟩ = some (.int .u16 (m.po : Int)) := b.all 5 _ rfl
theorem BPB.c6 (b : BPB W g T m) : W.cell? ⟨g, 6, none⟩ = some (.int .u16 (m.ag : Int)) := b.all 6 _ rfl
theorem BPB.c7 (b : BPB W g T m) : W.cell? ⟨g, 7, none⟩ = some (.int .u16 (m.ma : Int)) := b.all 7 _ rfl
theorem BPB.c8 (b : BPB W g T m) : W.cell? ⟨g, 8, none⟩ = some (.int .u16 (m.he : Int)) := b.all 8 _ rfl
theorem BPB.c9 (b : BPB W g T m) : W.cell? ⟨g, 9, none⟩ = some (.int .u16 (m.de : Int)) := b.all 9 _ rfl
/-- Stored anew as a whole. -/
theorem BPB.of_all {m' : Bp} (h : Blo W g T ((bpl m).take 0 ++ bpl m' ++ (bpl m).drop (0 + (bpl m').length)).toArray) : BPB W g T m' := h
end
theorem infBp (m : Bp) : (Try.prog.info? 52).map (·.size) = some (bpl m).length := by show _ = some 10; kernel_rfl
theorem nat_eqI (a b : Nat) : ((a : Int) == (b : Int)) = decide (a = b) := by rw [Bool.eq_iff_iff]; simp; omega
theorem int_eqI (a b : Int) : (a == b) = decide (a = b) := by rw [Bool.eq_iff_iff]; simp
theorem bd_bp (w : World) (x : Int) : (Instr.build 52 #[(0, .int .i64 x)]).run Try.prog w = .ok (bpv ⟨x, 0, 0, 0, 0, 0, 0, 0, 0, 0⟩) w := by kernel_rfl
theorem bd_b0 (w : World) : (Instr.build 52 #[]).run Try.prog w = .ok (bpv Bp.zero) w := by kernel_rfl
/-- Messages are told apart. -/
theorem eq_bp (p q : Bp) (w : World) : (Op.equalIn 10000 52 (bpv p) (bpv q)).run Try.prog w = .ok (decide (p = q)) w := by
  unfold bpv
  rw [run_equalIn_struct w 9999 52 _ _ (by kernel_rfl) (by kernel_rfl)]
  simp only [Program.fieldsOf, Try.underlying52]
  show (Op.eqFields 9999 (bpl p).toArray (bpl q).toArray _).run Try.prog w = _
  have hd : decide (p = q) = (decide (p.kd = q.kd) && (decide (p.fl = q.fl) && (decide (p.ro = q.ro) && (decide (p.br = q.br) && (decide (p.co = q.co) && (decide (p.po = q.po) && (decide (p.ag = q.ag) && (decide (p.ma = q.ma) && (decide (p.he = q.he) && (decide (p.de = q.de) && true)))))))))) := by
    rw [Bool.eq_iff_iff]
    cases p
    cases q
    simp
  rw [hd]
  refine eqFields_step (.int .i64 p.kd) (.int .i64 q.kd) (by simp) ?_ ?_ ?_ ?_
  · exact (part_one [] _ (.int .i64 p.kd) 0 rfl Try.underlying3 rfl)
  · exact (part_one [] _ (.int .i64 q.kd) 0 rfl Try.underlying3 rfl)
  · exact (by rw [run_equalIn_int _ _ _ _ _ _ _ Try.underlying3, int_eqI])
  refine eqFields_step (.int .u8 (p.fl : Int)) (.int .u8 (q.fl : Int)) (by simp) ?_ ?_ ?_ ?_
  · exact (part_one [.int .i64 p.kd] _ (.int .u8 (p.fl : Int)) 1 rfl Try.underlying5 rfl)
  · exact (part_one [.int .i64 q.kd] _ (.int .u8 (q.fl : Int)) 1 rfl Try.underlying5 rfl)
  · exact (by rw [run_equalIn_int _ _ _ _ _ _ _ Try.underlying5, nat_eqI])
  refine eqFields_step (.int .u64 (p.ro : Int)) (.int .u64 (q.ro : Int)) (by simp) ?_ ?_ ?_ ?_
  · exact (part_one [.int .i64 p.kd, .int .u8 (p.fl : Int)] _ (.int .u64 (p.ro : Int)) 2 rfl Try.underlying50 rfl)
  · exact (part_one [.int .i64 q.kd, .int .u8 (q.fl : Int)] _ (.int .u64 (q.ro : Int)) 2 rfl Try.underlying50 rfl)
  · exact (by rw [run_equalIn_int _ _ _ _ _ _ _ Try.underlying50, nat_eqI])
  refine eqFields_step (.int .u64 (p.br : Int)) (.int .u64 (q.br : Int)) (by simp) ?_ ?_ ?_ ?_
  · exact (part_one [.int .i64 p.kd, .int .u8 (p.fl : Int), .int .u64 (p.ro : Int)] _ (.int .u64 (p.br : Int)) 3 rfl Try.underlying50 rfl)
  · exact (part_one [.int .i64 q.kd, .int .u8 (q.fl : Int), .int .u64 (q.ro : Int)] _ (.int .u64 (q.br : Int)) 3 rfl Try.underlying50 rfl)
  · exact (by rw [run_equalIn_int _ _ _ _ _ _ _ Try.underlying50, nat_eqI])
  refine eqFields_step (.int .u32 (p.co : Int)) (.int .u32 (q.co : Int)) (by simp) ?_ ?_ ?_ ?_
  · exact (part_one [.int .i64 p.kd, .int .u8 (p.fl : Int), .int .u64 (p.ro : Int), .int .u64 (p.br : Int)] _ (.int .u32 (p.co : Int)) 4 rfl Try.underlying22 rfl)
  · exact (part_one [.int .i64 q.kd, .int .u8 (q.fl : Int), .int .u64 (q.ro : Int), .int .u64 (q.br : Int)] _ (.int .u32 (q.co : Int)) 4 rfl Try.underlying22 rfl)
  · exact (by rw [run_equalIn_int _ _ _ _ _ _ _ Try.underlying22, nat_eqI])
  refine eqFields_step (.int .u16 (p.po : Int)) (.int .u16 (q.po : Int)) (by simp) ?_ ?_ ?_ ?_
  · exact (part_one [.int .i64 p.kd, .int .u8 (p.fl : Int), .int .u64 (p.ro : Int), .int .u64 (p.br : Int), .int .u32 (p.co : Int)] _ (.int .u16 (p.po : Int)) 5 rfl Try.underlying23 rfl)
  · exact (part_one [.int .i64 q.kd, .int .u8 (q.fl : Int), .int .u64 (q.ro : Int), .int .u64 (q.br : Int), .int .u32 (q.co : Int)] _ (.int .u16 (q.po : Int)) 5 rfl Try.underlying23 rfl)
  · exact (by rw [run_equalIn_int _ _ _ _ _ _ _ Try.underlying23, nat_eqI])
  refine eqFields_step (.int .u16 (p.ag : Int)) (.int .u16 (q.ag : Int)) (by simp) ?_ ?_ ?_ ?_
  · exact (part_one [.int .i64 p.kd, .int .u8 (p.fl : Int), .int .u64 (p.ro : Int), .int .u64 (p.br : Int), .int .u32 (p.co : Int), .int .u16 (p.po : Int)] _ (.int .u16 (p.ag : Int)) 6 rfl Try.underlying23 rfl)
  · exact (part_one [.int .i64 q.kd, .int .u8 (q.fl : Int), .int .u64 (q.ro : Int), .int .u64 (q.br : Int), .int .u32 (q.co : Int), .int .u16 (q.po : Int)] _ (.int .u16 (q.ag : Int)) 6 rfl Try.underlying23 rfl)
  · exact (by rw [run_equalIn_int _ _ _ _ _ _ _ Try.underlying23, nat_eqI])
  refine eqFields_step (.int .u16 (p.ma : Int)) (.int .u16 (q.ma : Int)) (by simp) ?_ ?_ ?_ ?_
  · exact (part_one [.int .i64 p.kd, .int .u8 (p.fl : Int), .int .u64 (p.ro : Int), .int .u64 (p.br : Int), .int .u32 (p.co : Int), .int .u16 (p.po : Int), .int .u16 (p.ag : Int)] _ (.int .u16 (p.ma : Int)) 7 rfl Try.underlying23 rfl)
  · exact (part_one [.int .i64 q.kd, .int .u8 (q.fl : Int), .int .u64 (q.ro : Int), .int .u64 (q.br : Int), .int .u32 (q.co : Int), .int .u16 (q.po : Int), .int .u16 (q.ag : Int)] _ (.int .u16 (q.ma : Int)) 7 rfl Try.underlying23 rfl)
  · exact (by rw [run_equalIn_int _ _ _ _ _ _ _ Try.underlying23, nat_eqI])
  refine eqFields_step (.int .u16 (p.he : Int)) (.int .u16 (q.he : Int)) (by simp) ?_ ?_ ?_ ?_
  · exact (part_one [.int .i64 p.kd, .int .u8 (p.fl : Int), .int .u64 (p.ro : Int), .int .u64 (p.br : Int), .int .u32 (p.co : Int), .int .u16 (p.po : Int), .int .u16 (p.ag : Int), .int .u16 (p.ma : Int)] _ (.int .u16 (p.he : Int)) 8 rfl Try.underlying23 rfl)
  · exact (part_one [.int .i64 q.kd, .int .u8 (q.fl : Int), .int .u64 (q.ro : Int), .int .u64 (q.br : Int), .int .u32 (q.co : Int), .int .u16 (q.po : Int), .int .u16 (q.ag : Int), .int .u16 (q.ma : Int)] _ (.int .u16 (q.he : Int)) 8 rfl Try.underlying23 rfl)
  · exact (by rw [run_equalIn_int _ _ _ _ _ _ _ Try.underlying23, nat_eqI])
  refine eqFields_step (.int .u16 (p.de : Int)) (.int .u16 (q.de : Int)) (by simp) ?_ ?_ ?_ ?_
  · exact (part_one [.int .i64 p.kd, .int .u8 (p.fl : Int), .int .u64 (p.ro : Int), .int .u64 (p.br : Int), .int .u32 (p.co : Int), .int .u16 (p.po : Int), .int .u16 (p.ag : Int), .int .u16 (p.ma : Int), .int .u16 (p.he : Int)] _ (.int .u16 (p.de : Int)) 9 rfl Try.underlying23 rfl)
  · exact (part_one [.int .i64 q.kd, .int .u8 (q.fl : Int), .int .u64 (q.ro : Int), .int .u64 (q.br : Int), .int .u32 (q.co : Int), .int .u16 (q.po : Int), .int .u16 (q.ag : Int), .int .u16 (q.ma : Int), .int .u16 (q.he : Int)] _ (.int .u16 (q.de : Int)) 9 rfl Try.underlying23 rfl)
  · exact (by rw [run_equalIn_int _ _ _ _ _ _ _ Try.underlying23, nat_eqI])
  rfl
end Go.Proofs.Ythjfeanmgaidcaa
