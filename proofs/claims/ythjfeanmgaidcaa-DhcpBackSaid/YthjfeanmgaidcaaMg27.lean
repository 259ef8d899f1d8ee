/- Texts that belong together, one behind the other: MkC, DhX. Conditions: those of each. -/
import Derived.Test.YthjfeanmgaidcaaMg5
import Derived.Test.YthjfeanmgaidcaaMg3
import Derived.Laws.MakeOwn
import Derived.OwnWalk
import Derived.Deep.DeepCutAuto
import Derived.Test.YthjfeanmgaidcaaDhG
import Derived.Test.YthjfeanmgaidcaaMg20
/- Bytes made by make([]byte, n): the block known whole. -/
namespace Go.Proofs.Ythjfeanmgaidcaa
open Go.RowKit Go.Sort
set_option linter.unusedVariables false

theorem made_bysC (n : Nat) : (madeCells (Value.int .u8 0).cells (n * 1)).toList = bys (List.replicate n 0) := by
  rw [Nat.mul_one]
  apply List.ext_getElem?
  intro i
  by_cases h : i < n
  · simp [madeCells, bys, Value.cells, h, Nat.mod_one]
  · simp [madeCells, bys, Value.cells, h]
theorem wpList_mkC {w : World} {ops : Array Oper} {rest : List Oper} {o : Oper} {a : Act} {Q : Exit → Act → World → Prop} (hg : o.guard = none) (l c : Operand) (hop : o.op = Op.makeSlice 31 l c) (n : Nat) (hn : n ≤ 1000000) (hl : a.eval l = .int .i64 (n : Int)) (hc : a.eval c = .int .i64 (n : Int))
    (hK : ∀ w', Blo w' w.heap.size 5 (bys (List.replicate n 0)).toArray → Kept Nil w w' → wpList Try.prog ops Q rest (a.put o.dst (.slice (some ⟨w.heap.size, 0, none⟩) n n)) w') : wpList Try.prog ops Q (o :: rest) a w := by
  obtain ⟨i0, hi, hz0, hz1, hz2⟩ := info_parts Try.infb
  refine wpList_make_full w hg l c 31 hop w.heap.size 5 i0 (.int .u8 0) 1 Try.underlying31 hi hz0 hz1 .i64 .i64 (n : Int) (n : Int) n hl hc rfl rfl (by rw [hz2]; omega) (by unfold maxLen; omega) (Nat.le_refl _) ?_
  intro w' ho hgr
  rw [made_bysC] at ho
  rcases ho.2 with ⟨e, h0⟩ | ⟨g, cap, cur, e, hb, hg, hnc, hcap, hsz, htk⟩
  · cases e
  · cases e
    refine hK w' ?_ ((Kept.refl Nil w).grown hgr (fun k hk => by cases hk))
    rw [Nat.mul_one] at htk
    rw [List.take_of_length_le (by rw [Array.length_toList, hsz]; omega)] at htk
    have hcu : cur = (bys (List.replicate n 0)).toArray := by rw [← htk]
    rw [← hcu]
    exact hg
theorem wpList_mkO {w : World} {ops : Array Oper} {rest : List Oper} {o : Oper} {a : Act} {Q : Exit → Act → World → Prop} (hgd : Region.wanted o (yielded ops a.tmps) = true) (l c : Operand) (hop : o.op = Op.makeSlice 31 l c) (n : Nat) (hn : n ≤ 1000000) (hl : a.eval l = .int .i64 (n : Int)) (hc : a.eval c = .int .i64 (n : Int))
    (hK : ∀ w', Blo w' w.heap.size 5 (bys (List.replicate n 0)).toArray → Kept Nil w w' → wpList Try.prog ops Q rest (a.put o.dst (.slice (some ⟨w.heap.size, 0, none⟩) n n)) w') : wpList Try.prog ops Q (o :: rest) a w := by
  obtain ⟨i0, hi, hz0, hz1, hz2⟩ := info_parts Try.infb
  refine BigFrame.wpList_want hgd fun K hK' => ?_
  obtain ⟨w', hrun, ho, hgr⟩ := run_make_full (P := Try.prog) w w.heap.size 31 5 i0 (.int .u8 0) 1 Try.underlying31 hi hz0 hz1 .i64 .i64 n (by rw [hz2]; omega) (by unfold maxLen; omega) (Nat.le_refl _)
  have hfin : Blo w' w.heap.size 5 (bys (List.replicate n 0)).toArray := by
    rw [made_bysC] at ho
    rcases ho.2 with ⟨e, h0⟩ | ⟨g, cap, cur, e, hb, hg, hnc, hcap, hsz, htk⟩
    · cases e
    · cases e
      rw [Nat.mul_one] at htk
      rw [List.take_of_length_le (by rw [Array.length_toList, hsz]; omega)] at htk
      have hcu : cur = (bys (List.replicate n 0)).toArray := by rw [← htk]
      rw [← hcu]
      exact hg
  unfold Oper.wp
  simp [execOp, hop, hl, hc, hrun, Result.andThen]
  exact hK' _ _ (hK w' hfin ((Kept.refl Nil w).grown hgr (fun k hk => by cases hk)))
/-- A row known whole: its bytes. -/
theorem bloB {w : World} {g : Nat} {T : TypeId} {l : List UInt8} (h : Blo w g T (bys l).toArray) (n : Nat) (hn : l.length = n) (hc : n ≤ 9223372036854775807) : Byt w (some ⟨g, 0, none⟩) n n l := by
  subst hn
  refine ⟨rfl, Nat.le_refl _, hc, fun _ => ⟨g, 0, rfl, fun i hi => ?_⟩⟩
  rw [h.cell]
  simp [bys, hi]
theorem bloPut {w : World} {g : Nat} {T : TypeId} {l : List UInt8} {i : Nat} {b : UInt8} (hi : i < l.length) (h : Blo w g T ((bys l).take i ++ [Value.int .u8 (b.toNat : Int)] ++ (bys l).drop (i + [Value.int .u8 (b.toNat : Int)].length)).toArray) : Blo w g T (bys (l.set i b)).toArray := by
  rw [show (bys l).take i ++ [Value.int .u8 (b.toNat : Int)] ++ (bys l).drop (i + [Value.int .u8 (b.toNat : Int)].length) = bys (l.set i b) by
    unfold bys
    rw [List.map_set, List.set_eq_take_append_cons_drop, if_pos (by rw [List.length_map]; exact hi)]
    simp] at h
  exact h
theorem szC : (Try.prog.info? 5).map (·.size) = some 1 := by kernel_rfl
end Go.Proofs.Ythjfeanmgaidcaa
/- tolllaw09: contracts of plain, wakes. -/
namespace Go.Proofs.Ythjfeanmgaidcaa
open Go.RowKit Go.Sort
set_option linter.unusedVariables false

def plainH : Dh := { Dh.zero with op := 1 }
theorem plainH_ok : plainH.ok := ⟨⟨rfl, rfl, rfl, rfl⟩, by decide, by decide, by decide, by decide, by decide, by decide, by decide⟩
/-- 240 bytes of a message, and options. -/
def plainB (l : List UInt8) : List UInt8 := headB plainH ++ (mrk ++ l)
def plainG (l : List UInt8) : Dh × Int := match optM l with
  | none => (Dh.zero, 4)
  | some x => ({ plainH with os := x.1, bh := x.2 }, 0)
theorem getD_plain (l : List UInt8) : getD (plainB l) = plainG l := by
  unfold plainB plainG
  rw [getD_form plainH plainH_ok (.inl rfl) l]
  cases optM l <;> rfl
theorem plainB_len (l : List UInt8) : (plainB l).length = 240 + l.length := by
  unfold plainB
  rw [List.length_append, List.length_append, headB_len plainH_ok.s6]
  show 236 + (4 + _) = _
  omega
/-- A block known whole is a row of the call's own. -/
theorem own_blo {w : World} {g B N : Nat} {l : List UInt8} (hb : Blo w g 5 (bys l).toArray) (hl : l.length = N) (hB : B ≤ g) (hN : N ≤ 1099511627776) : w.ownsRow B 5 1 (.slice (some ⟨g, 0, none⟩) N N) N (bys l) :=
  ⟨by rw [bys_len]; omega, .inr ⟨g, N, _, rfl, hB, hb, Nat.le_refl _, by unfold maxLen; omega, by simp [bys_len, hl], by simp [← hl, ← bys_len]⟩⟩
def pl1 : List UInt8 := [1, 1, 6] ++ (List.replicate 240 0).drop 3
def pl2 : List UInt8 := pl1.take 236 ++ mrk ++ pl1.drop 240
theorem pl2_eq : pl2 = headB plainH ++ mrk := by decide +kernel
theorem pl2_is (l : List UInt8) : pl2 ++ l = plainB l := by
  unfold plainB
  rw [← List.append_assoc, pl2_eq]
set_option maxRecDepth 100000 in
set_option maxHeartbeats 4000000 in
theorem plain_yes (A : Option Addr) (n c : Nat) (l : List UInt8) (w : World) (h : Byt w A n c l) (hn : n ≤ 1000) : Calls Try.prog 36 #[.slice A n c] w fun e w' => ∃ v, e = .returned v ∧ Made w w' v (plainB l) := by
  have HY := Lib.hid h
  have HN := Lib.hid hn
  have HL := Lib.hid h.1
  obtain ⟨i0, hi, hz0, hz1, hz2⟩ := info_parts Try.infb
  clear h hn
  go_enter Try.func36, Try.ntmps36
  go_upto_region 2 with (first | (refine wpList_mkC rfl _ _ rfl 240 (by omega) rfl rfl ?_; intro w1 hb1 hk1) | fail)
  have HK1 := Lib.hid hk1
  have HB1 := Lib.hid hb1
  obtain ⟨g, hg⟩ : ∃ g, w.heap.size = g := ⟨_, rfl⟩
  have HG := Lib.hid hg
  rw [hg] at HB1 ⊢
  have HGL := Lib.hid (show g < w1.heap.size from HB1.out.lt)
  clear hb1 hk1 hg
  have hb2 := HB1.out.alloc (.cells #[.int .u8 1, .int .u8 1, .int .u8 6] 5)
  have HB2 := Lib.hid hb2
  have HS2 := Lib.hid (byt_lit w1 [1, 1, 6] 5 #[.int .u8 1, .int .u8 1, .int .u8 6] rfl 3 rfl _ rfl (by decide))
  clear hb2
  go_upto_region 3 with (first | (refine wpList_cp rfl _ _ 31 31 rfl 5 Try.underlying31 sz5 g 0 240 240 3 3 (some ⟨w1.heap.size, 0, none⟩) rfl rfl [1, 1, 6] HS2.out (by decide) (bys (List.replicate 240 0)) 5 HB2.out (by rw [bys_len]; decide) ?_; intro w3 hb3 hk3) | fail)
  have HB3 := Lib.hid (show Blo w3 g 5 (bys pl1).toArray from hb3)
  have HK3 := Lib.hid (HK1.out.trans (((Kept.refl (One g) w1).alloc _).same hk3) (fun i hi hf => by have := HG.out; cases hf; omega))
  clear hb3 hk3 HB2 HS2 HB1 HK1 HGL
  have hb4 := HB3.out.alloc (.cells #[.int .u8 99, .int .u8 130, .int .u8 83, .int .u8 99] 5)
  have HB4 := Lib.hid hb4
  have HS4 := Lib.hid (byt_lit w3 mrk 5 #[.int .u8 99, .int .u8 130, .int .u8 83, .int .u8 99] rfl 4 rfl _ rfl (by decide))
  clear hb4
  go_upto_region 4 with (first | (refine wpList_cp rfl _ _ 31 31 rfl 5 Try.underlying31 sz5 g 236 4 4 4 4 (some ⟨w3.heap.size, 0, none⟩) rfl rfl mrk HS4.out (by decide) (bys pl1) 5 HB4.out (by rw [bys_len]; decide) ?_; intro w5 hb5 hk5) | fail)
  have HB5 := Lib.hid (show Blo w5 g 5 (bys pl2).toArray from hb5)
  have HK5 := Lib.hid (HK3.out.trans (((Kept.refl (One g) w3).alloc _).same hk5) (fun i hi hf => by have := HG.out; cases hf; omega))
  have HO5 := Lib.hid (own_blo HB5.out (N := 240) (by decide) (show w.heap.size ≤ g by have := HG.out; omega) (by decide))
  have HY5 := Lib.hid (HY.out.kept HK5.out (fun _ _ hf => hf))
  clear hb5 hk5 HB4 HS4 HB3 HK3
  go_wp2_with (at_builtin; refine wpList_any rfl _ _ 31 rfl w.heap.size 5 i0 (.int .u8 0) Try.underlying31 hi hz0 hz1 hz2 rfl _ _ _ rfl HO5.out _ _ _ l rfl HY5.out (by have := HN.out; omega) HK5.out.size ?_; intro v' w6 hown hgr _)
  go_ret
  refine ⟨_, rfl, ?_, HK5.out.grown hgr (fun k hk hk' => by have e : g = k := Option.some.inj hk; have := HG.out; omega)⟩
  rw [← bys_app, pl2_is] at hown
  have e : (plainB l).length = 240 + n := by rw [plainB_len, HL.out]
  rw [e]
  exact hown
end Go.Proofs.Ythjfeanmgaidcaa
