/- Package icmp: Back. -/
import Derived.Test.YtkpelaojjfcpfaaIcC
import Derived.Test.YtkpelaojjfcpfaaEthT
namespace Go.Proofs.Ytkpelaojjfcpfaa
open Go.RowKit Go.Sort
open Go.Maps (Keyed int_keyed keyOf_int_mk)
set_option linter.unusedVariables false

/-- An act that answers at once. -/
theorem tLex_val {P : Program} {ops : Array Oper} {F : Nat → Prop} {W : World} {acts : List Nat} {Z : Nat → List Value → Array Value × TypeId} {vs : Nat → Value} {I : (Nat → Prop) → List Value → World → Prop} {Pv : Nat → Value → Prop} {T : Act → Mad → List Value → Prop}
    {o : Oper} {rest : List Oper} {k : Nat} {a : Act} {L : Mad} {s : List Value} (hg : Region.wanted o (yielded ops a.tmps) = true) (hk : acts.contains k = true) (v0 : Value) (hv : Pv k v0)
    (hc : ∀ D u, Kept F W u → I D s u → ∃ v, (execOp a.eval o).run P u = .ok (.value v) u ∧ Pv k v ∧ I D (s ++ [v]) u)
    (h : ∀ v, Pv k v → tLex P ops F W acts Z vs I Pv T rest (k + 1) (a.put o.dst v) L (s ++ [v])) : tLex P ops F W acts Z vs I Pv T (o :: rest) k a L s := by
  have hkd : kdOf ops acts k o a = .act := by
    unfold kdOf
    rw [if_pos hg, if_pos hk]
  show tO P ops F W acts Z vs I Pv k o _ a L s
  unfold tO
  simp only [hkd]
  refine ⟨fun D u hu hI hd => ?_, ⟨v0, hv⟩, h⟩
  obtain ⟨v, h1, h2, h3⟩ := hc D u hu hI
  rw [h1]
  exact ⟨h2, hu, h3, Nat.le_refl _, fun _ _ _ => rfl⟩
/-- What the acts answer: the map, an entry. -/
def bkP (kn bn : Nat) (i : Nat) (v : Value) : Prop := match i with
  | 0 => ∃ g, v = .map (some g)
  | _ => v = .agg #[.int .i64 (kn : Int), .int .u8 (bn : Int)]
set_option maxRecDepth 100000 in
set_option maxHeartbeats 8000000 in
theorem back_yes (m : Ms) (A : Option Addr) (n c : Nat) (w : World) : Calls Try.prog 13 #[msv m A n c] w fun e w' => e = .returned (.tuple #[.int .u8 (backN m.t.toNat : Int), .bool (pairB m.t.toNat)]) ∧ Kept Nil w w' := by
  have hP := MB.new w 25 m A n c
  have hk := (Kept.refl Nil w).alloc (.cells (ics m A n c).toArray 25)
  have HAT := Lib.hid (typ_at m.t)
  have HKY := Lib.hid (keyOf_int_mk (a := (m.t.toNat : Int)) Try.underlying5 (by have := m.t.toNat_lt; simp [Lit.wf, IntKind.min, IntKind.max, IntKind.signed, IntKind.bits]; omega))
  have HPR := Lib.hid (fun u => pair_yes m A n c u)
  unfold msv at HPR ⊢
  generalize pairB m.t.toNat = pb at *
  generalize kindN m.t.toNat = kn at *
  generalize backN m.t.toNat = bn at *
  go_enter Try.func13, Try.ntmps13
  go_upto_region 1 with (fail)
  refine wp_nameE (fun W => MB W w.heap.size 25 m A n c ∧ Kept Nil w W) ⟨hP, hk⟩ ?_
  clear hP hk
  rintro W ⟨hP, hk⟩
  have HP := Lib.hid hP
  have HK := Lib.hid hk
  clear hP hk
  refine wp_region_acts Nil [0, 3] (fun i vl => (#[], 0)) (fun i => if i = 6 then .bool pb else undef) (typI W.heap.size) (bkP kn bn) 7 (by kernel_rfl) (by kernel_rfl) (typI_keeps _) ⟨Nat.le_refl _, trivial⟩ ?_
  simp only [List.take_succ_cons, List.take_zero, List.drop_succ_cons, List.drop_zero]
  refine tLex_act 33 #[] (fun u => ?he) rfl rfl (.map (some 0)) ⟨0, rfl⟩ ?hc ?_
  case he => simp [execOp, go_sem]
  case hc =>
    intro D u hu hI hd
    refine (types_yes u).mono ?_
    rintro e w' ⟨g, rfl, hm, hg, hk⟩
    exact ⟨_, rfl, ⟨g, rfl⟩, hu.then hk, ⟨Nat.le_trans hI.1 hk.size, g, rfl, hm⟩, hk.size, fun k _ hk' => hk.block k hk' (fun hf => hf)⟩
  intro v hv
  obtain ⟨g, rfl⟩ : ∃ g, v = .map (some g) := hv
  simp only [Act.put, mkVal, List.setIfInBounds_toArray, List.set_cons_succ, List.set_cons_zero]
  refine tLex_quiets 2 rfl (by kernel_rfl) ?_
  simp only [List.take_succ_cons, List.take_zero, List.drop_succ_cons, List.drop_zero]
  apply Exists.intro
  refine ⟨?hq, ?hv, ?ht⟩
  case hq =>
    intro V hV
    have c0 := fun d os => (Blo.gcell (HP.out.kept hV (fun hf => hf)) 0 d os)
    simp only [ics, List.getElem?_toArray, List.getElem?_cons_zero] at c0
    clear hV
    repeat (go_big_quiet_step (fail))
    exact wpQuiet_nil rfl
  case hv => exact ⟨trivial, trivial, trivial⟩
  case ht =>
    refine tLex_val rfl rfl (.agg #[.int .i64 (kn : Int), .int .u8 (bn : Int)]) (show bkP kn bn 3 _ from rfl) ?hc2 ?_
    case hc2 =>
      intro D u hu hI
      obtain ⟨h1, g', he, hm⟩ := hI
      cases he
      obtain ⟨v, ps, hrun, hat⟩ := World.ownsMap.lookup hm (int_keyed Try.underlying5) Try.underlying73 (zeroAb u) (abR_is 0 0) HKY.out
      rw [HAT.out] at hat
      have hv := abR_inv hat
      subst hv
      exact ⟨.agg #[.int .i64 (kn : Int), .int .u8 (bn : Int)], by simp [execOp, hrun, go_sem], (show bkP kn bn 3 _ from rfl), h1, g, rfl, hm⟩
    intro v hv
    obtain rfl : v = .agg #[.int .i64 (kn : Int), .int .u8 (bn : Int)] := (show bkP kn bn 3 v from hv)
    simp only [Act.put, mkVal, List.setIfInBounds_toArray, List.set_cons_succ, List.set_cons_zero]
    refine tLex_quiets 3 rfl (by kernel_rfl) ?_
    simp only [List.take_succ_cons, List.take_zero, List.drop_succ_cons, List.drop_zero]
    apply Exists.intro
    refine ⟨?hq, ?hv, ?ht⟩
    case hq =>
      intro V hV
      have hf1 := fl_1
      have hbV : Hid (MB V w.heap.size 25 m A n c) := HP.out.kept hV (fun hf => hf)
      clear hV
      repeat (first
        | (refine wpQuiet_ld rfl _ _ rfl w.heap.size 0 rfl (ics m A n c) (fun w1 hw => row_grown hbV.out.all hw) _ Try.underlying25 rfl (infMs _ _ _ _) ?_; simp only [Act.put, List.setIfInBounds_toArray, List.set_cons_succ, List.set_cons_zero])
        | (go_big_quiet_step (first | with_reducible exact quietK (HPR.out _) | exact quietK (HPR.out _))))
      exact wpQuiet_nil rfl
    case hv => exact ⟨trivial, trivial, rfl, trivial⟩
    case ht =>
      intro w5 hs
      have HK5 := Lib.hid (HK.out.then hs.kept)
      clear hs
      go_wp2
      go_ret2
      exact ⟨rfl, HK5.out⟩
end Go.Proofs.Ytkpelaojjfcpfaa
