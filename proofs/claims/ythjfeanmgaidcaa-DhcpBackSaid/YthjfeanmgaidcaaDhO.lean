/- tolllaw09: contracts of four, of. -/
import Derived.Test.YthjfeanmgaidcaaMg21
import Derived.Test.YthjfeanmgaidcaaMg13
import Derived.Test.YthjfeanmgaidcaaRegA
import Derived.Test.YthjfeanmgaidcaaDhP
import Derived.Test.YthjfeanmgaidcaaMg27
namespace Go.Proofs.Ythjfeanmgaidcaa
open Go.RowKit Go.Sort
set_option linter.unusedVariables false

set_option maxRecDepth 100000 in
theorem four_yes (x : Nat) (hx : x < 4294967296) (w : World) : Calls Try.prog 35 #[.int .u32 (x : Int)] w fun e w' => ∃ A c, e = .returned (.slice A 4 c) ∧ Byt w' A 4 c (beM 4 x) ∧ (∀ i, Lies A 4 i → w.heap.size ≤ i) ∧ Kept Nil w w' := by
  have hc : #[Value.int .u8 ((x : Int) / 16777216), Value.int .u8 ((x : Int) / 65536 % 256), Value.int .u8 ((x : Int) / 256 % 256), Value.int .u8 ((x : Int) % 256)] = (bys (beM 4 x)).toArray := by
    have e : beM 4 x = [UInt8.ofNat (x / 16777216), UInt8.ofNat (x / 65536), UInt8.ofNat (x / 256), UInt8.ofNat x] := by simp [beM, List.range_succ]
    rw [e]
    simp [bys, UInt8.toNat_ofNat']
    omega
  go_enter Try.func35, Try.ntmps35
  go_wp2
  go_ret
  refine ⟨_, _, rfl, byt_lit w (beM 4 x) 5 _ rfl 4 (beM_len 4 x) _ rfl (by rw [beM_len]; decide), ?_, (Kept.refl Nil w).alloc _⟩
  rintro i ⟨_, ad, e, rfl⟩
  cases e
  exact Nat.le_refl _
def twoB (x : Nat) : List UInt8 := [UInt8.ofNat (x / 256), UInt8.ofNat x]
theorem twoB_is (x : Nat) : twoB x = beM 2 x := by simp [twoB, beM, List.range_succ]
theorem two_parts (x : Nat) (hx : x < 65536) : ∃ p q : UInt8, twoB x = [p, q] ∧ (x : Int) / 256 % 256 = (p.toNat : Int) ∧ (x : Int) / 256 = (p.toNat : Int) ∧ (x : Int) % 256 = (q.toNat : Int) := by
  refine ⟨UInt8.ofNat (x / 256), UInt8.ofNat x, rfl, ?_, ?_, ?_⟩ <;> rw [UInt8.toNat_ofNat'] <;> omega
/-- An element of an array that is a value. -/
theorem wpList_ix {P : Program} {w : World} {ops : Array Oper} {rest : List Oper} {o : Oper} {a : Act} {Q : Exit → Act → World → Prop} (hgd : Region.wanted o (yielded ops a.tmps) = true) (ty : TypeId) (p x : Operand) (ho : o.op = .index ty p x) (pv xv v : Value) (hp : a.eval p = pv) (hx : a.eval x = xv)
    (hv : ∀ u, (Instr.index ty pv xv).run P u = .ok v u) (h : wpList P ops Q rest (a.put o.dst v) w) : wpList P ops Q (o :: rest) a w := by
  refine BigFrame.wpList_want hgd fun K hK => ?_
  unfold Oper.wp execOp
  simp only [ho, hp, hx, Sem.run_bind, Sem.run_pure, hv, Result.andThen_ok]
  exact hK _ _ h
theorem ix0 (a b c d : Int) (w : World) : (Instr.index 87 (.agg #[.int .u32 a, .int .u32 b, .int .u32 c, .int .u32 d]) (.int .i64 0)).run Try.prog w = .ok (.int .u32 a) w := by kernel_rfl
theorem ix1 (a b c d : Int) (w : World) : (Instr.index 87 (.agg #[.int .u32 a, .int .u32 b, .int .u32 c, .int .u32 d]) (.int .i64 1)).run Try.prog w = .ok (.int .u32 b) w := by kernel_rfl
theorem ix2 (a b c d : Int) (w : World) : (Instr.index 87 (.agg #[.int .u32 a, .int .u32 b, .int .u32 c, .int .u32 d]) (.int .i64 2)).run Try.prog w = .ok (.int .u32 c) w := by kernel_rfl
theorem ix3 (a b c d : Int) (w : World) : (Instr.index 87 (.agg #[.int .u32 a, .int .u32 b, .int .u32 c, .int .u32 d]) (.int .i64 3)).run Try.prog w = .ok (.int .u32 d) w := by kernel_rfl
theorem infSR : (Try.prog.info? 41).map (·.size) = some 1 := by kernel_rfl
theorem one_slice (A : Option Addr) (n c : Nat) : ∀ u ∈ [Value.slice A n c], u.oneCell' = true := by intro u hu; simp at hu; subst hu; rfl
theorem bd_rf (A : Option Addr) (n c : Nat) (A' : Option Addr) (n' c' : Nat) (w : World) : (Instr.build 43 #[(0, .slice A n c), (2, .slice A' n' c')]).run Try.prog w = .ok (rfv (.slice A n c) nilv (.slice A' n' c')) w := by kernel_rfl
/-- The head while it is put together. -/
def hd0 (h : Dh) : List UInt8 := [h.op, 1, 6, h.hp]
def hd1 (h : Dh) : List UInt8 := hd0 h ++ beM 4 h.xi
def hd2 (h : Dh) : List UInt8 := hd1 h ++ (twoB h.se ++ twoB h.fl)
def lsF (h : Dh) (i : Nat) : List UInt8 := match i with | 0 => hd0 h | 1 => hd0 h | 2 => hd1 h | _ => hd2 h
def cvF (v0 : Value) : List Value → Value
  | [] => v0
  | [_] => v0
  | s => s.getLastD v0
def cvG (v0 : Value) (s : List Value) : Value := s.getLastD v0
def ipsM (h : Dh) : List Nat := [h.ci, h.yo, h.ne, h.re]
def hd3 (h : Dh) (k : Nat) : List UInt8 := hd2 h ++ (((ipsM h).take k).map (beM 4)).flatten
def lsG (h : Dh) (i : Nat) : List UInt8 := match i with | 0 => hd3 h 4 | 1 => hd3 h 4 ++ h.st | 2 => hd3 h 4 ++ h.st ++ h.pd | 3 => hd3 h 4 ++ h.st ++ h.pd ++ h.sv | _ => hd3 h 4 ++ h.st ++ h.pd ++ h.sv ++ h.fi
theorem headB_four (h : Dh) : hd3 h 4 ++ h.st ++ h.pd ++ h.sv ++ h.fi = headB h := by
  simp [hd3, hd2, hd1, hd0, ipsM, headB, twoB_is]
def EF (n0 : Nat) (v0 : Value) (x : List UInt8) (s : List Value) (u : World) : Prop := match s with
  | [vf] => ∃ A c, vf = .slice A 4 c ∧ Byt u A 4 c x ∧ ∀ i, Lies A 4 i → n0 ≤ i ∧ v0.ownBlock ≠ some i
  | _ => True
theorem EF_keeps (n0 : Nat) (v0 : Value) (x : List UInt8) : ∀ s u u', EF n0 v0 x s u → Kept Nil u u' → EF n0 v0 x s u' := by
  intro s u u' h k
  match s, h with
  | [], _ => trivial
  | [vf], ⟨A, c, e, hb, hl⟩ => exact ⟨A, c, e, hb.kept k (fun _ _ hf => hf), hl⟩
  | _ :: _ :: _, _ => trivial
theorem infOptR : (Try.prog.info? 84).map (fun i => (i.zero, i.size, i.bytes)) = some (some (.agg #[.int .i64 0, .slice none 0 0]), 2, 32) := by kernel_rfl
theorem al_rf (u : World) : (Instr.alloc 43 true (.tuple #[])).run Try.prog u = .ok (.pointer (some ⟨u.heap.size, 0, none⟩)) (u.alloc (.cells [nilv, nilv, nilv].toArray 43)) := by kernel_rfl
set_option maxRecDepth 100000 in
set_option maxHeartbeats 16000000 in
theorem of_yes (D : Nat → Prop) (h : Dh) (vo vb : Value) (w : World) (hI : DhIn D w h vo vb) (hn : h.os.length ≤ 1099511627776) : Calls Try.prog 10 #[dhv h vo vb] w fun e w' => ∃ vh vo' vb', e = .returned (rfv vh vo' vb') ∧ RfIn w' h vh vo' vb' ∧ Kept Nil w w' := by
  have hI0 := Lib.hid hI
  have hP := DB.new w 33 h vo vb
  have hk := (Kept.refl Nil w).alloc (.cells (dcs h vo vb).toArray 33)
  obtain ⟨j0, ji, jz0, jz1, jz2⟩ := info_parts infOptR
  obtain ⟨i0, hi, hz0, hz1, hz2⟩ := info_parts Try.infb
  go_enter Try.func10, Try.ntmps10
  go_upto_region 1 with (first | (refine wpList_al rfl 43 rfl [nilv, nilv, nilv] al_rf ?_; intro w1 hb1 hk1 hz1'; clear hz1') | fail)
  replace hb1 : Blo w1 (w.alloc (.cells (dcs h vo vb).toArray 33)).heap.size 43 [nilv, nilv, nilv].toArray := hb1
  replace hk1 : Kept Nil (w.alloc (.cells (dcs h vo vb).toArray 33)) w1 := hk1
  have HP := Lib.hid (hP.kept hk1 (fun hf => hf))
  have HK := Lib.hid (hk.then hk1)
  have HOK := Lib.hid hI.ok
  have HI := Lib.hid (hI.nil (hk.then hk1))
  have HN := Lib.hid hn
  have HR1 := Lib.hid hb1
  have hsz : (w.alloc (.cells (dcs h vo vb).toArray 33)).heap.size = w.heap.size + 1 := by simp
  rw [hsz] at HR1
  simp only [Act.put, List.setIfInBounds_toArray, List.set_cons_succ, List.set_cons_zero]
  have HG1 := Lib.hid (show w.heap.size + 1 < w1.heap.size from HR1.out.lt)
  simp only [World.size_alloc]
  obtain ⟨gb, hgb⟩ : ∃ g, w.heap.size = g := ⟨_, rfl⟩
  have HW := Lib.hid (show w.heap.size ≤ gb by omega)
  rw [hgb] at HP HR1 HG1 ⊢
  obtain ⟨g2, hg2⟩ : ∃ g, gb + 1 = g := ⟨_, rfl⟩
  have HG2 := Lib.hid (show gb < g2 by omega)
  rw [hg2] at HR1 HG1 ⊢
  clear hP hk hI hn hb1 hk1 hsz hgb hg2
  have y0 := HP.out.c0
  have y1 := HP.out.c1
  go_upto_region 2 with (fail)
  refine wp_nameE (fun X => Blo X w1.heap.size 5 (bys (hd0 h)).toArray ∧ Kept Nil w1 X) ⟨Blo.new w1 _ _, (Kept.refl Nil w1).alloc _⟩ ?_
  rintro w2 ⟨hb2, hk2⟩
  have HP2 := Lib.hid (HP.out.kept hk2 (fun hf => hf))
  have HI2 := Lib.hid (HI.out.nil hk2)
  have HR2 := Lib.hid (HR1.out.kept hk2 (fun hf => hf))
  have HK2 := Lib.hid (HK.out.then hk2)
  obtain ⟨g3, hg3⟩ : ∃ g, w1.heap.size = g := ⟨_, rfl⟩
  rw [hg3] at hb2 ⊢
  have HO2 := Lib.hid (own_blo hb2 (N := 4) rfl (Nat.le_refl g3) (by decide))
  have HG3 := Lib.hid (show g3 < w2.heap.size from hb2.lt)
  have HG23 := Lib.hid (show g2 < g3 by have := HG1.out; omega)
  obtain ⟨v0, hv0⟩ : ∃ v, Value.slice (some ⟨g3, 0, none⟩) 4 4 = v := ⟨_, rfl⟩
  have HV0 := Lib.hid (show ∀ k, v0.ownBlock = some k → k = g3 from fun k e => by rw [← hv0] at e; exact (Option.some.inj e).symm)
  rw [hv0] at HO2 ⊢
  clear hb2 hk2 hg3 hv0 HP HI HR1 HK HG1 y0 y1
  obtain ⟨p1, p2, hp1, z1, z5, z2⟩ := two_parts h.se HOK.out.se
  obtain ⟨p3, p4, hp2, z3, z6, z4⟩ := two_parts h.fl HOK.out.fl
  have HZ1 := Lib.hid z1
  have HZ2 := Lib.hid z2
  have HZ3 := Lib.hid z3
  have HZ4 := Lib.hid z4
  have HZ5 := Lib.hid z5
  have HZ6 := Lib.hid z6
  have HTW := Lib.hid (show twoB h.se ++ twoB h.fl = [p1, p2, p3, p4] by rw [hp1, hp2]; rfl)
  clear z1 z2 z3 z4 z5 z6 hp1 hp2
  have HKP := Lib.hid (chI_keeps g3 w2.heap.size v0 (cvF v0) (lsF h) (EF w2.heap.size v0 (beM 4 h.xi)) (EF_keeps _ _ _))
  have HST := Lib.hid (show chI g3 w2.heap.size v0 (cvF v0) (lsF h) (EF w2.heap.size v0 (beM 4 h.xi)) (fun _ => False) [] w2 from ⟨Nat.le_refl _, fun _ hf => hf.elim, HO2.out, fun _ hf => hf.elim, fun k e => .inl e, trivial⟩)
  refine wp_region_acts (fun k => v0.ownBlock = some k) [3, 4, 20] (fun i vl => (vl.toArray, 5)) (fun i => undef) (chI g3 w2.heap.size v0 (cvF v0) (lsF h) (EF w2.heap.size v0 (beM 4 h.xi))) (fun i v => i = 3 → ∃ A c, v = .slice A 4 c) 22 (by kernel_rfl) (by kernel_rfl) HKP.out HST.out ?_
  simp only [List.take_succ_cons, List.take_zero, List.drop_succ_cons, List.drop_zero]
  refine tLex_quiets 3 rfl (by kernel_rfl) ?_
  simp only [List.take_succ_cons, List.take_zero, List.drop_succ_cons, List.drop_zero]
  apply Exists.intro
  refine ⟨?hqa, ?hva, ?hta⟩
  case hqa =>
    intro V hV
    have e2 := fun d os => ((HP2.out.kept hV (fun hf => by have := HV0.out _ hf; have := HG23.out; have := HG2.out; omega)).kept (kept_grown' V d os) (fun hf => hf)).c2
    clear hV
    repeat (go_big_quiet_step (fail))
    exact wpQuiet_nil rfl
  case hva => exact ⟨trivial, trivial, trivial, trivial⟩
  case hta =>
    refine tLex_act 35 #[.int .u32 (h.xi : Int)] (fun u => ?hea1) rfl rfl (.slice none 4 4) (fun _ => ⟨_, _, rfl⟩) ?hca1 ?_
    case hea1 => simp [execOp, go_sem, mkVal]
    case hca1 =>
      intro D u hu hI hdd
      obtain ⟨t1, t2, t3, t4, t5, t6⟩ := hI
      refine (four_yes h.xi HOK.out.xi u).mono ?_
      rintro e w' ⟨A, c, rfl, hy, hl, hk⟩
      exact ⟨_, rfl, fun _ => ⟨A, c, rfl⟩, hu.then hk, ⟨Nat.le_trans t1 hk.size, fun k hk' => Nat.lt_of_lt_of_le (t2 k hk') hk.size, own_kept t3 hk (fun _ _ hf => hf), t4, t5, ⟨A, c, rfl, hy, fun i hi => ⟨Nat.le_trans t1 (hl i hi), fun e => by have h1 := HV0.out _ e; have h2 := hl i hi; have := HG3.out; omega⟩⟩⟩, hk.size, fun k _ hlt => hk.block k hlt (fun hf => hf)⟩
    intro vf hvf
    obtain ⟨Af, cf, rfl⟩ := hvf rfl
    simp only [Act.put, List.setIfInBounds_toArray, List.set_cons_succ, List.set_cons_zero]
    refine tLex_app (.tmp 14) (.tmp 17) 31 rfl rfl rfl undef (fun h3 => by cases h3) ?hcb1 ?_
    case hcb1 =>
      intro D u hu hI hdd
      obtain ⟨A', c', e, hy, hl⟩ := hI.2.2.2.2.2
      injection e with e1 e2 e3
      subst e1 e3
      obtain ⟨v, w', t1, _, t2, t3, t4, t5⟩ := chI_app (ty := 31) hu hI hy (by show (hd0 h).length + 4 ≤ _; simp [hd0]) (Nat.le_of_lt HG3.out) rfl (fun v => rfl) (fun v u' => trivial)
      exact ⟨v, w', t1, (fun h3 => by cases h3), t2, t3, t4, t5⟩
    intro v1 _
    simp only [Act.put, List.setIfInBounds_toArray, List.set_cons_succ, List.set_cons_zero]
    refine tLex_quiets 14 rfl (by kernel_rfl) ?_
    simp only [List.take_succ_cons, List.take_zero, List.drop_succ_cons, List.drop_zero]
    apply Exists.intro
    refine ⟨?hqb, ?hvb, ?htb⟩
    case hqb =>
      intro V hV
      have hp := HP2.out.kept hV (fun hf => by have := HV0.out _ hf; have := HG23.out; have := HG2.out; omega)
      have e3 := fun d os => (hp.kept (kept_grown' V d os) (fun hf => hf)).c3
      have e4 := fun d os => (hp.kept (kept_grown' V d os) (fun hf => hf)).c4
      have z1 := HZ1.out
      have z2 := HZ2.out
      have z3 := HZ3.out
      have z4 := HZ4.out
      have z5 := HZ5.out
      have z6 := HZ6.out
      clear hV hp
      repeat (go_big_quiet_step (fail))
      exact wpQuiet_nil rfl
    case hvb => exact ⟨trivial, trivial, trivial, trivial, trivial, trivial, trivial, trivial, trivial, trivial, trivial, trivial, trivial, trivial, trivial⟩
    case htb =>
      refine tLex_make (#[.int .u8 (p1.toNat : Int), .int .u8 ((h.se : Int) % 256), .int .u8 (p3.toNat : Int), .int .u8 ((h.fl : Int) % 256)], 5) rfl rfl rfl rfl (fun u => ?hm1) ?_
      case hm1 => simp [execOp, mkVal, Instr.buildSlice, go_sem]
      intro q hgq hLq
      simp only [Act.put, mkVal, List.setIfInBounds_toArray, List.set_cons_succ, List.set_cons_zero]
      refine tLex_app (.tmp 18) (.tmp 33) 31 rfl rfl rfl undef (fun h3 => by cases h3) ?hcc1 ?_
      case hcc1 =>
        intro D u hu hI hdd
        obtain ⟨d1, d2⟩ := hdd _ _ ⟨_, List.mem_cons_of_mem _ (List.mem_cons_self ..), rfl⟩ (mput_same _ _ _)
        have hcs : #[.int .u8 (p1.toNat : Int), .int .u8 ((h.se : Int) % 256), .int .u8 (p3.toNat : Int), .int .u8 ((h.fl : Int) % 256)] = (bys [p1, p2, p3, p4]).toArray := by rw [HZ2.out, HZ4.out]; rfl
        have d3 : Blo u q 5 ([] ++ bys [p1, p2, p3, p4] ++ []).toArray := by simpa [hcs] using d2
        have hy := byt_row (Blo.row [] (bys [p1, p2, p3, p4]) [] d3) (by simp) 4 rfl
        obtain ⟨v, w', t1, _, t2, t3, t4, t5⟩ := chI_app (ty := 31) hu hI hy (by show (hd1 h).length + 4 ≤ _; simp [hd1, hd0, beM_len]) (Nat.le_of_lt HG3.out) (by rw [← HTW.out]; rfl) (fun v => rfl) (fun v u' => trivial)
        exact ⟨v, w', t1, (fun h3 => by cases h3), t2, t3, t4, t5⟩
      intro v2 _
      simp only [Act.put, List.setIfInBounds_toArray, List.set_cons_succ, List.set_cons_zero]
      refine tLex_quiets 1 rfl (by kernel_rfl) ?_
      simp only [List.take_succ_cons, List.take_zero, List.drop_succ_cons, List.drop_zero]
      apply Exists.intro
      refine ⟨?hqd, ?hvd, ?htd⟩
      case hqd =>
        intro V hV
        clear hV
        repeat (go_big_quiet_step (fail))
        exact wpQuiet_nil rfl
      case hvd => exact ⟨trivial, trivial⟩
      case htd =>
        intro w3 hs
        obtain ⟨_, _, hown, _, hnb, _⟩ := hs.know
        have hk3 : Kept Nil w w3 := HK2.out.fresh hs.kept (fun i hi => by have := HV0.out _ hi; have := HG23.out; have := HG2.out; have := HW.out; omega)
        have HO3 := Lib.hid (show w3.ownsRow g3 5 1 v2 (hd2 h).length (bys (hd2 h)) from hown)
        have hf : ∀ i, v0.ownBlock = some i → ¬ i < g3 := fun i hi => by have := HV0.out _ hi; omega
        have HP3 := Lib.hid (HP2.out.kept hs.kept (fun hf' => hf _ hf' (by have := HG23.out; have := HG2.out; omega)))
        have HR3 := Lib.hid (HR2.out.kept hs.kept (fun hf' => hf _ hf' HG23.out))
        have HK3 := Lib.hid hk3
        have HW3 := Lib.hid (show w2.heap.size ≤ w3.heap.size from hs.kept.size)
        have HI3 := Lib.hid (hI0.out.nil hk3)
        clear hs hown hnb hk3 hf HO2 HKP HST HP2 HR2 HK2 HI2 HTW HZ1 HZ2 HZ3 HZ4 HZ5 HZ6
        have y5 := HP3.out.c5
        have y6 := HP3.out.c6
        have y7 := HP3.out.c7
        have y8 := HP3.out.c8
        go_upto_region 4 with (fail)
        have HO3' := Lib.hid (show w3.ownsRow g3 5 1 v2 (hd3 h 0).length (bys (hd3 h 0)) from by
          have e : hd3 h 0 = hd2 h := by simp [hd3]
          rw [e]
          exact HO3.out)
        clear HO3 y5 y6 y7 y8
        go_loopw [3, 44] (fun v i wr => ∃ (k : Nat) (vv : Value), vv = v ∧ k ≤ 4 ∧ i = .int .i64 (k : Int) ∧ wr.ownsRow g3 5 1 v (hd3 h k).length (bys (hd3 h k)) ∧ Kept Nil w wr ∧ Kept (fun j => g3 ≤ j) w3 wr) (fun _ i _ => 4 - (intOf i).toNat)
        case atStart => exact ⟨0, _, rfl, by omega, rfl, HO3'.out, HK3.out, Kept.refl _ _⟩
        case round =>
          clear HO3'
          obtain ⟨k, vv, rfl, hk4, hik, hown, hkw, hk3⟩ := hrel
          have HOW := Lib.hid hown
          have HKW := Lib.hid hkw
          have HKR := Lib.hid hk3
          clear hown hkw hk3
          rcases (show k = 0 ∨ k = 1 ∨ k = 2 ∨ k = 3 ∨ k = 4 by omega) with rfl | rfl | rfl | rfl | rfl
          · obtain rfl := (show _ = Value.int .i64 0 from hik)
            clear hik
            go_wp2_with (first | (refine wpList_ix rfl 87 (.tmp 43) (.tmp 44) rfl _ _ _ rfl rfl (ix0 (h.ci : Int) (h.yo : Int) (h.ne : Int) (h.re : Int)) ?_; simp only [Act.put, List.setIfInBounds_toArray, List.set_cons_succ, List.set_cons_zero]) | fail)
            refine (four_yes h.ci HOK.out.ci _).mono ?_
            rintro e wa ⟨A4, c4, rfl, hy, hl, hk⟩
            have HYA := Lib.hid hy
            have HOA := Lib.hid (own_kept HOW.out hk (fun _ _ hf => hf))
            have HKA := Lib.hid (HKW.out.then hk)
            have HRA := Lib.hid (HKR.out.then hk)
            have HSZ := Lib.hid (show g3 ≤ wa.heap.size by have := HRA.out.size; have := HW3.out; have := HG3.out; omega)
            have HLN := Lib.hid (show (hd3 h 0).length + 4 ≤ 140737488355328 by simp [hd3, hd2, hd1, hd0, ipsM, twoB, beM_len])
            clear hy hl hk HOW HKW HKR
            go_wp2_with (at_builtin; refine wpList_any rfl _ _ 31 rfl g3 5 i0 (.int .u8 0) Try.underlying31 hi hz0 hz1 hz2 rfl _ _ _ rfl HOA.out A4 4 c4 (beM 4 h.ci) rfl HYA.out HLN.out HSZ.out ?_; intro v5 wb hown5 hgr5 hor5; clear hor5)
            have e3 : hd3 h 1 = hd3 h 0 ++ beM 4 h.ci := by simp [hd3, ipsM]
            have HO5 := Lib.hid (show wb.ownsRow g3 5 1 v5 (hd3 h 1).length (bys (hd3 h 1)) from by
              rw [e3, bys_app, List.length_append, beM_len]
              exact hown5)
            have hkb := (Kept.refl (fun j => g3 ≤ j) wa).grown hgr5 (fun j hj _ => own_ge1 HOA.out j hj)
            have HRB := Lib.hid (HRA.out.same hkb)
            have HKB := Lib.hid (HKA.out.fresh hkb (fun j hj => by have := HG23.out; have := HG2.out; have := HW.out; omega))
            clear hown5 hgr5 e3 hkb HOA HKA HRA HYA
            go_wp2
            go_roundw
            case rel => exact ⟨1, _, rfl, by omega, by go_num, HO5.out, HKB.out, HRB.out⟩
            case measure => simp [intOf]
          · obtain rfl := (show _ = Value.int .i64 1 from hik)
            clear hik
            go_wp2_with (first | (refine wpList_ix rfl 87 (.tmp 43) (.tmp 44) rfl _ _ _ rfl rfl (ix1 (h.ci : Int) (h.yo : Int) (h.ne : Int) (h.re : Int)) ?_; simp only [Act.put, List.setIfInBounds_toArray, List.set_cons_succ, List.set_cons_zero]) | fail)
            refine (four_yes h.yo HOK.out.yo _).mono ?_
            rintro e wa ⟨A4, c4, rfl, hy, hl, hk⟩
            have HYA := Lib.hid hy
            have HOA := Lib.hid (own_kept HOW.out hk (fun _ _ hf => hf))
            have HKA := Lib.hid (HKW.out.then hk)
            have HRA := Lib.hid (HKR.out.then hk)
            have HSZ := Lib.hid (show g3 ≤ wa.heap.size by have := HRA.out.size; have := HW3.out; have := HG3.out; omega)
            have HLN := Lib.hid (show (hd3 h 1).length + 4 ≤ 140737488355328 by simp [hd3, hd2, hd1, hd0, ipsM, twoB, beM_len])
            clear hy hl hk HOW HKW HKR
            go_wp2_with (at_builtin; refine wpList_any rfl _ _ 31 rfl g3 5 i0 (.int .u8 0) Try.underlying31 hi hz0 hz1 hz2 rfl _ _ _ rfl HOA.out A4 4 c4 (beM 4 h.yo) rfl HYA.out HLN.out HSZ.out ?_; intro v5 wb hown5 hgr5 hor5; clear hor5)
            have e3 : hd3 h 2 = hd3 h 1 ++ beM 4 h.yo := by simp [hd3, ipsM]
            have HO5 := Lib.hid (show wb.ownsRow g3 5 1 v5 (hd3 h 2).length (bys (hd3 h 2)) from by
              rw [e3, bys_app, List.length_append, beM_len]
              exact hown5)
            have hkb := (Kept.refl (fun j => g3 ≤ j) wa).grown hgr5 (fun j hj _ => own_ge1 HOA.out j hj)
            have HRB := Lib.hid (HRA.out.same hkb)
            have HKB := Lib.hid (HKA.out.fresh hkb (fun j hj => by have := HG23.out; have := HG2.out; have := HW.out; omega))
            clear hown5 hgr5 e3 hkb HOA HKA HRA HYA
            go_wp2
            go_roundw
            case rel => exact ⟨2, _, rfl, by omega, by go_num, HO5.out, HKB.out, HRB.out⟩
            case measure => simp [intOf]
          · obtain rfl := (show _ = Value.int .i64 2 from hik)
            clear hik
            go_wp2_with (first | (refine wpList_ix rfl 87 (.tmp 43) (.tmp 44) rfl _ _ _ rfl rfl (ix2 (h.ci : Int) (h.yo : Int) (h.ne : Int) (h.re : Int)) ?_; simp only [Act.put, List.setIfInBounds_toArray, List.set_cons_succ, List.set_cons_zero]) | fail)
            refine (four_yes h.ne HOK.out.ne _).mono ?_
            rintro e wa ⟨A4, c4, rfl, hy, hl, hk⟩
            have HYA := Lib.hid hy
            have HOA := Lib.hid (own_kept HOW.out hk (fun _ _ hf => hf))
            have HKA := Lib.hid (HKW.out.then hk)
            have HRA := Lib.hid (HKR.out.then hk)
            have HSZ := Lib.hid (show g3 ≤ wa.heap.size by have := HRA.out.size; have := HW3.out; have := HG3.out; omega)
            have HLN := Lib.hid (show (hd3 h 2).length + 4 ≤ 140737488355328 by simp [hd3, hd2, hd1, hd0, ipsM, twoB, beM_len])
            clear hy hl hk HOW HKW HKR
            go_wp2_with (at_builtin; refine wpList_any rfl _ _ 31 rfl g3 5 i0 (.int .u8 0) Try.underlying31 hi hz0 hz1 hz2 rfl _ _ _ rfl HOA.out A4 4 c4 (beM 4 h.ne) rfl HYA.out HLN.out HSZ.out ?_; intro v5 wb hown5 hgr5 hor5; clear hor5)
            have e3 : hd3 h 3 = hd3 h 2 ++ beM 4 h.ne := by simp [hd3, ipsM]
            have HO5 := Lib.hid (show wb.ownsRow g3 5 1 v5 (hd3 h 3).length (bys (hd3 h 3)) from by
              rw [e3, bys_app, List.length_append, beM_len]
              exact hown5)
            have hkb := (Kept.refl (fun j => g3 ≤ j) wa).grown hgr5 (fun j hj _ => own_ge1 HOA.out j hj)
            have HRB := Lib.hid (HRA.out.same hkb)
            have HKB := Lib.hid (HKA.out.fresh hkb (fun j hj => by have := HG23.out; have := HG2.out; have := HW.out; omega))
            clear hown5 hgr5 e3 hkb HOA HKA HRA HYA
            go_wp2
            go_roundw
            case rel => exact ⟨3, _, rfl, by omega, by go_num, HO5.out, HKB.out, HRB.out⟩
            case measure => simp [intOf]
          · obtain rfl := (show _ = Value.int .i64 3 from hik)
            clear hik
            go_wp2_with (first | (refine wpList_ix rfl 87 (.tmp 43) (.tmp 44) rfl _ _ _ rfl rfl (ix3 (h.ci : Int) (h.yo : Int) (h.ne : Int) (h.re : Int)) ?_; simp only [Act.put, List.setIfInBounds_toArray, List.set_cons_succ, List.set_cons_zero]) | fail)
            refine (four_yes h.re HOK.out.re _).mono ?_
            rintro e wa ⟨A4, c4, rfl, hy, hl, hk⟩
            have HYA := Lib.hid hy
            have HOA := Lib.hid (own_kept HOW.out hk (fun _ _ hf => hf))
            have HKA := Lib.hid (HKW.out.then hk)
            have HRA := Lib.hid (HKR.out.then hk)
            have HSZ := Lib.hid (show g3 ≤ wa.heap.size by have := HRA.out.size; have := HW3.out; have := HG3.out; omega)
            have HLN := Lib.hid (show (hd3 h 3).length + 4 ≤ 140737488355328 by simp [hd3, hd2, hd1, hd0, ipsM, twoB, beM_len])
            clear hy hl hk HOW HKW HKR
            go_wp2_with (at_builtin; refine wpList_any rfl _ _ 31 rfl g3 5 i0 (.int .u8 0) Try.underlying31 hi hz0 hz1 hz2 rfl _ _ _ rfl HOA.out A4 4 c4 (beM 4 h.re) rfl HYA.out HLN.out HSZ.out ?_; intro v5 wb hown5 hgr5 hor5; clear hor5)
            have e3 : hd3 h 4 = hd3 h 3 ++ beM 4 h.re := by simp [hd3, ipsM]
            have HO5 := Lib.hid (show wb.ownsRow g3 5 1 v5 (hd3 h 4).length (bys (hd3 h 4)) from by
              rw [e3, bys_app, List.length_append, beM_len]
              exact hown5)
            have hkb := (Kept.refl (fun j => g3 ≤ j) wa).grown hgr5 (fun j hj _ => own_ge1 HOA.out j hj)
            have HRB := Lib.hid (HRA.out.same hkb)
            have HKB := Lib.hid (HKA.out.fresh hkb (fun j hj => by have := HG23.out; have := HG2.out; have := HW.out; omega))
            clear hown5 hgr5 e3 hkb HOA HKA HRA HYA
            go_wp2
            go_roundw
            case rel => exact ⟨4, _, rfl, by omega, by go_num, HO5.out, HKB.out, HRB.out⟩
            case measure => simp [intOf]
          · obtain rfl := (show _ = Value.int .i64 4 from hik)
            clear hik
            have HP4 := Lib.hid (HP3.out.kept HKR.out (fun hf => by have := HG23.out; have := HG2.out; omega))
            have HR4 := Lib.hid (HR3.out.kept HKR.out (fun hf => by have := HG23.out; omega))
            have HI4 := Lib.hid (hI0.out.nil HKW.out)
            clear HP3 HR3 HI3 HK3
            go_upto_region 8 with (fail)
            have HGV := Lib.hid (show ∀ j, vv.ownBlock = some j → g3 ≤ j from fun j hj => own_ge1 HOW.out j hj)
            have HSZ := Lib.hid (show g3 ≤ wr.heap.size by have := HKR.out.size; have := HW3.out; have := HG3.out; omega)
            have HKP := Lib.hid (chI_keeps g3 wr.heap.size vv (cvG vv) (lsG h) (fun _ _ => True) (fun _ _ _ _ _ => trivial))
            have HST := Lib.hid (show chI g3 wr.heap.size vv (cvG vv) (lsG h) (fun _ _ => True) (fun _ => False) [] wr from ⟨Nat.le_refl _, fun _ hf => hf.elim, HOW.out, fun _ hf => hf.elim, fun k e => .inl e, trivial⟩)
            have HNG := Lib.hid (show ∀ u, Kept (fun k => vv.ownBlock = some k) wr u → DB u gb 33 h vo vb from fun u hu => HP4.out.kept hu (fun hf => by have := HGV.out _ hf; have := HG23.out; have := HG2.out; omega))
            have HLL := Lib.hid (show (hd3 h 4).length = 28 by simp [hd3, hd2, hd1, hd0, ipsM, twoB, beM_len])
            refine wp_region_acts (fun k => vv.ownBlock = some k) [3, 6, 9, 12] (fun i vl => (vl.toArray, 5)) (fun i => undef) (chI g3 wr.heap.size vv (cvG vv) (lsG h) (fun _ _ => True)) (fun _ _ => True) 14 (by kernel_rfl) (by kernel_rfl) HKP.out HST.out ?_
            simp only [List.take_succ_cons, List.take_zero, List.drop_succ_cons, List.drop_zero]
            refine tLex_quiets 3 rfl (by kernel_rfl) ?_
            simp only [List.take_succ_cons, List.take_zero, List.drop_succ_cons, List.drop_zero]
            apply Exists.intro
            refine ⟨?hqe0, ?hve0, ?hte0⟩
            case hqe0 =>
              intro V hV
              clear hV
              repeat (go_big_quiet_step (fail))
              exact wpQuiet_nil rfl
            case hve0 => exact ⟨trivial, trivial, trivial, trivial⟩
            case hte0 =>
              refine tLex_app (.tmp 52) (.tmp 54) 31 rfl rfl rfl undef trivial ?hcf0 ?_
              case hcf0 =>
                intro D u hu hI hdd
                have hy := byt_row ((HNG.out u hu).rst) (by rw [HOK.out.st]; decide) 6 HOK.out.st
                exact chI_app (ty := 31) hu hI hy (by have := HLL.out; have := HOK.out.st; have := HOK.out.pd; have := HOK.out.sv; have := HOK.out.fi; show (lsG h 0).length + 6 ≤ _; simp [lsG]; omega) HSZ.out rfl (fun v => rfl) (fun v u' => trivial)
              intro v6 _
              simp only [Act.put, List.setIfInBounds_toArray, List.set_cons_succ, List.set_cons_zero]
              refine tLex_quiets 2 rfl (by kernel_rfl) ?_
              simp only [List.take_succ_cons, List.take_zero, List.drop_succ_cons, List.drop_zero]
              apply Exists.intro
              refine ⟨?hqe1, ?hve1, ?hte1⟩
              case hqe1 =>
                intro V hV
                clear hV
                repeat (go_big_quiet_step (fail))
                exact wpQuiet_nil rfl
              case hve1 => exact ⟨trivial, trivial, trivial⟩
              case hte1 =>
                refine tLex_app (.tmp 55) (.tmp 57) 31 rfl rfl rfl undef trivial ?hcf1 ?_
                case hcf1 =>
                  intro D u hu hI hdd
                  have hy := byt_row ((HNG.out u hu).rpd HOK.out.s6) (by rw [HOK.out.pd]; decide) 10 HOK.out.pd
                  exact chI_app (ty := 31) hu hI hy (by have := HLL.out; have := HOK.out.st; have := HOK.out.pd; have := HOK.out.sv; have := HOK.out.fi; show (lsG h 1).length + 10 ≤ _; simp [lsG]; omega) HSZ.out rfl (fun v => rfl) (fun v u' => trivial)
                intro v7 _
                simp only [Act.put, List.setIfInBounds_toArray, List.set_cons_succ, List.set_cons_zero]
                refine tLex_quiets 2 rfl (by kernel_rfl) ?_
                simp only [List.take_succ_cons, List.take_zero, List.drop_succ_cons, List.drop_zero]
                apply Exists.intro
                refine ⟨?hqe2, ?hve2, ?hte2⟩
                case hqe2 =>
                  intro V hV
                  clear hV
                  repeat (go_big_quiet_step (fail))
                  exact wpQuiet_nil rfl
                case hve2 => exact ⟨trivial, trivial, trivial⟩
                case hte2 =>
                  refine tLex_app (.tmp 58) (.tmp 60) 31 rfl rfl rfl undef trivial ?hcf2 ?_
                  case hcf2 =>
                    intro D u hu hI hdd
                    have hy := byt_row ((HNG.out u hu).rsv HOK.out.s6) (by rw [HOK.out.sv]; decide) 64 HOK.out.sv
                    exact chI_app (ty := 31) hu hI hy (by have := HLL.out; have := HOK.out.st; have := HOK.out.pd; have := HOK.out.sv; have := HOK.out.fi; show (lsG h 2).length + 64 ≤ _; simp [lsG]; omega) HSZ.out rfl (fun v => rfl) (fun v u' => trivial)
                  intro v8 _
                  simp only [Act.put, List.setIfInBounds_toArray, List.set_cons_succ, List.set_cons_zero]
                  refine tLex_quiets 2 rfl (by kernel_rfl) ?_
                  simp only [List.take_succ_cons, List.take_zero, List.drop_succ_cons, List.drop_zero]
                  apply Exists.intro
                  refine ⟨?hqe3, ?hve3, ?hte3⟩
                  case hqe3 =>
                    intro V hV
                    clear hV
                    repeat (go_big_quiet_step (fail))
                    exact wpQuiet_nil rfl
                  case hve3 => exact ⟨trivial, trivial, trivial⟩
                  case hte3 =>
                    refine tLex_app (.tmp 61) (.tmp 63) 31 rfl rfl rfl undef trivial ?hcf3 ?_
                    case hcf3 =>
                      intro D u hu hI hdd
                      have hy := byt_row ((HNG.out u hu).rfi HOK.out.s6) (by rw [HOK.out.fi]; decide) 128 HOK.out.fi
                      exact chI_app (ty := 31) hu hI hy (by have := HLL.out; have := HOK.out.st; have := HOK.out.pd; have := HOK.out.sv; have := HOK.out.fi; show (lsG h 3).length + 128 ≤ _; simp [lsG]; omega) HSZ.out rfl (fun v => rfl) (fun v u' => trivial)
                    intro v9 _
                    simp only [Act.put, List.setIfInBounds_toArray, List.set_cons_succ, List.set_cons_zero]
                    refine tLex_quiets 1 rfl (by kernel_rfl) ?_
                    simp only [List.take_succ_cons, List.take_zero, List.drop_succ_cons, List.drop_zero]
                    apply Exists.intro
                    refine ⟨?hqz, ?hvz, ?htz⟩
                    case hqz =>
                      intro V hV
                      clear hV
                      repeat (go_big_quiet_step (fail))
                      exact wpQuiet_nil rfl
                    case hvz => exact ⟨trivial, trivial⟩
                    case htz =>
                      intro w5 hs
                      obtain ⟨_, _, hown, _, hnb, _⟩ := hs.know
                      have hn5 : ∀ j, vv.ownBlock = some j → ¬ j < g3 := fun j hj => by have := HGV.out j hj; omega
                      have hk5 : Kept Nil w w5 := HKW.out.fresh hs.kept (fun j hj => by have := HGV.out j hj; have := HG23.out; have := HG2.out; have := HW.out; omega)
                      have HR5 := Lib.hid (HR4.out.kept hs.kept (fun hf => hn5 _ hf HG23.out))
                      have HP5 := Lib.hid (HNG.out w5 hs.kept)
                      have HK5 := Lib.hid hk5
                      have HI5 := Lib.hid (hI0.out.nil hk5)
                      have hown' : w5.ownsRow g3 5 1 v9 (headB h).length (bys (headB h)) := by
                        rw [← headB_four h]
                        exact hown
                      obtain ⟨Ah, ch, rfl, hyh, hlh⟩ := Byt.of_own hown'
                      have HYH := Lib.hid hyh
                      have HLH := Lib.hid hlh
                      clear hs hown hnb hn5 hk5 hown' hyh hlh HKP HST HNG HOW HKW HKR HP4 HR4 HI4 HGV HSZ HLL
                      obtain ⟨nh, hnh⟩ : ∃ m, (headB h).length = m := ⟨_, rfl⟩
                      rw [hnh] at HYH HLH ⊢
                      obtain ⟨Ao, no, co, rfl, hO⟩ := hI0.out.o
                      obtain ⟨Ab, nb, cb, rfl, hb, hlb⟩ := hI0.out.b
                      have HO := Lib.hid hO.bounded
                      have HOL := Lib.hid hO.len
                      have hnc := hO.lt.1
                      have hcc := hO.lt.2
                      have HB := Lib.hid hb
                      clear hO hb hlb hnh
                      have y218 := HP5.out.cb HOK.out.s6
                      go_upto_region 10 with (first
                        | (refine wpList_bd rfl 43 _ rfl #[(0, .slice Ah nh ch), (2, .slice Ab nb cb)] rfl (rfv (.slice Ah nh ch) nilv (.slice Ab nb cb)) (bd_rf _ _ _ _ _ _) ?_; simp only [Act.put, List.setIfInBounds_toArray, List.set_cons_succ, List.set_cons_zero])
                        | (refine wpList_al rfl 43 rfl [nilv, nilv, nilv] al_rf ?_; intro w6 hb6 hk6 hz6; clear hz6)
                        | (refine wpList_st rfl 43 (.tmp 6) (.tmp 68) rfl w5.heap.size 0 rfl [.slice Ah nh ch, nilv, .slice Ab nb cb] (rfv (.slice Ah nh ch) nilv (.slice Ab nb cb)) rfl rfl (infRf _ _ _) 43 [nilv, nilv, nilv] hb6 (by show 0 + 3 ≤ 3; omega) (by intro u hu; simp at hu; rcases hu with rfl | rfl | rfl <;> rfl) ?_; intro w7 hb7 hk7 hz7; clear hz7; simp only [Act.put, List.setIfInBounds_toArray, List.set_cons_succ, List.set_cons_zero])
                        | fail)
                      
                      have HM7 := Lib.hid (show Blo w7 w5.heap.size 43 #[.slice Ah nh ch, nilv, .slice Ab nb cb] from hb7)
                      have hk := hk6.fresh hk7 (fun j hj => by cases hj; exact Nat.le_refl _)
                      have HR7 := Lib.hid (HR5.out.kept hk (fun hf => hf))
                      have HP7 := Lib.hid (HP5.out.kept hk (fun hf => hf))
                      have HK7 := Lib.hid (HK5.out.then hk)
                      have HH7 := Lib.hid (HYH.out.kept hk (fun _ _ hf => hf))
                      obtain ⟨g6, hg6⟩ : ∃ g, w5.heap.size = g := ⟨_, rfl⟩
                      have HG6 := Lib.hid (show g2 < g6 by have := HR5.out.lt; omega)
                      have HHL := Lib.hid (show ∀ i, Lies Ah nh i → i < g6 from fun i hi => by have := HYH.out.lt i hi; omega)
                      rw [hg6] at HM7 ⊢
                      have HGL := Lib.hid (show g6 < w7.heap.size from HM7.out.lt)
                      have HNO := Lib.hid (show no ≤ 1099511627776 by have := HOL.out; have := HN.out; omega)
                      have y217 := HP7.out.co HOK.out.s6
                      clear hb6 hk6 hb7 hk7 hk hg6 HR5 HP5 HK5 HYH HI5 y218
                      go_wp2
                      go_loopw [72] (fun i wr => ∃ (k : Nat) (v : Value), k ≤ no ∧ i = .int .i64 (k : Int) ∧ Blo wr g6 43 #[.slice Ah nh ch, v, .slice Ab nb cb] ∧ OwnO w7.heap.size (fun j => j < w.heap.size) .i64 wr 84 v (h.os.take k) ∧ Kept (One g6) w7 wr) (fun i _ => no - (intOf i).toNat)
                      case atStart => exact ⟨0, nilv, Nat.zero_le _, rfl, HM7.out, OwnO.nil _ _ _ _ _, Kept.refl _ _⟩
                      case round =>
                        clear HM7 y217
                        obtain ⟨k, v, hk, rfl, hm, hown, hkp⟩ := hrel
                        have HOW := Lib.hid hown
                        have HMR := Lib.hid hm
                        have HKR := Lib.hid hkp
                        have HKW := Lib.hid (show Kept Nil w wr from HK7.out.fresh hkp (fun i hi => by have := HG6.out; have := HG2.out; have := HW.out; cases hi; omega))
                        clear hm hown hkp
                        by_cases hlt : k < no
                        · have hkl : k < h.os.length := by rw [HOL.out]; exact hlt
                          obtain ⟨b, o, A', m, c', rfl, hrow, hby, hlv⟩ := (HO.out.kept HKW.out (fun _ _ hf => hf)).at hkl
                          have q0 := hrow 0 _ rfl
                          have q1 := hrow 1 _ rfl
                          rw [Nat.add_zero] at q0
                          have HTK := Lib.hid (show h.os.take (k + 1) = h.os.take k ++ [h.os[k]] from List.take_succ_eq_append_getElem hkl)
                          have HLK := Lib.hid (show (h.os.take k).length = k by rw [List.length_take]; omega)
                          have HLV := Lib.hid (fun j (hj : Lies A' m j) => (hlv j hj).2)
                          generalize h.os[k] = op at *
                          obtain ⟨oc, ov⟩ := op
                          simp only at q0
                          have HBY := Lib.hid (show Byt wr A' m c' ov from hby)
                          have u1 := (HMR.out.alloc (.cells #[.int .u8 (oc.toNat : Int), .slice A' m c'] 47)).cell 1
                          simp only [List.getElem?_toArray, List.getElem?_cons_succ, List.getElem?_cons_zero] at u1
                          have hw64 : wrap64 (oc.toNat : Int) = (oc.toNat : Int) := by unfold wrap64; have := oc.toNat_lt; omega
                          obtain ⟨Aw, cw, rfl⟩ := HOW.out.form
                          rw [HLK.out] at HMR u1 HOW
                          obtain ⟨rs, g1, g2', g3', g4'⟩ := HOW.out
                          rw [HLK.out] at g1 g2'
                          have HRS1 := Lib.hid g1
                          have HRS2 := Lib.hid g2'
                          have HRS3 := Lib.hid g3'
                          have HRS4 := Lib.hid g4'
                          have hka := (((Kept.refl Nil wr).alloc (.cells #[.int .u8 (oc.toNat : Int), .slice A' m c'] 47)).alloc (.cells #[.int .i64 (oc.toNat : Int), .slice A' m c'] 84))
                          have HOA := Lib.hid (own_kept g1 hka (fun _ _ hf => hf))
                          have HSR := Lib.hid (Rws.lit (s := 2) (wr.alloc (.cells #[.int .u8 (oc.toNat : Int), .slice A' m c'] 47)) [[.int .i64 (oc.toNat : Int), .slice A' m c']] 84 (by simp) (by simp) #[.int .i64 (oc.toNat : Int), .slice A' m c'] rfl 1 rfl (wr.heap.size + 1) (by simp))
                          have HWS := Lib.hid (show w7.heap.size ≤ wr.heap.size from HKR.out.size)
                          have HM2 := Lib.hid (HMR.out.kept hka (fun hf => hf))
                          clear hrow hby hlv hka g1 g2' g3' g4'
                          go_wp2_with (first
                            | (at_builtin; refine wpList_appR rfl _ _ 41 rfl 2 w7.heap.size 84 32 j0 (.agg #[.int .i64 0, .slice none 0 0]) Try.underlying41 ji jz0 jz1 jz2 rfl (by decide) _ _ _ rfl HOA.out _ 1 1 [[.int .i64 (oc.toNat : Int), .slice A' m c']] rfl HSR.out (by intro u hu; simp at hu; rcases hu with rfl | rfl <;> rfl) (by have := HNO.out; unfold maxLen; omega) (by have := HNO.out; omega) (by have := HWS.out; simp; omega) ?_; intro v' wc hown hgr hor; clear hor; go_loud (have hkc : Kept (fun j => w7.heap.size ≤ j) wr wc := (((Kept.refl _ wr).alloc _).alloc _).grown hgr (fun j hj _ => own_ge1 HRS1.out j hj); have HMC := Lib.hid (HMR.out.kept hkc (fun hf => by have := HGL.out; omega)); have HKC := Lib.hid hkc; have HOC := Lib.hid hown; clear hkc hgr hown; obtain ⟨Av, cv', rfl⟩ := own_form HOC.out))
                            | (refine wpList_st rfl _ (.tmp 86) (.tmp 85) rfl g6 1 rfl [.slice Av (k + 1) cv'] _ rfl rfl infSR 43 [.slice Ah nh ch, .slice Aw k cw, .slice Ab nb cb] HMC.out (by show 1 + 1 ≤ 3; omega) (one_slice _ _ _) ?_; intro wd hbd hkd hzd; clear hzd; simp only [Act.put, List.setIfInBounds_toArray, List.set_cons_succ, List.set_cons_zero])
                            | fail)
                          have hcd := (HKC.out.mono (F' := fun j => w7.heap.size ≤ j ∨ j = g6) (fun i _ h => .inl h)).trans hkd (fun i hi hf => .inr hf)
                          have hfar : ∀ i, i < w.heap.size → ¬ (w7.heap.size ≤ i ∨ i = g6) := fun i hi hf => by
                            have h1 := HK7.out.size
                            have h2 := HG6.out
                            have h3 := HG2.out
                            have h4 := HW.out
                            rcases hf with hf | hf <;> omega
                          have HMD := Lib.hid (show Blo wd g6 43 #[.slice Ah nh ch, .slice Av (k + 1) cv', .slice Ab nb cb] from hbd)
                          have HOD := Lib.hid (show OwnO w7.heap.size (fun j => j < w.heap.size) .i64 wd 84 (.slice Av (k + 1) cv') (h.os.take (k + 1)) from by
                            rw [HTK.out]
                            refine OwnO.snoc (o := (oc, ov)) (r := [.int .i64 (oc.toNat : Int), .slice A' m c']) rfl rs (by rw [HLK.out]; exact HRS2.out) HRS3.out (fun i r o hr ho => (HRS4.out i r o hr ho).kept hcd hfar) ⟨A', m, c', rfl, HBY.out.kept hcd (fun i hi => hfar i (HLV.out i hi)), fun i hi => HLV.out i hi⟩ ?_
                            rw [HLK.out]
                            exact own_kept HOC.out hkd (fun i hi hf => by have h1 := own_ge1 HOC.out i hi; have := HGL.out; cases hf; omega))
                          have HKD := Lib.hid (HKR.out.trans hcd (fun i hi hf => by rcases hf with hf | hf; exact absurd hf (by omega); exact hf))
                          clear hcd hfar hbd hkd HOC HMC HKC HM2 HSR HOA u1
                          go_roundw
                          case rel => exact ⟨k + 1, _, by omega, by go_num, HMD.out, HOD.out, HKD.out⟩
                          case measure => simp [intOf]; omega
                        · obtain rfl : k = no := by omega
                          have ek : h.os.take k = h.os := List.take_of_length_le (by rw [HOL.out]; exact Nat.le_refl _)
                          rw [ek] at HOW
                          obtain ⟨Av, cv', rfl, hop⟩ := HOW.out.opts
                          have HOP := Lib.hid hop
                          have HR8 := Lib.hid (HR7.out.kept HKR.out (fun hf => by have := HG6.out; cases hf; omega))
                          clear hop ek
                          rw [HOL.out] at HMR HOP
                          have HRW := Lib.hid (Blo.row [] [.slice Ah nh ch, .slice Av k cv', .slice Ab nb cb] [] (w := wr) (g := g6) (t := 43) HMR.out)
                          go_wp2_with (first
                            | (refine wpList_ld rfl 43 (.tmp 6) rfl g6 0 rfl [.slice Ah nh ch, .slice Av k cv', .slice Ab nb cb] HRW.out _ Try.underlying43 rfl (infRf _ _ _) ?_; simp only [Act.put, List.setIfInBounds_toArray, List.set_cons_succ, List.set_cons_zero])
                            | (refine wpList_st rfl 43 (.tmp 2) (.tmp 88) rfl g2 0 rfl [.slice Ah nh ch, .slice Av k cv', .slice Ab nb cb] _ rfl rfl (infRf _ _ _) 43 [nilv, nilv, nilv] HR8.out (by show 0 + 3 ≤ 3; omega) (by intro u hu; simp at hu; rcases hu with rfl | rfl | rfl <;> rfl) ?_; intro wd hbd hkd hzd; clear hzd; simp only [Act.put, List.setIfInBounds_toArray, List.set_cons_succ, List.set_cons_zero])
                            | fail)
                          have hrow := Blo.row [] [.slice Ah nh ch, .slice Av k cv', .slice Ab nb cb] [] (w := wd) (g := g2) (t := 43) hbd
                          have hkf := HKW.out.fresh hkd (fun i hi => by have := HG2.out; have := HW.out; cases hi; omega)
                          refine bodyPost_ret (res_cell0 Try.results10 rfl hrow Try.underlying43 rfl (infRf _ _ _)) rfl ?_
                          refine ⟨_, _, _, rfl, ⟨⟨_, _, _, rfl, ?_⟩, ⟨_, _, _, rfl, ?_⟩, ⟨_, _, _, rfl, ?_⟩⟩, hkf⟩
                          · exact (HH7.out.kept HKR.out (fun i hi hf => by have := HHL.out i hi; cases hf; omega)).kept hkd (fun i hi hf => by
                              have h1 := HLH.out i hi
                              have h2 := HG23.out
                              cases hf
                              omega)
                          · exact (HOP.out.kept hkd (fun i hi hf => by
                              have h1 := HGL.out
                              have h2 := HG6.out
                              have h3 := HG2.out
                              have h4 := HW.out
                              cases hf
                              rcases hi with hi | hi <;> omega)).mono (fun _ _ => trivial)
                          · exact HB.out.kept hkf (fun _ _ hf => hf)
end Go.Proofs.Ythjfeanmgaidcaa
