/- tolllaw06.InetPuts: the region that cuts the options and the body, in whatever order. -/
import Derived.Test.YtflhbidmjlfjkaaDoorInZ
import Derived.Test.YtflhbidmjlfjkaaDoorInQ
import Derived.Test.YtflhbidmjlfjkaaDoorRgI
import Derived.Test.YtflhbidmjlfjkaaDoorInFr
import Derived.Test.YtflhbidmjlfjkaaDoorPosts
import Derived.Test.YtflhbidmjlfjkaaDoorRegW
namespace Go.Proofs.YtflhbidmjlfjkaaDoor
open Go.RowKit Go.Sort
set_option linter.unusedVariables false

theorem wp_nameC {P : Program} {c : Code} {Q : Exit → Act → World → Prop} {a : Act} {w : World} (h : ∀ A, A = a → Code.wp P c Q A w) : Code.wp P c Q a w := h a rfl
section
variable {P : Program} {o : Oper} {a : Act} {u : World}
theorem exec_mvC (x : Operand) (ho : o.op = .move x) {v : Value} (hx : a.eval x = v) : (execOp a.eval o).run P u = .ok (.value v) u := by
  unfold execOp
  simp only [ho, hx, Sem.run_pure]
theorem exec_asC (x : Operand) (ho : o.op = .assign x) {v : Value} (hx : a.eval x = v) : (execOp a.eval o).run P u = .ok (.value v) u := by
  unfold execOp
  simp only [ho, hx, Sem.run_pure]
end
def puL : List Nat := [10, 11, 12, 13, 14, 15, 16, 17, 18, 19, 20, 21, 22, 23, 1]
structure puI (w : World) (g : Nat) (h : Hd) (A : Option Addr) (n c : Nat) (B : Option Addr) (m d mb : Nat) (body : List UInt8) (a0 a : Act) (u : World) : Prop where
  size : a.tmps.size = a0.tmps.size
  defs : a.defers = a0.defers
  fr : ∀ k, k ∉ puL → a.tmps.getD k undef = a0.tmps.getD k undef
  t1 : a.eval (.tmp 1) = .slice B m d ∨ a.eval (.tmp 1) = .slice B mb d
  hb : ∃ A' n' c', HB u g 27 h A' n' c'
  kept : Kept Nil w u
  bx : Byt u A n c h.x
  bb : Byt u B m d body
  big : g + 1 ≤ u.heap.size
  low : w.heap.size ≤ g
  offx : ∀ i, Lies A n i → i ≠ g
  offb : ∀ i, Lies B m i → i ≠ g
structure puR (g : Nat) (A : Option Addr) (n c mn : Nat) (B : Option Addr) (m d mb : Nat) (x : List UInt8) (i : Nat) (v : Value) (u : World) : Prop where
  a10 : i = 0 ∨ i = 2 ∨ i = 13 → v = pAt g 10
  lx : i = 1 ∨ i = 3 → v = .slice A n c
  n4 : i = 4 → v = .int .i64 (n : Int)
  n5 : i = 5 → v = .int .i64 (mn : Int)
  s6 : i = 6 → v = .slice A mn c
  o7 : i = 7 → u.ownsRow (g + 1) 5 1 v mn (bys x)
  l8 : i = 8 ∨ i = 9 → v = .slice B m d ∨ v = .slice B mb d
  n10 : i = 10 → v = .int .i64 (m : Int) ∨ v = .int .i64 (mb : Int)
  n11 : i = 11 → v = .int .i64 (mb : Int)
  s12 : i = 12 ∨ i = 15 → v = .slice B mb d
  t14 : i = 14 → ∃ y, u.cell? ⟨g, 10, none⟩ = some y ∧ u.ownsRow (g + 1) 5 1 y mn (bys x)
def puU (g : Nat) (A : Option Addr) (n c : Nat) (j : Nat) (u : World) : Prop := if j = 14 then u.cell? ⟨g, 10, none⟩ = some (.slice A n c) else True
section
variable {w u u' : World} {g : Nat} {h : Hd} {A : Option Addr} {n c mn : Nat} {B : Option Addr} {m d mb : Nat} {body x : List UInt8} {a0 a : Act} {i : Nat}
theorem puR_kept {v : Value} (r : puR g A n c mn B m d mb x i v u) (k : Kept Nil u u') (hg : g < u.heap.size) : puR g A n c mn B m d mb x i v u' :=
  ⟨r.a10, r.lx, r.n4, r.n5, r.s6, fun e => own_kept (r.o7 e) k (fun _ _ hf => hf), r.l8, r.n10, r.n11, r.s12,
    fun e => by obtain ⟨y, h1, h2⟩ := r.t14 e; exact ⟨y, by rw [cell_kept k (fun hf => hf) hg]; exact h1, own_kept h2 k (fun _ _ hf => hf)⟩⟩
theorem puR_st {v : Value} (r : puR g A n c mn B m d mb x i v u) (k : Kept (One g) u u') (hi : i ≠ 14) : puR g A n c mn B m d mb x i v u' := by
  have ow : ∀ {v : Value} {n : Nat} {xs : List Value} {e : TypeId}, u.ownsRow (g + 1) e 1 v n xs → u'.ownsRow (g + 1) e 1 v n xs := fun h2 => own_kept h2 k (fun i hi hf => by have := (h2.lt i hi).1; cases hf; omega)
  exact ⟨r.a10, r.lx, r.n4, r.n5, r.s6, fun e => ow (r.o7 e), r.l8, r.n10, r.n11, r.s12, fun e => absurd e hi⟩
theorem puU_kept {j : Nat} (h : puU g A n c j u) (e : j = 14 → u'.cell? ⟨g, 10, none⟩ = u.cell? ⟨g, 10, none⟩) : puU g A n c j u' := by
  unfold puU at h ⊢
  split at h <;> rename_i h0
  · rw [if_pos h0, e h0]; exact h
  · rw [if_neg h0]; trivial
theorem puI.put (h' : puI w g h A n c B m d mb body a0 a u) (k : Nat) (v : Value) (hk : k ∈ puL) (h1 : k ≠ 1) : puI w g h A n c B m d mb body a0 (a.put (some k) v) u where
  size := by rw [put_size]; exact h'.size
  defs := h'.defs
  fr := fun j hj => by
    have hkj : k ≠ j := fun e => hj (e ▸ hk)
    have := eval_put a k v j hkj
    exact this.trans (h'.fr j hj)
  t1 := by rw [eval_put _ _ _ _ h1]; exact h'.t1
  hb := h'.hb
  kept := h'.kept
  bx := h'.bx
  bb := h'.bb
  big := h'.big
  low := h'.low
  offx := h'.offx
  offb := h'.offb
theorem puI.put1 (h' : puI w g h A n c B m d mb body a0 a u) (h1 : 1 < a0.tmps.size) : puI w g h A n c B m d mb body a0 (a.put (some 1) (.slice B mb d)) u where
  size := by rw [put_size]; exact h'.size
  defs := h'.defs
  fr := fun j hj => by
    have hkj : 1 ≠ j := fun e => hj (e ▸ (by decide))
    have := eval_put a 1 (.slice B mb d) j hkj
    exact this.trans (h'.fr j hj)
  t1 := .inr (by
    simp only [Act.put, Act.eval, Array.getD_eq_getD_getElem?]
    rw [Array.getElem?_setIfInBounds_self_of_lt (by rw [h'.size]; exact h1)]
    rfl)
  hb := h'.hb
  kept := h'.kept
  bx := h'.bx
  bb := h'.bb
  big := h'.big
  low := h'.low
  offx := h'.offx
  offb := h'.offb
theorem puI.next (h' : puI w g h A n c B m d mb body a0 a u) (k : Kept Nil u u') : puI w g h A n c B m d mb body a0 a u' where
  size := h'.size
  defs := h'.defs
  fr := h'.fr
  t1 := h'.t1
  hb := by obtain ⟨x, y, z, hb⟩ := h'.hb; exact ⟨x, y, z, hb.kept k (fun hf => hf)⟩
  kept := h'.kept.then k
  bx := h'.bx.kept k (fun _ _ hf => hf)
  bb := h'.bb.kept k (fun _ _ hf => hf)
  big := Nat.le_trans h'.big k.size
  low := h'.low
  offx := h'.offx
  offb := h'.offb
theorem puI.stored (h' : puI w g h A n c B m d mb body a0 a u) (k : Kept (One g) u u') (hb : ∃ A' n' c', HB u' g 27 h A' n' c') (hz : u'.heap.size = u.heap.size) : puI w g h A n c B m d mb body a0 a u' where
  size := h'.size
  defs := h'.defs
  fr := h'.fr
  t1 := h'.t1
  hb := hb
  kept := h'.kept.fresh k (fun i hi => by cases hi; exact h'.low)
  bx := h'.bx.kept k (fun i hi hf => h'.offx i hi hf)
  bb := h'.bb.kept k (fun i hi hf => h'.offb i hi hf)
  big := by rw [hz]; exact h'.big
  low := h'.low
  offx := h'.offx
  offb := h'.offb
end
section
variable {u : World} {g : Nat} {A : Option Addr} {n c mn : Nat} {B : Option Addr} {m d mb : Nat} {x : List UInt8} {i : Nat}
theorem pR_a (hi : i = 0 ∨ i = 2 ∨ i = 13) : puR g A n c mn B m d mb x i (pAt g 10) u := by
  constructor <;> intro h <;> first | rfl | (exfalso; omega)
theorem pR_lx (hi : i = 1 ∨ i = 3) : puR g A n c mn B m d mb x i (.slice A n c) u := by
  constructor <;> intro h <;> first | rfl | (exfalso; omega)
theorem pR_n4 (hi : i = 4) : puR g A n c mn B m d mb x i (.int .i64 (n : Int)) u := by
  constructor <;> intro h <;> first | rfl | (exfalso; omega)
theorem pR_n5 (hi : i = 5) : puR g A n c mn B m d mb x i (.int .i64 (mn : Int)) u := by
  constructor <;> intro h <;> first | rfl | (exfalso; omega)
theorem pR_s6 (hi : i = 6) : puR g A n c mn B m d mb x i (.slice A mn c) u := by
  constructor <;> intro h <;> first | rfl | (exfalso; omega)
theorem pR_n11 (hi : i = 11) : puR g A n c mn B m d mb x i (.int .i64 (mb : Int)) u := by
  constructor <;> intro h <;> first | rfl | (exfalso; omega)
theorem pR_s12 (hi : i = 12 ∨ i = 15) : puR g A n c mn B m d mb x i (.slice B mb d) u := by
  constructor <;> intro h <;> first | rfl | (exfalso; omega)
theorem pR_o7 (hi : i = 7) {v : Value} (ho : u.ownsRow (g + 1) 5 1 v mn (bys x)) : puR g A n c mn B m d mb x i v u := by
  constructor <;> intro h <;> first | (exfalso; omega) | exact ho
theorem pR_l8 (hi : i = 8 ∨ i = 9) {v : Value} (ho : v = .slice B m d ∨ v = .slice B mb d) : puR g A n c mn B m d mb x i v u := by
  constructor <;> intro h <;> first | (exfalso; omega) | exact ho
theorem pR_n10 (hi : i = 10) {v : Value} (ho : v = .int .i64 (m : Int) ∨ v = .int .i64 (mb : Int)) : puR g A n c mn B m d mb x i v u := by
  constructor <;> intro h <;> first | (exfalso; omega) | exact ho
theorem pR_t14 (hi : i = 14) {v : Value} (ho : ∃ y, u.cell? ⟨g, 10, none⟩ = some y ∧ u.ownsRow (g + 1) 5 1 y mn (bys x)) : puR g A n c mn B m d mb x i v u := by
  constructor <;> intro h <;> first | (exfalso; omega) | exact ho
end
theorem fa_o (g : Nat) (u : World) : (Instr.fieldAt 27 (pAt g 0) 10).run Tryd.prog u = .ok (pAt g 10) u := by kernel_rfl
theorem ln_b (A : Option Addr) (n c : Nat) (ty : TypeId) (u : World) : (Builtin.len_ #[25] ty #[.slice A n c]).run Tryd.prog u = .ok (.int .i64 (n : Int)) u := by
  simp [Builtin.len_, Builtin.lenOf, run_underlying Tryd.underlying25, goInt]
theorem mn_i (n b m : Nat) (ty : TypeId) (u : World) (h : (if (b : Int) < (n : Int) then (b : Int) else (n : Int)) = (m : Int)) : (Builtin.min_ #[3, 3] ty #[.int .i64 (n : Int), .int .i64 (b : Int)]).run Tryd.prog u = .ok (.int .i64 (m : Int)) u := by
  rw [← h]
  simp [Builtin.min_, Builtin.min2]
theorem infX : (Tryd.prog.info? 25).map (·.size) = some 1 := by kernel_rfl
set_option maxRecDepth 100000 in
set_option maxHeartbeats 8000000 in
theorem puts_yes (h : Hd) (hok : h.ok) (A : Option Addr) (n c : Nat) (B : Option Addr) (m d : Nat) (body : List UInt8) (w : World) (hx : Byt w A n c h.x) (hy : Byt w B m d body) (hG : Gl w) :
    Calls Tryd.prog 3 #[.agg (hcs h A n c).toArray, .slice B m d] w fun e w' => e = .returned (.bool true) ∧ Below w.heap.size w w' := by
  have hnc := hx.2.1
  have hmd := hy.2.1
  obtain ⟨mn, hmn, hmn1, hmn2⟩ : ∃ k : Nat, (if (60 : Int) < (n : Int) then (60 : Int) else (n : Int)) = (k : Int) ∧ k ≤ n ∧ k ≤ 60 := ⟨min n 60, by split <;> omega, by omega, by omega⟩
  obtain ⟨mb, hmb, hmb1, hmb2⟩ : ∃ k : Nat, (if (300 : Int) < (m : Int) then (300 : Int) else (m : Int)) = (k : Int) ∧ k ≤ m ∧ k ≤ 300 := ⟨min m 300, by split <;> omega, by omega, by omega⟩
  have hmb' : (if (300 : Int) < (mb : Int) then (300 : Int) else (mb : Int)) = (mb : Int) := by rw [if_neg (by omega)]
  have hslx := run_cut_hi (P := Tryd.prog) Tryd.underlying25 inf5.1 A n c mn (mn : Int) rfl (by omega)
  have hslb := run_cut_hi (P := Tryd.prog) Tryd.underlying25 inf5.1 B m d mb (mb : Int) rfl (by omega)
  have hslb' := run_cut_hi (P := Tryd.prog) Tryd.underlying25 inf5.1 B mb d mb (mb : Int) rfl (by omega)
  have hP := HB.new w 27 h A n c
  have hk := (Kept.refl Nil w).alloc (.cells (hcs h A n c).toArray 27)
  have HSX := Lib.hid hslx
  have HSB := Lib.hid hslb
  have HSB' := Lib.hid hslb'
  have HMN := Lib.hid hmn
  have HMB := Lib.hid hmb
  have HMB' := Lib.hid hmb'
  have HN := Lib.hid (And.intro hmn1 hmn2)
  have HM := Lib.hid (And.intro hmb1 hmb2)
  have HP := Lib.hid hP
  have HK := Lib.hid hk
  have HX := Lib.hid (hx.kept hk (fun _ _ hf => hf))
  have HY := Lib.hid (hy.kept hk (fun _ _ hf => hf))
  have HXL := Lib.hid hx.lt
  have HYL := Lib.hid hy.lt
  have HOK := Lib.hid hok
  have HLX := Lib.hid hx.1
  have HLY := Lib.hid hy.1
  clear hslx hslb hslb' hmn hmb hmb' hmn1 hmn2 hmb1 hmb2 hP hk hx hy hok hnc hmd
  have HGG := Lib.hid hG
  go_enter Tryd.func3, Tryd.ntmps3
  go_upto_region 1 with (fail)
  refine wp_nameE (fun W => HB W w.heap.size 27 h A n c ∧ Kept Nil w W ∧ Byt W A n c h.x ∧ Byt W B m d body) ⟨HP.out, HK.out, HX.out, HY.out⟩ ?_
  clear HP HK HX HY
  rintro W ⟨hp, hk, hx, hy⟩
  have HP := Lib.hid hp
  have HK := Lib.hid hk
  have HX := Lib.hid hx
  have HY := Lib.hid hy
  clear hp hk hx hy
  obtain ⟨j0, hj, hy0, hy1, hy2⟩ := info_parts Tryd.infb
  refine wp_nameC fun A0 hA0 => ?_
  have HS : A0.tmps.size = 86 := by rw [hA0]; rfl
  have a1 : A0.eval (.tmp 1) = .slice B m d := by rw [hA0]; rfl
  have a2 : A0.tmps.getD 2 undef = pAt w.heap.size 0 := by rw [hA0]; rfl
  have HA0 := Lib.hid hA0
  clear hA0
  refine wp_region_posts 86 (puI w w.heap.size h A n c B m d mb body A0) (puR w.heap.size A n c mn B m d mb (h.x.take mn)) (puU w.heap.size A n c) (by kernel_rfl) (by kernel_rfl) (fun a u h => h.size.trans HS) (fun u hu => ⟨⟨rfl, rfl, fun _ _ => rfl, .inl a1, ⟨_, _, _, HP.out.kept hu (fun hf => hf)⟩, HK.out.then hu, HX.out.kept hu (fun _ _ hf => hf), HY.out.kept hu (fun _ _ hf => hf), Nat.le_trans HP.out.lt hu.size, Nat.le_refl _, fun i hi => by have := HXL.out i hi; omega, fun i hi => by have := HYL.out i hi; omega⟩, fun j => by
    unfold puU
    split
    · exact (HP.out.kept hu (fun hf => hf)).cx
    · trivial⟩) ?_ ?_
  · refine ⟨?_, ?_, ?_, ?_, ?_, ?_, ?_, ?_, ?_, ?_, ?_, ?_, ?_, ?_, ?_, ?_, trivial⟩
    · intro a u hI hp hU
      have e2 : a.eval (.tmp 2) = pAt w.heap.size 0 := (hI.fr 2 (by decide)).trans a2
      exact step_pure (pAt w.heap.size 10) (exec_fa _ _ _ rfl e2 (fa_o _ _)) rfl (hI.put _ _ (by decide) (by decide)) (pR_a (by decide))
    · intro a u hI hp hU
      exact step_pure _ (exec_ld1 _ _ _ rfl ((got hp ⟨0, .data⟩ (by simp) rfl 10 rfl).a10 (by decide)) (hU.2 14 _ rfl ⟨⟨1, .phase⟩, by simp, rfl, rfl⟩) Tryd.underlying25) rfl (hI.put _ _ (by decide) (by decide)) (pR_lx (by decide))
    · intro a u hI hp hU
      have e2 : a.eval (.tmp 2) = pAt w.heap.size 0 := (hI.fr 2 (by decide)).trans a2
      exact step_pure (pAt w.heap.size 10) (exec_fa _ _ _ rfl e2 (fa_o _ _)) rfl (hI.put _ _ (by decide) (by decide)) (pR_a (by decide))
    · intro a u hI hp hU
      exact step_pure _ (exec_ld1 _ _ _ rfl ((got hp ⟨2, .data⟩ (by simp) rfl 12 rfl).a10 (by decide)) (hU.2 14 _ rfl ⟨⟨3, .phase⟩, by simp, rfl, rfl⟩) Tryd.underlying25) rfl (hI.put _ _ (by decide) (by decide)) (pR_lx (by decide))
    · intro a u hI hp hU
      exact step_pure _ (exec_len _ _ rfl ((got hp ⟨3, .data⟩ (by simp) rfl 13 rfl).lx (by decide)) (ln_b _ _ _ _ _)) rfl (hI.put _ _ (by decide) (by decide)) (pR_n4 rfl)
    · intro a u hI hp hU
      exact step_pure _ (exec_min _ _ _ _ rfl ((got hp ⟨4, .data⟩ (by simp) rfl 14 rfl).n4 rfl) rfl (mn_i _ _ _ _ _ HMN.out)) rfl (hI.put _ _ (by decide) (by decide)) (pR_n5 rfl)
    · intro a u hI hp hU
      exact step_pure _ (exec_cut _ _ _ rfl Tryd.underlying25 ((got hp ⟨1, .data⟩ (by simp) rfl 11 rfl).lx (by decide)) ((got hp ⟨5, .data⟩ (by simp) rfl 15 rfl).n5 rfl) (HSX.out u)) rfl (hI.put _ _ (by decide) (by decide)) (pR_s6 rfl)
    · intro a u hI hp hU
      obtain ⟨v', u', hr, hown, hgr, _⟩ := run_app (P := Tryd.prog) (ty := 25) Tryd.underlying25 hj hy0 hy1 hy2 rfl (World.ownsRow_nil u (w.heap.size + 1) 5 1) (hI.bx.pre HN.out.1) (by have := HN.out.2; omega) hI.big
      have hk : Kept Nil u u' := (Kept.refl Nil u).grown hgr (fun k hk => by cases hk)
      unfold Oper.wp
      rw [exec_app _ _ _ rfl rfl ((got hp ⟨6, .data⟩ (by simp) rfl 16 rfl).s6 rfl) hr]
      rw [Nat.zero_add, List.nil_append] at hown
      exact ⟨v', rfl, (hI.put _ _ (by decide) (by decide)).next hk, pR_o7 rfl hown, fun j x _ h => puR_kept h hk (by have := hI.big; omega), fun j _ h => puU_kept h fun _ => cell_kept hk (fun hf => hf) (by have := hI.big; omega)⟩
    · intro a u hI hp hU
      exact step_pure _ (exec_mvC (.tmp 1) rfl rfl) rfl (hI.put _ _ (by decide) (by decide)) (pR_l8 (by decide) hI.t1)
    · intro a u hI hp hU
      exact step_pure _ (exec_mvC (.tmp 1) rfl rfl) rfl (hI.put _ _ (by decide) (by decide)) (pR_l8 (by decide) hI.t1)
    · intro a u hI hp hU
      rcases (got hp ⟨9, .data⟩ (by simp) rfl 19 rfl).l8 (by decide) with e | e
      · exact step_pure _ (exec_len _ _ rfl e (ln_b _ _ _ _ _)) rfl (hI.put _ _ (by decide) (by decide)) (pR_n10 rfl (.inl rfl))
      · exact step_pure _ (exec_len _ _ rfl e (ln_b _ _ _ _ _)) rfl (hI.put _ _ (by decide) (by decide)) (pR_n10 rfl (.inr rfl))
    · intro a u hI hp hU
      rcases (got hp ⟨10, .data⟩ (by simp) rfl 20 rfl).n10 rfl with e | e
      · exact step_pure _ (exec_min _ _ _ _ rfl e rfl (mn_i _ _ _ _ _ HMB.out)) rfl (hI.put _ _ (by decide) (by decide)) (pR_n11 rfl)
      · exact step_pure _ (exec_min _ _ _ _ rfl e rfl (mn_i _ _ _ _ _ HMB'.out)) rfl (hI.put _ _ (by decide) (by decide)) (pR_n11 rfl)
    · intro a u hI hp hU
      rcases (got hp ⟨8, .data⟩ (by simp) rfl 18 rfl).l8 (by decide) with e | e
      · exact step_pure _ (exec_cut _ _ _ rfl Tryd.underlying25 e ((got hp ⟨11, .data⟩ (by simp) rfl 21 rfl).n11 rfl) (HSB.out u)) rfl (hI.put _ _ (by decide) (by decide)) (pR_s12 (by decide))
      · exact step_pure _ (exec_cut _ _ _ rfl Tryd.underlying25 e ((got hp ⟨11, .data⟩ (by simp) rfl 21 rfl).n11 rfl) (HSB'.out u)) rfl (hI.put _ _ (by decide) (by decide)) (pR_s12 (by decide))
    · intro a u hI hp hU
      have e2 : a.eval (.tmp 2) = pAt w.heap.size 0 := (hI.fr 2 (by decide)).trans a2
      exact step_pure (pAt w.heap.size 10) (exec_fa _ _ _ rfl e2 (fa_o _ _)) rfl (hI.put _ _ (by decide) (by decide)) (pR_a (by decide))
    · intro a u hI hp hU
      obtain ⟨A', n', c', hfb⟩ := hI.hb
      have ho := (got hp ⟨7, .data⟩ (by simp) rfl 17 rfl).o7 rfl
      obtain ⟨A2, c2, hv⟩ := own_form ho
      refine step_st _ _ _ rfl rfl ((got hp ⟨13, .data⟩ (by simp) rfl 23 rfl).a10 (by decide)) [.slice A2 mn c2] hv rfl infX hfb (by rw [hcs_len, List.length_singleton]; decide) (by intro z hz; rw [List.mem_singleton] at hz; rw [hz]; rfl) fun u' hbl hk hz => ?_
      have hfb' : HB u' w.heap.size 27 h A2 mn c2 := hbl
      have ho' := own_kept ho hk (fun i hi hf => by have := (ho.lt i hi).1; cases hf; omega)
      exact ⟨hI.stored hk ⟨_, _, _, hfb'⟩ hz, pR_t14 rfl ⟨_, hfb'.cx, by rw [← hv]; exact ho'⟩, fun j z hj h => puR_st h hk hj, fun j hj h => puU_kept h fun e => absurd e hj⟩
    · intro a u hI hp hU
      have e := (got hp ⟨12, .data⟩ (by simp) rfl 22 rfl).s12 (by decide)
      refine step_pure (.slice B mb d) (exec_asC (.tmp 22) rfl e) rfl (hI.put1 (by rw [HS]; decide)) (pR_s12 (by decide))
  · intro a u hI hR
    obtain ⟨A', n', c', hfb⟩ := hI.hb
    obtain ⟨y, hyc, hyo⟩ := (hR 14 _ rfl).t14 rfl
    rw [hfb.cx] at hyc
    injection hyc with hyc
    subst hyc
    have e10 : a.tmps.getD 10 undef = pAt w.heap.size 10 := (hR 0 _ rfl).a10 (by decide)
    have e11 : a.tmps.getD 11 undef = .slice A n c := (hR 1 _ rfl).lx (by decide)
    have e12 : a.tmps.getD 12 undef = pAt w.heap.size 10 := (hR 2 _ rfl).a10 (by decide)
    have e13 : a.tmps.getD 13 undef = .slice A n c := (hR 3 _ rfl).lx (by decide)
    have e14 : a.tmps.getD 14 undef = .int .i64 (n : Int) := (hR 4 _ rfl).n4 rfl
    have e15 : a.tmps.getD 15 undef = .int .i64 (mn : Int) := (hR 5 _ rfl).n5 rfl
    have e16 : a.tmps.getD 16 undef = .slice A mn c := (hR 6 _ rfl).s6 rfl
    obtain ⟨z17, e17⟩ : ∃ v, a.tmps.getD 17 undef = v := ⟨_, rfl⟩
    obtain ⟨z18, e18⟩ : ∃ v, a.tmps.getD 18 undef = v := ⟨_, rfl⟩
    obtain ⟨z19, e19⟩ : ∃ v, a.tmps.getD 19 undef = v := ⟨_, rfl⟩
    obtain ⟨z20, e20⟩ : ∃ v, a.tmps.getD 20 undef = v := ⟨_, rfl⟩
    have e21 : a.tmps.getD 21 undef = .int .i64 (mb : Int) := (hR 11 _ rfl).n11 rfl
    have e22 : a.tmps.getD 22 undef = .slice B mb d := (hR 12 _ rfl).s12 (by decide)
    have e23 : a.tmps.getD 23 undef = pAt w.heap.size 10 := (hR 13 _ rfl).a10 (by decide)
    have e1 : a.tmps.getD 1 undef = .slice B mb d := (hR 15 _ rfl).s12 (by decide)
    have ha := act_eq a A0 [(10, pAt w.heap.size 10), (11, .slice A n c), (12, pAt w.heap.size 10), (13, .slice A n c), (14, .int .i64 (n : Int)), (15, .int .i64 (mn : Int)), (16, .slice A mn c), (17, z17), (18, z18), (19, z19), (20, z20), (21, .int .i64 (mb : Int)), (22, .slice B mb d), (23, pAt w.heap.size 10), (1, .slice B mb d)] hI.size hI.defs (show ([10, 11, 12, 13, 14, 15, 16, 17, 18, 19, 20, 21, 22, 23, 1] : List Nat).Nodup by decide) (fun p hp => by
      rw [HS]
      have h1 : p.1 ∈ [10, 11, 12, 13, 14, 15, 16, 17, 18, 19, 20, 21, 22, 23, 1] := List.mem_map_of_mem (f := Prod.fst) hp
      simp at h1
      omega) (fun p hp => by
      simp only [List.mem_cons, List.not_mem_nil, or_false] at hp
      rcases hp with rfl | rfl | rfl | rfl | rfl | rfl | rfl | rfl | rfl | rfl | rfl | rfl | rfl | rfl | rfl
      · exact e10
      · exact e11
      · exact e12
      · exact e13
      · exact e14
      · exact e15
      · exact e16
      · exact e17
      · exact e18
      · exact e19
      · exact e20
      · exact e21
      · exact e22
      · exact e23
      · exact e1) (fun d hd => hI.fr d hd)
    obtain ⟨A2, c2, hv2, hby2, hl2⟩ := Byt.of_own hyo
    injection hv2 with h2a h2b h2c
    subst h2a h2b h2c
    have HP2 := Lib.hid (show HB u w.heap.size 27 { h with x := h.x.take n' } A' n' c' from hfb)
    have HX2 := Lib.hid hby2
    have HB2 := Lib.hid (hI.bb.pre HM.out.1)
    have HK2 := Lib.hid hI.kept
    have HOK2 := Lib.hid (show Hd.ok { h with x := h.x.take n' } from ⟨HOK.out.i, HOK.out.o, HOK.out.s, HOK.out.g⟩)
    have HO2 := Lib.hid (show ({ h with x := h.x.take n' } : Hd).o = h.o ∧ ({ h with x := h.x.take n' } : Hd).x = h.x.take n' from ⟨rfl, rfl⟩)
    have HNN := Lib.hid HN.out.2
    have HMM := Lib.hid HM.out.2
    generalize ({ h with x := h.x.take n' } : Hd) = H at HP2 HOK2 HO2
    rw [← HO2.out.2] at HX2
    obtain ⟨b2, hb2⟩ : ∃ l, body.take mb = l := ⟨_, rfl⟩
    rw [hb2] at HB2
    clear hI hR hfb e10 e11 e12 e13 e14 e15 e16 e17 e18 e19 e20 e21 e22 e23 e1 hyo hby2 hl2 HSX HSB HSB' HMN HMB HMB' HP HK HX HY HXL HYL HLX HLY hb2 HOK HN HM
    subst ha
    have hA := HA0.out
    clear HA0 a1 a2 HS
    subst hA
    unfold pAt
    simp only [List.foldl_cons, List.foldl_nil, Act.put, List.setIfInBounds_toArray, List.set_cons_succ, List.set_cons_zero]
    go_upto_region 3 with (first
      | (at_builtin; refine wpList_any rfl _ _ 25 rfl u.heap.size 5 j0 (.int .u8 0) Tryd.underlying25 hj hy0 hy1 hy2 rfl (.slice none 0 0) 0 [] rfl (World.ownsRow_nil _ _ _ _) B mb d b2 rfl HB2.out (by have := HMM.out; omega) (Nat.le_refl _) ?_; intro v3 w3 hown hgr _; rw [Nat.zero_add, List.nil_append] at hown; have HO3 := Lib.hid hown; have HG3 := Lib.hid hgr; clear hown hgr)
      | fail)
    have hk3 : Kept Nil u w3 := (Kept.refl Nil u).grown HG3.out (fun k hk => by cases hk)
    obtain ⟨A5, c5, rfl, hy5, hl5⟩ := Byt.of_own HO3.out
    have HY3 := Lib.hid hy5
    have HP3 := Lib.hid (HP2.out.kept hk3 (fun hf => hf))
    have HX3 := Lib.hid (HX2.out.kept hk3 (fun _ _ hf => hf))
    have HB3 := Lib.hid (HB2.out.kept hk3 (fun _ _ hf => hf))
    have HK3 := Lib.hid (HK2.out.then hk3)
    clear hk3 hy5 hl5 HO3 HG3 HP2 HX2 HB2 HK2
    obtain ⟨PB, hPB⟩ : ∃ x, (putHM H b2).1 = x := ⟨_, rfl⟩
    obtain ⟨PE, hPE⟩ : ∃ x, (putHM H b2).2 = x := ⟨_, rfl⟩
    have CP := Lib.hid (fun w hx hy => iput_yes H HOK2.out A' n' c' A5 mb c5 b2 w hx hy (by have := HNN.out; omega) (by have := HMM.out; omega))
    have CQ := Lib.hid (fun w hx hy => gput_yes H HOK2.out A' n' c' B mb d b2 w hx hy (by have := HNN.out; omega) (by have := HMM.out; omega))
    rw [hPB, hPE] at CP CQ
    clear hPB hPE
    go_wp2_with (first
      | (refine wpList_ld rfl _ _ rfl w.heap.size 0 rfl (hcs H A' n' c') HP3.out.all _ Tryd.underlying27 rfl (infI _ _ _ _) ?_; simp only [Act.put, List.setIfInBounds_toArray, List.set_cons_succ, List.set_cons_zero])
      | fail)
    refine (CP.out _ HX3.out HY3.out).mono ?_
    rintro e w4 ⟨v6, rfl, hm6⟩
    dsimp only
    obtain ⟨A6, c6, rfl, hy6, -⟩ := byt_own hm6
    have HY6 := Lib.hid hy6
    have HY4 := Lib.hid (HY3.out.kept hm6.2 (fun _ _ hf => hf))
    have HP4 := Lib.hid (HP3.out.kept hm6.2 (fun hf => hf))
    have HX4 := Lib.hid (HX3.out.kept hm6.2 (fun _ _ hf => hf))
    have HB4 := Lib.hid (HB3.out.kept hm6.2 (fun _ _ hf => hf))
    have HK4 := Lib.hid (HK3.out.then hm6.2)
    clear hy6 hm6 HY3 HP3 HX3 HB3 HK3 CP
    go_wp2_with (first
      | (refine wpList_ld rfl _ _ rfl w.heap.size 0 rfl (hcs H A' n' c') HP4.out.all _ Tryd.underlying27 rfl (infI _ _ _ _) ?_; simp only [Act.put, List.setIfInBounds_toArray, List.set_cons_succ, List.set_cons_zero])
      | fail)
    refine (of_yes H A' n' c' _).mono ?_
    rintro e w5 ⟨rfl, hk5⟩
    dsimp only
    have HY65 := Lib.hid (HY6.out.kept hk5 (fun _ _ hf => hf))
    have HY5 := Lib.hid (HY4.out.kept hk5 (fun _ _ hf => hf))
    have HP5 := Lib.hid (HP4.out.kept hk5 (fun hf => hf))
    have HX5 := Lib.hid (HX4.out.kept hk5 (fun _ _ hf => hf))
    have HB5 := Lib.hid (HB4.out.kept hk5 (fun _ _ hf => hf))
    have HK5 := Lib.hid (HK4.out.then hk5)
    clear hk5 HY6 HY4 HP4 HX4 HB4 HK4
    go_wp2_with (fail)
    refine (CQ.out _ HX5.out HB5.out).mono ?_
    rintro e w6 ⟨v8, rfl, hm8⟩
    dsimp only
    obtain ⟨A8, c8, rfl, hy8, -⟩ := byt_own hm8
    have HY8 := Lib.hid hy8
    have HY6 := Lib.hid (HY65.out.kept hm8.2 (fun _ _ hf => hf))
    have HYO := Lib.hid (HY5.out.kept hm8.2 (fun _ _ hf => hf))
    have HP6 := Lib.hid (HP5.out.kept hm8.2 (fun hf => hf))
    have HB6 := Lib.hid (HB5.out.kept hm8.2 (fun _ _ hf => hf))
    have HK6 := Lib.hid (HK5.out.then hm8.2)
    clear hy8 hm8 HY65 HY5 HP5 HX5 HB5 HK5 CQ
    have tx1 := fun dr os => (HY6.out.kept (kept_grown' w6 dr os) (fun _ _ hf => hf)).text (P := Tryd.prog) Tryd.underlying25 Tryd.underlying5 Tryd.underlying9
    have tx2 := fun dr os => (HY8.out.kept (kept_grown' w6 dr os) (fun _ _ hf => hf)).text (P := Tryd.prog) Tryd.underlying25 Tryd.underlying5 Tryd.underlying9
    have tx3 := fun dr os => (HYO.out.kept (kept_grown' w6 dr os) (fun _ _ hf => hf)).text (P := Tryd.prog) Tryd.underlying25 Tryd.underlying5 Tryd.underlying9
    have tx4 := fun dr os => (HB6.out.kept (kept_grown' w6 dr os) (fun _ _ hf => hf)).text (P := Tryd.prog) Tryd.underlying25 Tryd.underlying5 Tryd.underlying9
    obtain ⟨S, hS⟩ : ∃ x, sumM b2 = x := ⟨_, rfl⟩
    have s1 := fun dr os => isum_yes A5 mb c5 b2 _ (HYO.out.kept (kept_grown' w6 dr os) (fun _ _ hf => hf)) (by have := HMM.out; omega)
    have s2 := fun dr os => gsum_yes B mb d b2 _ (HB6.out.kept (kept_grown' w6 dr os) (fun _ _ hf => hf)) (by have := HMM.out; omega)
    rw [hS] at s1 s2
    have co := fun dr os => cell_regrown HP6.out.co dr os
    have cm := fun dr os => cell_regrown HP6.out.cm dr os
    have f1 := fun w => ifirst_yes H A' n' c' w
    have f2 := fun w => ilater_yes H A' n' c' w
    clear hS
    go_wp2_with (fail)
    by_cases h0 : H.o = 0
    · have g1 : ∀ w, Calls Tryd.prog 14 #[.agg (hcs H A' n' c').toArray] w fun e w' => e = .returned (.bool H.m) ∧ Kept Nil w w' := fun w => by have := f1 w; rw [decide_eq_true h0, Bool.true_and] at this; exact this
      have g2 : ∀ w, Calls Tryd.prog 15 #[.agg (hcs H A' n' c').toArray] w fun e w' => e = .returned (.bool false) ∧ Kept Nil w w' := fun w => by have := f2 w; rw [decide_eq_false (by omega)] at this; exact this
      rw [h0] at co
      clear f1 f2 h0
      refine wp_region_quiet_below (by kernel_rfl) (by kernel_rfl) ?_
      repeat (first
        | (refine wpQuiet_ld rfl _ _ rfl w.heap.size 0 rfl (hcs H A' n' c') (fun w1 hw => row_grown HP6.out.all hw) _ Tryd.underlying27 rfl (infI _ _ _ _) ?_; simp only [Act.put, List.setIfInBounds_toArray, List.set_cons_succ, List.set_cons_zero])
        | (go_big_quiet_step (first | with_reducible exact quietK (s1 _ _) | with_reducible exact quietS (s2 _ _) | with_reducible exact quietK (g1 _) | with_reducible exact quietK (g2 _) | with_reducible exact quietK (tells_yes _ (HGG.out.kept (HK6.out.then (kept_grown' _ _ _)))))))
      refine wpQuiet_nil ?_
      rintro wz ⟨nq, hw⟩
      have HKz := Lib.hid (HK6.out.then (show Kept Nil w6 wz by rw [hw]; exact kept_grown _ _))
      clear hw
      go_wp2
      go_ret
      exact ⟨rfl, HKz.out.below (Nat.le_refl _) (fun _ hf => hf.elim)⟩
    · have h0' : (H.o == 0) = false := by simp [h0]
      have g1 : ∀ w, Calls Tryd.prog 14 #[.agg (hcs H A' n' c').toArray] w fun e w' => e = .returned (.bool false) ∧ Kept Nil w w' := fun w => by have := f1 w; rw [decide_eq_false h0, Bool.false_and] at this; exact this
      by_cases h1 : 0 < H.o
      · have h1' : decide (0 < H.o) = true := decide_eq_true h1
        have g2 : ∀ w, Calls Tryd.prog 15 #[.agg (hcs H A' n' c').toArray] w fun e w' => e = .returned (.bool true) ∧ Kept Nil w w' := fun w => by have := f2 w; rw [decide_eq_true h1] at this; exact this
        clear f1 f2 h0
        refine wp_region_quiet_below (by kernel_rfl) (by kernel_rfl) ?_
        repeat (first
          | (refine wpQuiet_ld rfl _ _ rfl w.heap.size 0 rfl (hcs H A' n' c') (fun w1 hw => row_grown HP6.out.all hw) _ Tryd.underlying27 rfl (infI _ _ _ _) ?_; simp only [Act.put, List.setIfInBounds_toArray, List.set_cons_succ, List.set_cons_zero])
          | (go_big_quiet_step (first | with_reducible exact quietK (s1 _ _) | with_reducible exact quietS (s2 _ _) | with_reducible exact quietK (g1 _) | with_reducible exact quietK (g2 _) | with_reducible exact quietK (tells_yes _ (HGG.out.kept (HK6.out.then (kept_grown' _ _ _)))))))
        refine wpQuiet_nil ?_
        rintro wz ⟨nq, hw⟩
        have HKz := Lib.hid (HK6.out.then (show Kept Nil w6 wz by rw [hw]; exact kept_grown _ _))
        clear hw
        go_wp2
        go_ret
        exact ⟨rfl, HKz.out.below (Nat.le_refl _) (fun _ hf => hf.elim)⟩
      · have h1' : decide (0 < H.o) = false := decide_eq_false h1
        have g2 : ∀ w, Calls Tryd.prog 15 #[.agg (hcs H A' n' c').toArray] w fun e w' => e = .returned (.bool false) ∧ Kept Nil w w' := fun w => by have := f2 w; rw [decide_eq_false h1] at this; exact this
        clear f1 f2 h0
        refine wp_region_quiet_below (by kernel_rfl) (by kernel_rfl) ?_
        repeat (first
          | (refine wpQuiet_ld rfl _ _ rfl w.heap.size 0 rfl (hcs H A' n' c') (fun w1 hw => row_grown HP6.out.all hw) _ Tryd.underlying27 rfl (infI _ _ _ _) ?_; simp only [Act.put, List.setIfInBounds_toArray, List.set_cons_succ, List.set_cons_zero])
          | (go_big_quiet_step (first | with_reducible exact quietK (s1 _ _) | with_reducible exact quietS (s2 _ _) | with_reducible exact quietK (g1 _) | with_reducible exact quietK (g2 _) | with_reducible exact quietK (tells_yes _ (HGG.out.kept (HK6.out.then (kept_grown' _ _ _)))))))
        refine wpQuiet_nil ?_
        rintro wz ⟨nq, hw⟩
        have HKz := Lib.hid (HK6.out.then (show Kept Nil w6 wz by rw [hw]; exact kept_grown _ _))
        clear hw
        go_wp2
        go_ret
        exact ⟨rfl, HKz.out.below (Nat.le_refl _) (fun _ hf => hf.elim)⟩
theorem puts_go (x : HdA) (B : Option Addr) (m d : Nat) (body : List UInt8) (w : World) (hx : x.In w) (hy : Byt w B m d body) (hG : Gl w) :
    Calls Tryd.prog 3 #[hdv x.h x.A x.n x.c, .slice B m d] w fun e w' => e = .returned (.bool true) ∧ Below w.heap.size w w' := puts_yes x.h hx.ok x.A x.n x.c B m d body w hx.x hy hG
end Go.Proofs.YtflhbidmjlfjkaaDoor
