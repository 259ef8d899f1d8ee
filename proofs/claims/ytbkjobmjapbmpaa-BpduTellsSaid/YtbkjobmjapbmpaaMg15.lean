/- Texts that belong together, one behind the other: TagB, TagC. Conditions: those of each. -/
import Derived.Test.YtbkjobmjapbmpaaMg14
import Derived.Test.YtbkjobmjapbmpaaMg10
/- Package tag: slices of tags; contracts of May and of the library's Equal and Clone of tags. -/
namespace Go.Proofs.Ytbkjobmjapbmpaa
open Go.RowKit Go.Sort
set_option linter.unusedVariables false

/-- A slice of tags reads as l. -/
def Tags (w : World) (A : Option Addr) (n c : Nat) (l : List Tg) : Prop := Rws 4 w A n c (l.map tgc) ∧ ∀ t ∈ l, t.ok
section
variable {w w' : World} {A : Option Addr} {n c : Nat} {l : List Tg}
theorem Tags.len (h : Tags w A n c l) : l.length = n := by simpa using h.1.1
theorem Tags.kept {F : Nat → Prop} (h : Tags w A n c l) (k : Kept F w w') (hF : ∀ i, Lies A n i → ¬ F i) : Tags w' A n c l := ⟨h.1.kept k hF, h.2⟩
theorem Tags.nil (w : World) : Tags w none 0 0 [] := ⟨Rws.none 4 w, fun _ h => by simp at h⟩
theorem tgc_len (l : List Tg) : ∀ r ∈ l.map tgc, r.length = 4 := by
  intro r hr
  simp only [List.mem_map] at hr
  obtain ⟨t, _, rfl⟩ := hr
  rfl
theorem tgc_one (l : List Tg) : ∀ u ∈ (l.map tgc).flatten, u.oneCell' = true := by
  intro u hu
  simp only [List.mem_flatten, List.mem_map] at hu
  obtain ⟨r, ⟨t, _, rfl⟩, hr⟩ := hu
  simp only [tgc, List.mem_cons, List.not_mem_nil, or_false] at hr
  rcases hr with rfl | rfl | rfl | rfl <;> rfl
theorem Tags.at (h : Tags w A n c l) {i : Nat} (hi : i < l.length) : ∃ b o, A = some ⟨b, o, none⟩ ∧ w.cell? ⟨b, o + i * 4, none⟩ = some (.int .u16 (l[i].k : Int)) ∧ w.cell? ⟨b, o + i * 4 + 1, none⟩ = some (.int .u8 (l[i].p : Int)) ∧
    w.cell? ⟨b, o + i * 4 + 2, none⟩ = some (.bool l[i].d) ∧ w.cell? ⟨b, o + i * 4 + 3, none⟩ = some (.int .u16 (l[i].n : Int)) := by
  have hl := h.len
  obtain ⟨b, o, e, hc⟩ := h.1.2.2.2.2 (by omega)
  have hc := hc i (by simpa using hi)
  simp only [List.getElem_map] at hc
  exact ⟨b, o, e, hc 0 (by simp [tgc]), hc 1 (by simp [tgc]), hc 2 (by simp [tgc]), hc 3 (by simp [tgc])⟩
theorem Tags.cells {b o : Nat} (h : Tags w (some ⟨b, o, none⟩) n c l) {i : Nat} (hi : i < l.length) : w.cell? ⟨b, o + i * 4, none⟩ = some (.int .u16 (l[i].k : Int)) ∧ w.cell? ⟨b, o + i * 4 + 1, none⟩ = some (.int .u8 (l[i].p : Int)) ∧
    w.cell? ⟨b, o + i * 4 + 2, none⟩ = some (.bool l[i].d) ∧ w.cell? ⟨b, o + i * 4 + 3, none⟩ = some (.int .u16 (l[i].n : Int)) := by
  obtain ⟨b', o', e, h1⟩ := h.at hi
  cases e
  exact h1
theorem Tags.lt (h : Tags w A n c l) : ∀ i, Lies A n i → i < w.heap.size := h.1.lt (by omega)
theorem Tags.of_own {base e : Nat} {v : Value} (h : w.ownsRow base e 4 v n (l.map tgc).flatten) (hok : ∀ t ∈ l, t.ok) : ∃ A c, v = .slice A n c ∧ Tags w A n c l ∧ ∀ i, Lies A n i → base ≤ i := by
  obtain ⟨A, c, e, hr, hi⟩ := Rws.of_own (by omega) (tgc_len l) h
  exact ⟨A, c, e, ⟨hr, hok⟩, hi⟩
end

/-- Whether tags may be a stack, from a place on. -/
def mayFrom (i : Nat) : List Tg → Bool
  | [] => true
  | t :: l => mayT t && standM t.k (i : Int) && mayFrom (i + 1) l
def mayL (l : List Tg) : Bool := mayFrom 0 l
theorem mayFrom_take (l : List Tg) (i k : Nat) (hk : k < l.length) : mayFrom i (l.take (k + 1)) = (mayFrom i (l.take k) && (mayT l[k] && standM l[k].k ((i + k : Nat) : Int))) := by
  induction l generalizing i k with
  | nil => simp at hk
  | cons t l ih =>
    cases k with
    | zero => simp [mayFrom]
    | succ k =>
      simp only [List.take_succ_cons, mayFrom, List.getElem_cons_succ]
      rw [ih (i + 1) k (by simpa using hk), show i + 1 + k = i + (k + 1) by omega]
      simp [Bool.and_assoc]
theorem mayFrom_false (l : List Tg) (i k : Nat) (h : mayFrom i (l.take k) = false) : mayFrom i l = false := by
  induction l generalizing i k with
  | nil => simp [mayFrom] at h
  | cons t l ih =>
    cases k with
    | zero => simp [mayFrom] at h
    | succ k =>
      simp only [List.take_succ_cons, mayFrom, Bool.and_eq_false_iff] at h ⊢
      rcases h with h | h
      · exact .inl h
      · exact .inr (ih _ _ h)
theorem mayL_iff (l : List Tg) : mayL l = true ↔ (l = [] ∨ (∃ t, l = [t] ∧ mayT t = true) ∨ (∃ t u, l = [t, u] ∧ mayT t = true ∧ mayT u = true ∧ u.k = 33024)) := by
  have h0 : ∀ t : Tg, mayT t = true → standM t.k 0 = true := fun t h => by
    rw [mayT_iff] at h; rw [stand0]; simpa using h.1
  have h2 : ∀ (k i : Nat), 2 ≤ i → standM k (i : Int) = false := fun k i hi => by
    unfold standM; rw [if_neg (by omega), if_neg (by omega)]
  match l with
  | [] => simp [mayL, mayFrom]
  | [t] =>
    constructor
    · intro h
      exact .inr (.inl ⟨t, rfl, by simp [mayL, mayFrom] at h; exact h.1⟩)
    · rintro (h | ⟨u, h, hm⟩ | ⟨_, _, h, _⟩)
      · cases h
      · cases h
        simp [mayL, mayFrom, hm, h0 t hm]
      · simp at h
  | [t, u] =>
    constructor
    · intro h
      simp [mayL, mayFrom, stand1] at h
      exact .inr (.inr ⟨t, u, rfl, h.1.1, h.2.1, h.2.2⟩)
    · rintro (h | ⟨_, h, _⟩ | ⟨t', u', h, h1, h2, h3⟩)
      · cases h
      · simp at h
      · cases h
        simp [mayL, mayFrom, stand1, h1, h2, h3, h0 t h1]
  | t :: u :: v :: l =>
    constructor
    · intro h
      have h3 := h2 v.k 2 (by omega)
      simp only [mayL, mayFrom, Nat.zero_add, Nat.reduceAdd, h3, Bool.and_false, Bool.false_and] at h
      cases h
    · rintro (h | ⟨_, h, _⟩ | ⟨_, _, h, _⟩) <;> simp at h

set_option maxHeartbeats 1000000 in
theorem may_yes (A : Option Addr) (n c : Nat) (l : List Tg) (w : World) (h : Tags w A n c l) :
    Calls Try.prog 61 #[.slice A n c] w fun e w' => e = .returned (.bool (mayL l)) ∧ Kept Nil w w' := by
  have hnc := h.1.2.1
  have hcc := h.1.2.2.1
  have hlen := h.len
  go_enter Try.func61, Try.ntmps61
  go_wp2
  go_loopw [7] (fun i wr => ∃ k : Nat, k ≤ n ∧ i = .int .i64 (k : Int) ∧ mayFrom 0 (l.take k) = true ∧ Kept Nil w wr) (fun i _ => n - (intOf i).toNat)
  case atStart => exact ⟨0, Nat.zero_le _, rfl, rfl, Kept.refl _ _⟩
  case round =>
    obtain ⟨k, hk, rfl, hm, hkp⟩ := hrel
    by_cases hlt : k < n
    · have hkl : k < l.length := by omega
      obtain ⟨b, o, rfl, q0, q1, q2, q3⟩ := (h.kept hkp (fun _ _ hf => hf)).at hkl
      have hok := h.2 _ (List.getElem_mem hkl)
      have hmt := mayFrom_take l 0 k hkl
      rw [hm, Nat.zero_add, Bool.true_and] at hmt
      generalize ht : l[k] = t at *
      have HK := Lib.hid hkp
      have HT := Lib.hid ht
      have HM := Lib.hid hmt
      have cm : ∀ u, Calls Try.prog _ _ u _ := tmay_yes t hok
      have cst : ∀ u, Calls Try.prog _ _ u _ := stand_yes t.k (k : Int)
      unfold tgv at cm
      have Cm := Lib.hid cm
      have Cs := Lib.hid cst
      clear hkp ht cm cst hm hmt
      have hB := Blo.new wr 63 #[.int .u16 (t.k : Int), .int .u8 (t.p : Int), .bool t.d, .int .u16 (t.n : Int)]
      have HB := Lib.hid hB
      clear hB
      go_wp2_with fail
      refine (Cm.out _).mono ?_
      rintro e w1 ⟨rfl, hk1⟩
      have c0 := (HB.out.kept hk1 (fun hf => hf)).cell 0
      simp at c0
      have HK1 := Lib.hid (HK.out.trans (((Kept.refl Nil wr).alloc _).then hk1) (fun _ _ hf => hf))
      clear hk1
      cases hmt : mayT t
      · have hf : mayL l = false := mayFrom_false l 0 (k + 1) (by rw [HM.out, hmt]; rfl)
        have HF := Lib.hid hf
        clear hf hmt hlen
        go_wp2
        go_ret
        exact ⟨by rw [HF.out]; rfl, HK1.out⟩
      · cases hst : standM t.k (k : Int)
        · have hf : mayL l = false := mayFrom_false l 0 (k + 1) (by rw [HM.out, hmt, hst]; rfl)
          rw [hst] at Cs
          have HF := Lib.hid hf
          clear hf hmt hlen hst
          go_wp2_with fail
          refine (Cs.out _).mono ?_
          rintro e w2 ⟨rfl, rfl⟩
          go_wp2
          go_ret
          exact ⟨by rw [HF.out]; rfl, HK1.out⟩
        · have hf : mayFrom 0 (l.take (k + 1)) = true := by rw [HM.out, hmt, hst]; rfl
          rw [hst] at Cs
          have HF := Lib.hid hf
          clear hf hmt hlen hst
          go_wp2_with fail
          refine (Cs.out _).mono ?_
          rintro e w2 ⟨rfl, rfl⟩
          go_wp2
          go_roundw
          case rel => exact ⟨k + 1, by omega, by go_num, HF.out, HK1.out⟩
          case measure => simp [intOf]; omega
    · have hfull : l.take k = l := List.take_of_length_le (by omega)
      rw [hfull] at hm
      have HM := Lib.hid hm
      have HK := Lib.hid hkp
      clear hm hkp hfull hlen
      go_wp2
      go_ret
      exact ⟨by show _ = Ending.returned (.bool (mayFrom 0 l)); rw [HM.out]; rfl, HK.out⟩

/-- Cell by cell: what stands at a place of two rows. -/
theorem eq_at (l l' : List Tg) (k : Nat) (hk : k < l.length) (hl : l.length = l'.length) (h : l.take k = l'.take k) : (l.take (k + 1) = l'.take (k + 1) ↔ l[k] = l'[k]) := by
  rw [List.take_succ_eq_append_getElem hk, List.take_succ_eq_append_getElem (l := l') (by omega), h]
  exact ⟨fun e => by have := List.append_cancel_left e; injection this, fun e => by rw [e]⟩

theorem Try.inft : (Try.prog.info? 63).map (fun i => (i.zero, i.size, i.bytes)) = some (some (tgv ⟨0, 0, false, 0⟩), 4, 6) := by kernel_rfl
theorem inft4 : Try.prog.info? 63 = some ((Try.prog.info? 63).getD default) ∧ ((Try.prog.info? 63).getD default).size = 4 := ⟨by kernel_rfl, by kernel_rfl⟩
/-- Tags in new memory. -/
def MadeT (w w' : World) (v : Value) (l : List Tg) : Prop := w'.ownsRow w.heap.size 63 4 v l.length (l.map tgc).flatten ∧ Kept Nil w w'

end Go.Proofs.Ytbkjobmjapbmpaa
/- Package tag: contracts of Bytes, of a tag's Bytes. -/
namespace Go.Proofs.Ytbkjobmjapbmpaa
open Go.RowKit Go.Sort
set_option linter.unusedVariables false

def bytT (t : Tg) : List UInt8 := beAll 2 [t.k, wordM t]
theorem bytT_len (t : Tg) : (bytT t).length = 4 := by simp [bytT, beAll_len]
def bytTs (l : List Tg) : List UInt8 := (l.map bytT).flatten
theorem bytTs_len (l : List Tg) : (bytTs l).length = l.length * 4 := by
  induction l with
  | nil => rfl
  | cons t l ih =>
    have : bytTs (t :: l) = bytT t ++ bytTs l := rfl
    rw [this, List.length_append, bytT_len, ih, List.length_cons, Nat.add_mul]
    omega
/-- Tags' bytes, one behind the other; none, if one is none. -/
def bytesM (l : List Tg) : List UInt8 := if l.all mayT then bytTs l else []
theorem bytTs_take (l : List Tg) (k : Nat) (hk : k < l.length) : bytTs (l.take (k + 1)) = bytTs (l.take k) ++ bytT l[k] := by
  rw [List.take_succ_eq_append_getElem hk]
  unfold bytTs
  rw [List.map_append, List.flatten_append]
  simp
theorem all_take (l : List Tg) (k : Nat) (hk : k < l.length) : (l.take (k + 1)).all mayT = ((l.take k).all mayT && mayT l[k]) := by
  rw [List.take_succ_eq_append_getElem hk, List.all_append]
  simp only [List.all_cons, List.all_nil, Bool.and_true]
theorem all_false (l : List Tg) (k : Nat) (h : (l.take k).all mayT = false) : l.all mayT = false := by
  rw [← List.take_append_drop k l, List.all_append, h]; rfl

set_option maxHeartbeats 1000000 in
theorem bytes_yes (A : Option Addr) (n c : Nat) (l : List Tg) (w : World) (h : Tags w A n c l) (hn : n ≤ 1099511627) :
    Calls Try.prog 95 #[.slice A n c] w fun e w' => ∃ v, e = .returned v ∧ Made w w' v (bytesM l) := by
  have hnc := h.1.2.1
  have hcc := h.1.2.2.1
  have hlen := h.len
  go_enter Try.func95, Try.ntmps95
  go_wp2_with fail
  refine (Lay_yes _).mono ?_
  rintro e w1 ⟨rfl, hp, hk⟩
  have HP := Lib.hid hp
  have HK := Lib.hid hk
  clear hp hk
  go_wp2
  go_loopw [9] (fun i wr => ∃ (k : Nat) (v' : Value), k ≤ n ∧ i = .int .i64 (k : Int) ∧ Padd wr w.heap.size w.heap.size v' (bytTs (l.take k)) ∧ (l.take k).all mayT = true ∧ Kept Nil w wr) (fun i _ => n - (intOf i).toNat)
  case atStart => exact ⟨0, _, Nat.zero_le _, rfl, HP.out, rfl, HK.out⟩
  case round =>
    obtain ⟨k, v', hk, rfl, hp, hm, hkp⟩ := hrel
    by_cases hlt : k < n
    · have hkl : k < l.length := by omega
      obtain ⟨b, o, rfl, q0, q1, q2, q3⟩ := (h.kept hkp (fun _ _ hf => hf)).at hkl
      have hok := h.2 _ (List.getElem_mem hkl)
      have hat := all_take l k hkl
      have hbt := bytTs_take l k hkl
      have hbl : (bytTs (l.take k)).length = k * 4 := by rw [bytTs_len]; simp; omega
      rw [hm, Bool.true_and] at hat
      generalize ht : l[k] = t at *
      have cm : ∀ u, Calls Try.prog _ _ u _ := tmay_yes t hok
      have cw : ∀ u, Calls Try.prog _ _ u _ := word_yes t hok
      unfold tgv at cm cw
      have Cm := Lib.hid cm
      have Cw := Lib.hid cw
      have HK2 := Lib.hid hkp
      have HP2 := Lib.hid hp
      have HA := Lib.hid hat
      have HT := Lib.hid hbt
      have HL := Lib.hid hbl
      clear hp hkp hat hbt ht hbl cm cw hm hlen
      have hB := Blo.new wr 63 #[.int .u16 (t.k : Int), .int .u8 (t.p : Int), .bool t.d, .int .u16 (t.n : Int)]
      have HB := Lib.hid hB
      clear hB
      go_wp2_with fail
      refine (Cm.out _).mono ?_
      rintro e w2 ⟨rfl, hk2⟩
      have hb2 := HB.out.kept hk2 (fun hf => hf)
      have hk3 := ((Kept.refl Nil wr).alloc (.cells #[.int .u16 (t.k : Int), .int .u8 (t.p : Int), .bool t.d, .int .u16 (t.n : Int)] 63)).then hk2
      have HK3 := Lib.hid hk3
      have HB2 := Lib.hid hb2
      clear hk2 hk3
      cases hmt : mayT t
      · have hf : bytesM l = [] := by
          unfold bytesM
          rw [all_false l (k + 1) (by rw [HA.out, hmt])]
          rfl
        have HF := Lib.hid hf
        clear hf hmt hb2
        go_wp2
        go_ret
        refine ⟨_, rfl, ?_, HK2.out.trans HK3.out (fun _ _ hf => hf)⟩
        rw [HF.out]
        exact World.ownsRow_nil _ _ _ _
      · rw [hmt] at HA
        clear hmt
        have c0 := hb2.cell 0
        have c1 := hb2.cell 1
        have c2 := hb2.cell 2
        have c3 := hb2.cell 3
        simp at c0 c1 c2 c3
        clear hb2
        go_wp2
        have hlt := wordM_lt t hok
        have hkl' := HL.out
        have hsz : w.heap.size ≤ w2.heap.size := Nat.le_trans HK2.out.size HK3.out.size
        have hp2 := HP2.out.kept HK3.out (fun _ _ hf => hf)
        let ls : Nat → List UInt8 := fun s => if s = 0 then bytTs (l.take k) else bytTs (l.take k) ++ bytT t
        have two : ∀ (D : Nat → Prop) (u : World), Kept (foot w.heap.size v') w2 u → padI w.heap.size w.heap.size w2.heap.size v' ls D [] u → ∀ gA cs, D gA → Blo u gA 24 cs → cs = ([t.k, wordM t].map fun x : Nat => Value.int .u16 (x : Int)).toArray → Calls Try.prog _ _ u _ := fun D u h1 h2 gA cs h3 h4 h5 =>
          padI_two (n := 2) [t.k, wordM t] h1 h2 h3 h4 h5 rfl rfl (by show (bytTs (l.take k)).length + _ ≤ _; rw [hkl']; simp; omega) (by intro x hx; have := hok.k; simp at hx; rcases hx with rfl | rfl <;> omega)
        have hst := padI_start (w := w2) ls hp2 rfl hsz
        have Two := Lib.hid two
        have HSt := Lib.hid hst
        have HKP := Lib.hid (padI_keeps w.heap.size w.heap.size w2.heap.size v' ls)
        have HSZ := Lib.hid hsz
        clear two hst hlt hkl' hsz hp2 c0 c1 c2 c3
        refine wp_region_acts (foot w.heap.size v') [6] (fun i vl => (vl.toArray, 24)) (fun i => .int .u16 (wordM t : Int)) (padI w.heap.size w.heap.size w2.heap.size v' ls) (fun i v => v = .pointer (some ⟨w.heap.size, 0, none⟩)) 7 (by kernel_rfl) (by kernel_rfl) HKP.out HSt.out ?_
        simp only [List.take_succ_cons, List.take_zero, List.drop_succ_cons, List.drop_zero]
        refine tLex_quiets 5 rfl (by kernel_rfl) ?_
        simp only [List.take_succ_cons, List.take_zero, List.drop_succ_cons, List.drop_zero]
        apply Exists.intro
        refine ⟨?hq, ?hv, ?ht⟩
        case hq =>
          intro V hV
          have hbv := HB2.out.kept hV (fun hf => absurd (HP2.out.foot_lt _ hf) (Nat.lt_irrefl _))
          have c0 := hbv.gcell 0
          have c1 := hbv.gcell 1
          have c2 := hbv.gcell 2
          have c3 := hbv.gcell 3
          simp at c0 c1 c2 c3
          clear hV hbv
          repeat (go_big_quiet_step (with_reducible exact quietK (Cw.out _)))
          exact wpQuiet_nil rfl
        case hv => exact ⟨trivial, trivial, trivial, trivial, rfl, trivial⟩
        case ht =>
          refine tLex_make (#[.int .u16 (t.k : Int), .int .u16 (wordM t : Int)], 24) rfl rfl rfl rfl (fun u => ?hm) ?_
          case hm => simp [execOp, mkVal, Instr.buildSlice, go_sem]
          intro g hg hL
          refine tLex_act 69 #[.pointer (some ⟨w.heap.size, 0, none⟩), .slice (some ⟨g, 0, none⟩) 2 2] (fun u => ?he) rfl rfl _ rfl ?hc ?_
          case he => simp [execOp, go_sem, mkVal]
          case hc =>
            intro D u hu hI hd
            obtain ⟨d1, d2⟩ := hd g _ ⟨_, List.mem_cons_of_mem _ (List.mem_cons_of_mem _ (List.mem_cons_self ..)), rfl⟩ (mput_same _ _ _)
            exact Two.out D u hu hI g _ d1 d2 rfl
          rintro v rfl
          intro w3 hs
          obtain ⟨v3, hp3, _, _, _, _⟩ := hs.know
          have hk3 := hs.kept
          have HP3 := Lib.hid hp3
          have HK4 := Lib.hid hk3
          clear hp3 hk3 hs
          go_wp2
          go_roundw
          case rel =>
            refine ⟨k + 1, v3, by omega, by go_num, ?_, HA.out, ?_⟩
            · rw [HT.out]; exact HP3.out
            · exact (HK2.out.trans HK3.out (fun _ _ hf => hf)).fresh HK4.out HP2.out.foot_ge
          case measure => simp [intOf]; omega
    · have e1 : l.take k = l := List.take_of_length_le (by omega)
      rw [e1] at hp hm
      have he : bytesM l = bytTs l := by unfold bytesM; rw [hm]; rfl
      have HE := Lib.hid he
      have hbl : (bytTs l).length ≤ 140737488355328 := by rw [bytTs_len]; omega
      have HP2 := Lib.hid hp
      have HK2 := Lib.hid hkp
      have HL := Lib.hid hbl
      clear hp hm hkp e1 hbl hlen he
      go_wp2_with fail
      refine (Done_yes _ _ _ _ _ HP2.out HL.out).mono ?_
      rintro e w2 ⟨v2, rfl, hmd⟩
      have HM := Lib.hid hmd
      clear hmd
      go_wp2
      go_ret
      refine ⟨_, rfl, ?_⟩
      rw [HE.out]
      exact ⟨own_mono HM.out.1 HK2.out.size, HK2.out.then HM.out.2⟩

end Go.Proofs.Ytbkjobmjapbmpaa
