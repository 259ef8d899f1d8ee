/- Texts that belong together, one behind the other: TagC, TagD. Conditions: those of each. -/
import Derived.Test.YthjfeanmgaidcaaMg20
import Derived.Test.YthjfeanmgaidcaaRegP
import Derived.Test.YthjfeanmgaidcaaMg11
/- Package tag: contracts of Bytes, of a tag's Bytes. -/
namespace Go.Proofs.Ythjfeanmgaidcaa
open Go.RowKit Go.Sort
set_option linter.unusedVariables false

def bytT (t : Tg) : List UInt8 := beAll 2 [t.k, wordM t]
theorem bytT_len (t : Tg) : (bytT t).length = 4 := by simp [bytT, beAll_len]
def bytTs (l : List Tg) : List UInt8 := (l.map bytT).flatten
theorem bytTs_len (l : List Tg) : (bytTs l).length = l.length * 4 := by
  induction l with
  | nil => rfl
  | cons t l ih =>
    have : bytTs (t :: l) = bytT t ++ bytTs l := rfl
    rw [this, List.length_append, bytT_len, ih, List.length_cons, Nat.add_mul]
    omega
/-- Tags' bytes, one behind the other; none, if one is none. -/
def bytesM (l : List Tg) : List UInt8 := if l.all mayT then bytTs l else []
theorem bytTs_take (l : List Tg) (k : Nat) (hk : k < l.length) : bytTs (l.take (k + 1)) = bytTs (l.take k) ++ bytT l[k] := by
  rw [List.take_succ_eq_append_getElem hk]
  unfold bytTs
  rw [List.map_append, List.flatten_append]
  simp
theorem all_take (l : List Tg) (k : Nat) (hk : k < l.length) : (l.take (k + 1)).all mayT = ((l.take k).all mayT && mayT l[k]) := by
  rw [List.take_succ_eq_append_getElem hk, List.all_append]
  simp only [List.all_cons, List.all_nil, Bool.and_true]
theorem all_false (l : List Tg) (k : Nat) (h : (l.take k).all mayT = false) : l.all mayT = false := by
  rw [← List.take_append_drop k l, List.all_append, h]; rfl

set_option maxHeartbeats 1000000 in
theorem bytes_yes (A : Option Addr) (n c : Nat) (l : List Tg) (w : World) (h : Tags w A n c l) (hn : n ≤ 1099511627) :
    Calls Try.prog 74 #[.slice A n c] w fun e w' => ∃ v, e = .returned v ∧ Made w w' v (bytesM l) := by
  have hnc := h.1.2.1
  have hcc := h.1.2.2.1
  have hlen := h.len
  go_enter Try.func74, Try.ntmps74
  go_wp2_with fail
  refine (Lay_yes _).mono ?_
  rintro e w1 ⟨rfl, hp, hk⟩
  have HP := Lib.hid hp
  have HK := Lib.hid hk
  clear hp hk
  go_wp2
  go_loopw [9] (fun i wr => ∃ (k : Nat) (v' : Value), k ≤ n ∧ i = .int .i64 (k : Int) ∧ Padd wr w.heap.size w.heap.size v' (bytTs (l.take k)) ∧ (l.take k).all mayT = true ∧ Kept Nil w wr) (fun i _ => n - (intOf i).toNat)
  case atStart => exact ⟨0, _, Nat.zero_le _, rfl, HP.out, rfl, HK.out⟩
  case round =>
    obtain ⟨k, v', hk, rfl, hp, hm, hkp⟩ := hrel
    by_cases hlt : k < n
    · have hkl : k < l.length := by omega
      obtain ⟨b, o, rfl, q0, q1, q2, q3⟩ := (h.kept hkp (fun _ _ hf => hf)).at hkl
      have hok := h.2 _ (List.getElem_mem hkl)
      have hat := all_take l k hkl
      have hbt := bytTs_take l k hkl
      have hbl : (bytTs (l.take k)).length = k * 4 := by rw [bytTs_len]; simp; omega
      rw [hm, Bool.true_and] at hat
      generalize ht : l[k] = t at *
      have cm : ∀ u, Calls Try.prog _ _ u _ := tmay_yes t hok
      have cw : ∀ u, Calls Try.prog _ _ u _ := word_yes t hok
      unfold tgv at cm cw
      have Cm := Lib.hid cm
      have Cw := Lib.hid cw
      have HK2 := Lib.hid hkp
      have HP2 := Lib.hid hp
      have HA := Lib.hid hat
      have HT := Lib.hid hbt
      have HL := Lib.hid hbl
      clear hp hkp hat hbt ht hbl cm cw hm hlen
      have hB := Blo.new wr 67 #[.int .u16 (t.k : Int), .int .u8 (t.p : Int), .bool t.d, .int .u16 (t.n : Int)]
      have HB := Lib.hid hB
      clear hB
      go_wp2_with fail
      refine (Cm.out _).mono ?_
      rintro e w2 ⟨rfl, hk2⟩
      have hb2 := HB.out.kept hk2 (fun hf => hf)
      have hk3 := ((Kept.refl Nil wr).alloc (.cells #[.int .u16 (t.k : Int), .int .u8 (t.p : Int), .bool t.d, .int .u16 (t.n : Int)] 67)).then hk2
      have HK3 := Lib.hid hk3
      have HB2 := Lib.hid hb2
      clear hk2 hk3
      cases hmt : mayT t
      · have hf : bytesM l = [] := by
          unfold bytesM
          rw [all_false l (k + 1) (by rw [HA.out, hmt])]
          rfl
        have HF := Lib.hid hf
        clear hf hmt hb2
        go_wp2
        go_ret
        refine ⟨_, rfl, ?_, HK2.out.trans HK3.out (fun _ _ hf => hf)⟩
        rw [HF.out]
        exact World.ownsRow_nil _ _ _ _
      · rw [hmt] at HA
        clear hmt
        have c0 := hb2.cell 0
        have c1 := hb2.cell 1
        have c2 := hb2.cell 2
        have c3 := hb2.cell 3
        simp at c0 c1 c2 c3
        clear hb2
        go_wp2
        have hlt := wordM_lt t hok
        have hkl' := HL.out
        have hsz : w.heap.size ≤ w2.heap.size := Nat.le_trans HK2.out.size HK3.out.size
        have hp2 := HP2.out.kept HK3.out (fun _ _ hf => hf)
        let ls : Nat → List UInt8 := fun s => if s = 0 then bytTs (l.take k) else bytTs (l.take k) ++ bytT t
        have two : ∀ (D : Nat → Prop) (u : World), Kept (foot w.heap.size v') w2 u → padI w.heap.size w.heap.size w2.heap.size v' ls D [] u → ∀ gA cs, D gA → Blo u gA 23 cs → cs = ([t.k, wordM t].map fun x : Nat => Value.int .u16 (x : Int)).toArray → Calls Try.prog _ _ u _ := fun D u h1 h2 gA cs h3 h4 h5 =>
          padI_two (n := 2) [t.k, wordM t] h1 h2 h3 h4 h5 rfl rfl (by show (bytTs (l.take k)).length + _ ≤ _; rw [hkl']; simp; omega) (by intro x hx; have := hok.k; simp at hx; rcases hx with rfl | rfl <;> omega)
        have hst := padI_start (w := w2) ls hp2 rfl hsz
        have Two := Lib.hid two
        have HSt := Lib.hid hst
        have HKP := Lib.hid (padI_keeps w.heap.size w.heap.size w2.heap.size v' ls)
        have HSZ := Lib.hid hsz
        clear two hst hlt hkl' hsz hp2 c0 c1 c2 c3
        refine wp_region_acts (foot w.heap.size v') [6] (fun i vl => (vl.toArray, 23)) (fun i => .int .u16 (wordM t : Int)) (padI w.heap.size w.heap.size w2.heap.size v' ls) (fun i v => v = .pointer (some ⟨w.heap.size, 0, none⟩)) 7 (by kernel_rfl) (by kernel_rfl) HKP.out HSt.out ?_
        simp only [List.take_succ_cons, List.take_zero, List.drop_succ_cons, List.drop_zero]
        refine tLex_quiets 5 rfl (by kernel_rfl) ?_
        simp only [List.take_succ_cons, List.take_zero, List.drop_succ_cons, List.drop_zero]
        apply Exists.intro
        refine ⟨?hq, ?hv, ?ht⟩
        case hq =>
          intro V hV
          have hbv := HB2.out.kept hV (fun hf => absurd (HP2.out.foot_lt _ hf) (Nat.lt_irrefl _))
          have c0 := hbv.gcell 0
          have c1 := hbv.gcell 1
          have c2 := hbv.gcell 2
          have c3 := hbv.gcell 3
          simp at c0 c1 c2 c3
          clear hV hbv
          repeat (go_big_quiet_step (with_reducible exact quietK (Cw.out _)))
          exact wpQuiet_nil rfl
        case hv => exact ⟨trivial, trivial, trivial, trivial, rfl, trivial⟩
        case ht =>
          refine tLex_make (#[.int .u16 (t.k : Int), .int .u16 (wordM t : Int)], 23) rfl rfl rfl rfl (fun u => ?hm) ?_
          case hm => simp [execOp, mkVal, Instr.buildSlice, go_sem]
          intro g hg hL
          refine tLex_act 26 #[.pointer (some ⟨w.heap.size, 0, none⟩), .slice (some ⟨g, 0, none⟩) 2 2] (fun u => ?he) rfl rfl _ rfl ?hc ?_
          case he => simp [execOp, go_sem, mkVal]
          case hc =>
            intro D u hu hI hd
            obtain ⟨d1, d2⟩ := hd g _ ⟨_, List.mem_cons_of_mem _ (List.mem_cons_of_mem _ (List.mem_cons_self ..)), rfl⟩ (mput_same _ _ _)
            exact Two.out D u hu hI g _ d1 d2 rfl
          rintro v rfl
          intro w3 hs
          obtain ⟨v3, hp3, _, _, _, _⟩ := hs.know
          have hk3 := hs.kept
          have HP3 := Lib.hid hp3
          have HK4 := Lib.hid hk3
          clear hp3 hk3 hs
          go_wp2
          go_roundw
          case rel =>
            refine ⟨k + 1, v3, by omega, by go_num, ?_, HA.out, ?_⟩
            · rw [HT.out]; exact HP3.out
            · exact (HK2.out.trans HK3.out (fun _ _ hf => hf)).fresh HK4.out HP2.out.foot_ge
          case measure => simp [intOf]; omega
    · have e1 : l.take k = l := List.take_of_length_le (by omega)
      rw [e1] at hp hm
      have he : bytesM l = bytTs l := by unfold bytesM; rw [hm]; rfl
      have HE := Lib.hid he
      have hbl : (bytTs l).length ≤ 140737488355328 := by rw [bytTs_len]; omega
      have HP2 := Lib.hid hp
      have HK2 := Lib.hid hkp
      have HL := Lib.hid hbl
      clear hp hm hkp e1 hbl hlen he
      go_wp2_with fail
      refine (Done_yes _ _ _ _ _ HP2.out HL.out).mono ?_
      rintro e w2 ⟨v2, rfl, hmd⟩
      have HM := Lib.hid hmd
      clear hmd
      go_wp2
      go_ret
      refine ⟨_, rfl, ?_⟩
      rw [HE.out]
      exact ⟨own_mono HM.out.1 HK2.out.size, HK2.out.then HM.out.2⟩

end Go.Proofs.Ythjfeanmgaidcaa
/- Package tag: contracts of nextKind and Read. -/
namespace Go.Proofs.Ythjfeanmgaidcaa
open Go.RowKit Go.Sort
set_option linter.unusedVariables false

def nextM (l : List UInt8) : Nat := if 2 ≤ l.length then numM (l.take 2) else 0
theorem numM_take2 (l : List UInt8) : numM (l.take 2) < 65536 := by
  have := numM_lt (l.take 2)
  have h2 : (l.take 2).length ≤ 2 := by simp; omega
  exact Nat.lt_of_lt_of_le this (Nat.pow_le_pow_right (by decide) h2)
theorem nextM_lt (l : List UInt8) : nextM l < 65536 := by
  unfold nextM
  split
  · exact numM_take2 l
  · decide
theorem next_yes (A : Option Addr) (n c : Nat) (l : List UInt8) (w : World) (h : Byt w A n c l) : Calls Try.prog 84 #[.slice A n c] w fun e w' => e = .returned (.int .u16 (nextM l : Int)) ∧ Kept Nil w w' := by
  have hnc := h.2.1
  have hcc := h.2.2.1
  have hlen := h.1
  by_cases hlt : (2 : Int) < n
  · have hsl := run_cut_hi (P := Try.prog) Try.underlying31 inf5.1 A n c 2 2 rfl (by omega)
    have hpre := h.pre (hi := 2) (by omega)
    have hval : numM (takeM ⟨l.take 2, 0, 0⟩ 2).1 = nextM l := by
          unfold nextM
          rw [if_pos (by omega), show (2 : Int) = ((2 : Nat) : Int) from rfl, takeM_ok _ 0 2 (by simp; omega)]
          simp [List.take_take]
    have HV := Lib.hid hval
    have HP := Lib.hid hpre
    clear hval hpre hlen h
    go_enter Try.func84, Try.ntmps84
    go_wp2_with fail
    refine (new_yes A 2 c _ _ HP.out (by omega)).mono ?_
    rintro e w1 ⟨g, A', c', rfl, hc, hk, hg, hl⟩
    have HC := Lib.hid hc
    have HK := Lib.hid hk
    have HG := Lib.hid hg
    clear hc hk hg hl
    go_wp2_with fail
    refine (Two_yes _ _ _ _ _ _ HC.out).mono ?_
    rintro e w2 ⟨rfl, hc, hk⟩
    have HK2 := Lib.hid hk
    clear hc hk
    go_wp2
    go_ret
    exact ⟨ret_num (by rw [HV.out]), HK.out.fresh HK2.out (fun i hi => by cases hi; exact HG.out)⟩
  · have hsl := run_cut_hi (P := Try.prog) Try.underlying31 inf5.1 A n c n (n : Int) rfl (by omega)
    have hpre := h.pre (hi := n) (by omega)
    have hval : numM (takeM ⟨l.take n, 0, 0⟩ 2).1 = nextM l := by
          rw [List.take_of_length_le (by omega)]
          unfold nextM
          by_cases h2 : 2 ≤ l.length
          · rw [if_pos h2, show (2 : Int) = ((2 : Nat) : Int) from rfl, takeM_ok _ 0 2 (by omega)]
            simp
          · rw [if_neg h2, show (2 : Int) = ((2 : Nat) : Int) from rfl, takeM_short _ 0 2 (by simp) (by omega)]
            rfl
    have HV := Lib.hid hval
    have HP := Lib.hid hpre
    clear hval hpre hlen h
    go_enter Try.func84, Try.ntmps84
    go_wp2_with fail
    refine (new_yes A n c _ _ HP.out (by omega)).mono ?_
    rintro e w1 ⟨g, A', c', rfl, hc, hk, hg, hl⟩
    have HC := Lib.hid hc
    have HK := Lib.hid hk
    have HG := Lib.hid hg
    clear hc hk hg hl
    go_wp2_with fail
    refine (Two_yes _ _ _ _ _ _ HC.out).mono ?_
    rintro e w2 ⟨rfl, hc, hk⟩
    have HK2 := Lib.hid hk
    clear hc hk
    go_wp2
    go_ret
    exact ⟨ret_num (by rw [HV.out]), HK.out.fresh HK2.out (fun i hi => by cases hi; exact HG.out)⟩

/-- Reading: at most so many tags more. -/
def readGo : Nat → List Tg → List UInt8 → List Tg × List UInt8 × Int
  | 0, ts, b => (ts, b, 0)
  | f + 1, ts, b => if standM (nextM b) (ts.length : Int) then (if b.length < 4 then ([], [], 4) else readGo f (ts ++ [tagOfM (numM (b.take 2)) (numM ((b.drop 2).take 2))]) (b.drop 4)) else (ts, b, 0)
def readM (b : List UInt8) : List Tg × List UInt8 × Int := readGo 2 [] b
/-- What holds of a cutter and the tags read with it. -/
def RdInv (b : List UInt8) (ts : List Tg) (s : Cst) : Prop :=
  s.l = b ∧ s.k ≤ b.length ∧ ts.length ≤ 2 ∧ (∀ t ∈ ts, t.ok) ∧ ((s.er = 0 ∧ readM b = readGo (2 - ts.length) ts (b.drop s.k)) ∨ (s.er = 4 ∧ readM b = ([], [], 4) ∧ b.length < s.k + 2))
theorem tagOfM_ok (k x : Nat) (hk : k < 65536) (hx : x < 65536) : (tagOfM k x).ok := by
  refine ⟨hk, ?_, ?_⟩
  · show x / 8192 < 256; omega
  · show x &&& 4095 < 65536; rw [and_4095]; omega
theorem stand_two (k : Nat) : standM k 2 = false := by unfold standM; rw [if_neg (by omega), if_neg (by omega)]
theorem stand_zero (i : Int) : standM 0 i = false := by
  unfold standM
  split
  · rfl
  · split <;> rfl
theorem next_short (l : List UInt8) (h : l.length < 2) : nextM l = 0 := by unfold nextM; rw [if_neg (by omega)]
theorem rd_stop {b : List UInt8} {ts : List Tg} {s : Cst} (h : RdInv b ts s) (hs : standM (nextM (b.drop s.k)) (ts.length : Int) = false) : (s.er = 0 ∧ readM b = (ts, b.drop s.k, 0)) ∨ (s.er = 4 ∧ readM b = ([], [], 4)) := by
  obtain ⟨_, _, hl, _, ⟨h1, h2⟩ | ⟨h1, h2, _⟩⟩ := h
  · refine .inl ⟨h1, ?_⟩
    rw [h2]
    rcases Nat.lt_or_ge ts.length 2 with h3 | h3
    · obtain ⟨f, hf⟩ : ∃ f, 2 - ts.length = f + 1 := ⟨1 - ts.length, by omega⟩
      rw [hf, readGo, hs]
      rfl
    · rw [show 2 - ts.length = 0 by omega]
      rfl
  · exact .inr ⟨h1, h2⟩
theorem rd_go {b : List UInt8} {ts : List Tg} {s : Cst} (h : RdInv b ts s) (hs : standM (nextM (b.drop s.k)) (ts.length : Int) = true) : s.er = 0 ∧ ts.length < 2 ∧ s.k + 2 ≤ b.length ∧ (takeM s 2).1 = (b.drop s.k).take 2 ∧
    RdInv b (ts ++ [tagOfM (numM (takeM s 2).1) (numM (takeM (takeM s 2).2 2).1)]) (takeM (takeM s 2).2 2).2 := by
  obtain ⟨hb, hk, hl, hok, hor⟩ := h
  obtain ⟨l, k, er⟩ := s
  simp only at hb hk hs hor
  subst hb
  have h2 : 2 ≤ (l.drop k).length := by
    rcases Nat.lt_or_ge (l.drop k).length 2 with h2 | h2
    · rw [next_short _ h2, stand_zero] at hs; cases hs
    · exact h2
  have h2' : k + 2 ≤ l.length := by simp at h2; omega
  have hlt : ts.length < 2 := by
    rcases Nat.lt_or_ge ts.length 2 with h3 | h3
    · exact h3
    · rw [show (ts.length : Int) = 2 by omega, stand_two] at hs; cases hs
  rcases hor with ⟨rfl, hr⟩ | ⟨_, _, h3⟩
  · have e1 : takeM ⟨l, k, 0⟩ 2 = ((l.drop k).take 2, ⟨l, k + 2, 0⟩) := takeM_ok l k 2 h2'
    refine ⟨rfl, hlt, h2', by rw [e1], ?_⟩
    rw [e1]
    simp only
    obtain ⟨f, hf⟩ : ∃ f, 2 - ts.length = f + 1 := ⟨1 - ts.length, by omega⟩
    rw [hf, readGo, hs, if_pos rfl] at hr
    have hokn : ∀ x, x < 65536 → ∀ t ∈ ts ++ [tagOfM (numM ((l.drop k).take 2)) x], t.ok := fun x hx t ht => by
      rcases List.mem_append.1 ht with ht | ht
      · exact hok t ht
      · simp at ht
        subst ht
        exact tagOfM_ok _ _ (numM_take2 _) hx
    by_cases h4 : k + 4 ≤ l.length
    · have e2 : takeM ⟨l, k + 2, 0⟩ 2 = ((l.drop (k + 2)).take 2, ⟨l, k + 2 + 2, 0⟩) := takeM_ok l (k + 2) 2 (by omega)
      rw [e2]
      refine ⟨rfl, by simp only; omega, by simp; omega, hokn _ (numM_take2 _), .inl ⟨rfl, ?_⟩⟩
      rw [hr, if_neg (by simp; omega)]
      simp only [List.length_append, List.length_cons, List.length_nil]
      rw [show 2 - (ts.length + (0 + 1)) = f by omega, List.drop_drop, List.drop_drop]
    · have e2 : takeM ⟨l, k + 2, 0⟩ 2 = ([], ⟨l, k + 2, 4⟩) := takeM_short l (k + 2) 2 h2' (by omega)
      rw [e2]
      refine ⟨rfl, h2', by simp; omega, hokn _ (by show numM [] < 65536; decide), .inr ⟨rfl, ?_, by simp only; omega⟩⟩
      rw [hr, if_pos (by simp; omega)]
  · omega

def slen : Value → Nat
  | .slice _ n _ => n
  | _ => 0
/-- Two slices in new memory, tags and bytes. -/
structure MadeR (w w' : World) (v1 v2 : Value) (ts : List Tg) (r : List UInt8) : Prop where
  tags : w'.ownsRow w.heap.size 67 4 v1 ts.length (ts.map tgc).flatten
  rest : w'.ownsRow w.heap.size 5 1 v2 r.length (bys r)
  ok : ∀ t ∈ ts, t.ok
  kept : Kept Nil w w'

set_option maxHeartbeats 2000000 in
theorem read_yes (A : Option Addr) (n c : Nat) (l : List UInt8) (w : World) (h : Byt w A n c l) (hn : n ≤ 140737488355328) :
    Calls Try.prog 76 #[.slice A n c] w fun e w' => ∃ v1 v2, e = .returned (.tuple #[v1, v2, .int .i64 (readM l).2.2]) ∧ MadeR w w' v1 v2 (readM l).1 (readM l).2.1 := by
  have hnc := h.2.1
  have hcc := h.2.2.1
  obtain ⟨i0, hi, hz0, hz1, hz2⟩ := info_parts Try.inft
  have HLn := Lib.hid h.1
  have HB := Lib.hid h
  clear h
  go_enter Try.func76, Try.ntmps76
  go_wp2_with fail
  refine (new_yes A n c _ _ HB.out (by omega)).mono ?_
  rintro e w1 ⟨g, A', c', rfl, hc, hk, hg, hl⟩
  have hgl := hc.blo.lt
  have hll := hc.byt.lt
  have HK := Lib.hid hk
  have HC := Lib.hid hc
  have HG := Lib.hid hg
  have HGL := Lib.hid hgl
  have HLL := Lib.hid hll
  clear hk hc hg hl hgl hll
  go_wp2
  go_loopw [2] (fun v wr => ∃ (ts : List Tg) (s : Cst), wr.ownsRow w1.heap.size 67 4 v ts.length (ts.map tgc).flatten ∧ Cutr wr g A' n c' s ∧ RdInv l ts s ∧ Kept (One g) w1 wr) (fun v _ => 3 - slen v)
  case atStart => 
    refine ⟨[], ⟨l, 0, 0⟩, World.ownsRow_nil _ _ _ _, HC.out, ⟨rfl, Nat.zero_le _, by simp, by simp, .inl ⟨rfl, rfl⟩⟩, Kept.refl _ _⟩
  case round =>
    obtain ⟨ts, s, ho, hc, hr, hk⟩ := hrel
    obtain ⟨At, ct, rfl⟩ := own_form ho
    have hkn : s.k ≤ n := hc.le
    have c0 := hc.c0
    have c2 := hc.c2
    have hsl := run_cut_lo (P := Try.prog) Try.underlying31 inf5.1 inf5.2 A n c s.k (s.k : Int) rfl hkn
    have hbr := (HB.out.kept (HK.out.fresh hk (fun i hi => by cases hi; exact HG.out)) (fun _ _ hf => hf)).cut (lo := s.k) (hi := n) hkn (Nat.le_refl _)
    rw [show l.take n = l from List.take_of_length_le (by rw [HLn.out]; omega)] at hbr
    have HO := Lib.hid ho
    have HC2 := Lib.hid hc
    have HR := Lib.hid hr
    have HK2 := Lib.hid hk
    have HBR := Lib.hid hbr
    have hts := hr.2.2.1
    clear ho hc hr hk hbr
    go_wp2_with fail
    refine (at_yes g s.k _ c0 c2).mono ?_
    rintro e w2 ⟨rfl, rfl⟩
    go_wp2_with fail
    refine (next_yes _ _ _ _ _ HBR.out).mono ?_
    rintro e w2 ⟨rfl, hk2⟩
    have HK3 := Lib.hid hk2
    clear hk2 c0 c2
    go_wp2_with fail
    refine (stand_yes _ _ _).mono ?_
    rintro e w3 ⟨rfl, rfl⟩
    cases hst : standM (nextM (l.drop s.k)) (ts.length : Int)
    · have hstop := rd_stop HR.out hst
      have hsl2 : s.l = l := HR.out.1
      have hc4 := HC2.out.kept HK3.out (fun hf => hf) (fun _ _ hf => hf)
      have hn' : n ≤ 140737488355328 := hn
      have HC4 := Lib.hid hc4
      have how := own_kept HO.out HK3.out (fun _ _ hf => hf)
      have HO2 := Lib.hid how
      have HK4 := Lib.hid (HK2.out.then HK3.out)
      have HS2 := Lib.hid hsl2
      clear hst hc4 how hsl2
      go_wp2_with fail
      refine (Rest_yes g A' n c' s _ HC4.out hn').mono ?_
      rintro e w4 ⟨v2, rfl, ho4, hc5, hk5⟩
      have e0 := hc5.c0
      have e3 := hc5.c3
      have HO4 := Lib.hid ho4
      have HC5 := Lib.hid hc5
      have HK5 := Lib.hid hk5
      clear ho4 hc5 hk5
      rcases hstop with ⟨her, hrd⟩ | ⟨her, hrd⟩
      · have hrest : takeM s (leftM s) = (l.drop s.k, ⟨l, l.length, 0⟩) := by
          obtain ⟨l', k, er⟩ := s
          obtain rfl : l' = l := HS2.out
          simp only at her hkn ⊢
          subst her
          have : leftM ⟨l', k, 0⟩ = ((l'.length - k : Nat) : Int) := by unfold leftM; rw [if_pos rfl]; simp only; rw [HLn.out]; omega
          rw [this, takeM_ok l' k _ (by rw [HLn.out]; omega)]
          rw [List.take_of_length_le (by simp), show k + (l'.length - k) = l'.length by rw [HLn.out]; omega]
        have hr0 : (takeM s (leftM s)).2.er = 0 := by rw [hrest]
        rw [hr0] at e3
        have HE := Lib.hid hrest
        have HD := Lib.hid hrd
        clear hr0 hrest hrd her
        go_wp2_with (go_at_call 33; refine (err_yes g _ _ e0 e3).mono ?_; rintro e w' ⟨rfl, rfl⟩)
        refine bodyPost_ret (v := .tuple #[.slice At ts.length ct, v2, .int .i64 0]) (by simp [results, Try.results76, go_sem]) rfl ⟨_, _, by rw [HD.out], ?_, ?_, ?_, ?_⟩
        · rw [HD.out]
          refine own_mono (own_kept HO2.out HK5.out ?_) HK.out.size
          intro i hi hf
          have h1 := (HO2.out.lt i hi).1
          have h2 := HGL.out
          cases hf
          omega
        · rw [HD.out]
          have := HO4.out
          rw [HE.out] at this
          exact own_mono this (Nat.le_trans HK.out.size HK4.out.size)
        · rw [HD.out]; exact HR.out.2.2.2.1
        · exact HK.out.fresh (HK4.out.same HK5.out) (fun i hi => by cases hi; exact HG.out)
      · have hr0 : (takeM s (leftM s)).2.er = 4 := by
          obtain ⟨l', k, er⟩ := s
          simp only at her
          subst her
          rw [takeM_err l' k 4 (by decide)]
        rw [hr0] at e3
        have HD := Lib.hid hrd
        clear hr0 hrd her
        go_wp2_with (go_at_call 33; refine (err_yes g _ _ e0 e3).mono ?_; rintro e w' ⟨rfl, rfl⟩)
        refine bodyPost_ret (v := .tuple #[.slice none 0 0, .slice none 0 0, .int .i64 4]) (by simp [results, Try.results76, go_sem]) rfl ⟨_, _, by rw [HD.out], ?_, ?_, ?_, ?_⟩
        · rw [HD.out]; exact World.ownsRow_nil _ _ _ _
        · rw [HD.out]; exact World.ownsRow_nil _ _ _ _
        · rw [HD.out]; simp
        · exact HK.out.fresh (HK4.out.same HK5.out) (fun i hi => by cases hi; exact HG.out)
    · obtain ⟨he, hlt, hk2, ht2, hinv⟩ := rd_go HR.out hst
      have hc4 := HC2.out.kept HK3.out (fun hf => hf) (fun _ _ hf => hf)
      have hN := numM_lt (takeM s 2).1
      have hN1 := takeM_len2 s 2
      have hM := numM_lt (takeM (takeM s 2).2 2).1
      have hM1 := takeM_len2 (takeM s 2).2 2
      have hN2 : numM (takeM s 2).1 < 65536 := Nat.lt_of_lt_of_le hN (Nat.pow_le_pow_right (by decide) (by simpa using hN1) : 256 ^ _ ≤ 256 ^ 2)
      have hM2 : numM (takeM (takeM s 2).2 2).1 < 65536 := Nat.lt_of_lt_of_le hM (Nat.pow_le_pow_right (by decide) (by simpa using hM1) : 256 ^ _ ≤ 256 ^ 2)
      clear hN hN1 hM hM1 ht2 he hst
      have HC4 := Lib.hid hc4
      have HI := Lib.hid hinv
      clear hc4 hinv
      go_wp2_with fail
      refine (Two_yes _ _ _ _ _ _ HC4.out).mono ?_
      rintro e w4 ⟨rfl, hc5, hk5⟩
      have HC5 := Lib.hid hc5
      have HK5 := Lib.hid hk5
      clear hc5 hk5
      go_wp2_with fail
      refine (Two_yes _ _ _ _ _ _ HC5.out).mono ?_
      rintro e w5 ⟨rfl, hc6, hk6⟩
      have HC6 := Lib.hid hc6
      have HK6 := Lib.hid hk6
      clear hc6 hk6
      generalize takeM (takeM s 2).2 2 = q2 at *
      generalize numM (takeM s 2).1 = p1 at *
      generalize numM q2.1 = p2 at *
      have hok := tagOfM_ok p1 p2 hN2 hM2
      generalize hT : tagOfM p1 p2 = tg at *
      have tof : ∀ u, Calls Try.prog _ _ u _ := fun u => tagOf_yes p1 p2 hN2 hM2 u
      rw [hT] at tof
      unfold tgv at tof
      have Tof := Lib.hid tof
      clear tof hT
      go_wp2_with fail
      refine (Tof.out _).mono ?_
      rintro e w6 ⟨rfl, hk7⟩
      have hkk : Kept (One g) w1 w6 := (((HK2.out.then HK3.out).same HK5.out).same HK6.out).then hk7
      have ho6 : w6.ownsRow w1.heap.size 67 4 (.slice At ts.length ct) ts.length (ts.map tgc).flatten := own_kept (own_kept HO.out HK3.out (fun _ _ hf => hf)) ((Kept.same HK5.out HK6.out).then hk7) (fun i hi hf => by
        have h1 := (HO.out.lt i hi).1
        have h2 := HGL.out
        cases hf
        omega)
      have hc7 := HC6.out.kept hk7 (fun hf => hf) (fun _ _ hf => hf)
      have hown : (w6.alloc (.cells #[.int .u16 (tg.k : Int), .int .u8 (tg.p : Int), .bool tg.d, .int .u16 (tg.n : Int)] 67)).ownsRow w1.heap.size 67 4 (.slice At ts.length ct) ts.length (ts.map tgc).flatten := own_kept ho6 ((Kept.refl Nil w6).alloc _) (fun _ _ hf => hf)
      have hsrc := Rws.lit (s := 4) w6 ([tg].map tgc) 67 (tgc_len [tg]) (by simp) #[.int .u16 (tg.k : Int), .int .u8 (tg.p : Int), .bool tg.d, .int .u16 (tg.n : Int)] rfl 1 rfl w6.heap.size rfl
      have hsz6 : w1.heap.size ≤ w6.heap.size := hkk.size
      have HOW := Lib.hid hown
      have HSR := Lib.hid hsrc
      have HKK := Lib.hid hkk
      have HC7 := Lib.hid hc7
      have HSZ := Lib.hid hsz6
      clear hown hsrc hkk hc7 ho6 hk7 hsz6
      go_wp2_with (at_builtin; refine wpList_appR rfl _ _ 54 rfl 4 w1.heap.size 67 6 i0 (tgv ⟨0, 0, false, 0⟩) Try.underlying54 hi hz0 hz1 hz2 rfl (by decide) _ _ _ rfl HOW.out _ 1 1 ([tg].map tgc) rfl HSR.out (tgc_one [tg]) (by unfold maxLen; omega) (by omega) (by have := HSZ.out; simp; omega) ?_; intro v' w7 hown' hgrow _)
      have hk8 : Kept (fun i => (Value.slice At ts.length ct).ownBlock = some i) w6 w7 := (((Kept.refl _ w6).alloc _).grown hgrow (fun k hk hk' => hk))
      have hc8 := HC7.out.kept hk8 (fun hf => by
        have h1 := (HO.out.lt _ hf).1
        have h2 := HGL.out
        omega) (fun i hi hf => by
        have h1 := (HO.out.lt _ hf).1
        have h2 := HLL.out i hi
        omega)
      have hcat : (ts.map tgc).flatten ++ ([tg].map tgc).flatten = ((ts ++ [tg]).map tgc).flatten := by simp
      rw [hcat] at hown'
      obtain ⟨A7, c7, rfl⟩ := own_form hown'
      have HO7 := Lib.hid hown'
      have HC8 := Lib.hid hc8
      have hkf : Kept (One g) w1 w7 := HKK.out.fresh hk8 (fun i hi => (HO.out.lt i hi).1)
      have HKF := Lib.hid hkf
      clear hown' hgrow hk8 hc8 hcat hkf
      go_wp2
      go_roundw
      case rel => exact ⟨ts ++ [tg], q2.2, by simpa using HO7.out, HC8.out, HI.out, HKF.out⟩
      case measure => simp [slen]; omega
end Go.Proofs.Ythjfeanmgaidcaa
