/- Package tag: contracts of Push and Pop. -/
import Derived.Test.YtnhkhglhodcffabTagD
namespace Go.Proofs.Ytnhkhglhodcffab
open Go.RowKit Go.Sort
set_option linter.unusedVariables false

def pushM (l : List Tg) (t : Tg) : List Tg × Int :=
  if mayL l = false ∨ mayT t = false then ([], 1) else if l.length = 2 then ([], 7) else if mayL (t :: l) then (t :: l, 0) else ([], 1)
theorem own_lit {w : World} {s : Nat} (rs : List (List Value)) (t : TypeId) (hr : ∀ r ∈ rs, r.length = s) (h : rs.length ≤ maxLen) (cs : Array Value) (hc : cs = rs.flatten.toArray) (n : Nat) (hn : rs.length = n) (b : Nat) (hb : b = w.heap.size) (B : Nat) (hB : B ≤ w.heap.size) :
    (w.alloc (.cells cs t)).ownsRow B t s (.slice (some ⟨b, 0, none⟩) n n) n rs.flatten := by
  subst hn hc hb
  have hl := flat_len hr
  exact ⟨hl, .inr ⟨w.heap.size, rs.length, rs.flatten.toArray, rfl, hB, heap_alloc_new w _, Nat.le_refl _, h, by simpa using hl, by rw [← hl, List.toList_toArray]; exact List.take_of_length_le (Nat.le_refl _)⟩⟩

set_option maxHeartbeats 2000000 in
theorem push_yes (A : Option Addr) (n c : Nat) (l : List Tg) (t : Tg) (w : World) (h : Tags w A n c l) (ht : t.ok) (hn : n ≤ 1099511627) :
    Calls Try.prog 18 #[.slice A n c, tgv t] w fun e w' => ∃ v, e = .returned (.tuple #[v, .int .i64 (pushM l t).2]) ∧ MadeT w w' v (pushM l t).1 := by
  have hnc := h.1.2.1
  have hcc := h.1.2.2.1
  obtain ⟨i0, hi, hz0, hz1, hz2⟩ := info_parts Try.inft
  have HLn := Lib.hid h.len
  have HT := Lib.hid h
  have hB := Blo.new w 38 #[.int .u16 (t.k : Int), .int .u8 (t.p : Int), .bool t.d, .int .u16 (t.n : Int)]
  have hk0 := (Kept.refl Nil w).alloc (.cells #[.int .u16 (t.k : Int), .int .u8 (t.p : Int), .bool t.d, .int .u16 (t.n : Int)] 38)
  have HB := Lib.hid hB
  have HK0 := Lib.hid hk0
  have cm : ∀ u, Calls Try.prog _ _ u _ := tmay_yes t ht
  unfold tgv at cm
  have Cm := Lib.hid cm
  clear h hB hk0 cm
  unfold tgv
  cases hml : mayL l
  · have hp : pushM l t = ([], 1) := by unfold pushM; rw [if_pos (.inl hml)]
    have HP := Lib.hid hp
    have ml : ∀ u, Tags u A n c l → Calls Try.prog _ _ u _ := fun u hu => may_yes A n c l u hu
    rw [hml] at ml
    have Ml := Lib.hid ml
    clear hp ml hml
    go_enter Try.func18, Try.ntmps18
    go_wp2_with fail
    refine (Ml.out _ (HT.out.kept HK0.out (fun _ _ hf => hf))).mono ?_
    rintro e w1 ⟨rfl, hk1⟩
    have HK1 := Lib.hid (HK0.out.then hk1)
    clear hk1
    go_wp2
    go_ret2
    exact ⟨_, by rw [HP.out]; rfl, by rw [HP.out]; exact World.ownsRow_nil _ _ _ _, HK1.out⟩
  · have ml : ∀ u, Tags u A n c l → Calls Try.prog _ _ u _ := fun u hu => may_yes A n c l u hu
    rw [hml] at ml
    have Ml := Lib.hid ml
    have HML := Lib.hid hml
    clear ml hml
    go_enter Try.func18, Try.ntmps18
    go_wp2_with fail
    refine (Ml.out _ (HT.out.kept HK0.out (fun _ _ hf => hf))).mono ?_
    rintro e w1 ⟨rfl, hk1⟩
    have hb1 := HB.out.kept hk1 (fun hf => hf)
    have c0 := hb1.cell 0
    have c1 := hb1.cell 1
    have c2 := hb1.cell 2
    have c3 := hb1.cell 3
    simp at c0 c1 c2 c3
    have HK1 := Lib.hid (HK0.out.then hk1)
    have HB1 := Lib.hid hb1
    clear hk1 hb1
    go_wp2_with fail
    refine (Cm.out _).mono ?_
    rintro e w2 ⟨rfl, hk2⟩
    have HB2 := Lib.hid (HB1.out.kept hk2 (fun hf => hf))
    have HK2 := Lib.hid (HK1.out.then hk2)
    clear hk2 c0 c1 c2 c3
    cases hmt : mayT t
    · have hp : pushM l t = ([], 1) := by unfold pushM; rw [if_pos (.inr hmt)]
      have HP := Lib.hid hp
      clear hp hmt
      go_wp2
      go_ret2
      exact ⟨_, by rw [HP.out]; rfl, by rw [HP.out]; exact World.ownsRow_nil _ _ _ _, HK2.out⟩
    · by_cases hn2 : n = 2
      · have hp : pushM l t = ([], 7) := by unfold pushM; rw [if_neg (by rw [HML.out, hmt]; simp), if_pos (by rw [HLn.out]; exact hn2)]
        have HP := Lib.hid hp
        subst hn2
        clear hp hmt
        go_wp2
        go_ret2
        exact ⟨_, by rw [HP.out]; rfl, by rw [HP.out]; exact World.ownsRow_nil _ _ _ _, HK2.out⟩
      · have hb2 : ((n : Int) == 2) = false := by simp; omega
        have d0 := HB2.out.cell 0
        have d1 := HB2.out.cell 1
        have d2 := HB2.out.cell 2
        have d3 := HB2.out.cell 3
        simp at d0 d1 d2 d3
        have hsz : w.heap.size ≤ w2.heap.size := HK2.out.size
        have hlit := own_lit (w := w2) (s := 4) ([t].map tgc) 38 (tgc_len [t]) (by unfold maxLen; simp) #[.int .u16 (t.k : Int), .int .u8 (t.p : Int), .bool t.d, .int .u16 (t.n : Int)] rfl 1 rfl w2.heap.size rfl w.heap.size hsz
        have hsrc := (HT.out.kept HK2.out (fun _ _ hf => hf)).kept ((Kept.refl Nil w2).alloc (.cells #[.int .u16 (t.k : Int), .int .u8 (t.p : Int), .bool t.d, .int .u16 (t.n : Int)] 38)) (fun _ _ hf => hf)
        have HLI := Lib.hid hlit
        have HSR := Lib.hid hsrc
        have HSZ := Lib.hid hsz
        have HMT := Lib.hid hmt
        have HN2 := Lib.hid hn2
        clear hlit hsrc hsz hmt hn2
        go_wp2_with (at_builtin; refine wpList_appR rfl _ _ 23 rfl 4 w.heap.size 38 6 i0 (tgv ⟨0, 0, false, 0⟩) Try.underlying23 hi hz0 hz1 hz2 rfl (by decide) _ _ _ rfl HLI.out A n c (l.map tgc) rfl HSR.out.1 (tgc_one l) (by unfold maxLen; omega) (by omega) (by have := HSZ.out; simp; omega) ?_; intro v' w3 hown' hgrow _)
        have hcat : ([t].map tgc).flatten ++ (l.map tgc).flatten = ((t :: l).map tgc).flatten := by simp
        have hok : ∀ u ∈ t :: l, u.ok := fun u hu => by
          rcases List.mem_cons.1 hu with rfl | hu
          · exact ht
          · exact HT.out.2 u hu
        rw [hcat] at hown'
        obtain ⟨A3, c3, rfl, htg, _⟩ := Tags.of_own hown' hok
        have hk3 : Kept Nil w w3 := (HK2.out.alloc _).grown hgrow (fun k hk hk' => by
          cases hk
          exact absurd hk' (Nat.not_lt.2 HSZ.out))
        have HTG := Lib.hid htg
        have HK3 := Lib.hid hk3
        have HO := Lib.hid hown'
        clear htg hk3 hown' hgrow hcat hok d0 d1 d2 d3
        go_wp2_with fail
        refine (may_yes A3 (1 + n) c3 (t :: l) _ HTG.out).mono ?_
        rintro e w4 ⟨rfl, hk4⟩
        have HK4 := Lib.hid hk4
        clear hk4
        cases hmf : mayL (t :: l)
        · have hp : pushM l t = ([], 1) := by unfold pushM; rw [if_neg (by rw [HML.out, HMT.out]; simp), if_neg (by rw [HLn.out]; exact HN2.out), hmf]; rfl
          have HP := Lib.hid hp
          clear hp hmf
          go_wp2
          go_ret2
          exact ⟨_, by rw [HP.out]; rfl, by rw [HP.out]; exact World.ownsRow_nil _ _ _ _, HK3.out.then HK4.out⟩
        · have hp : pushM l t = (t :: l, 0) := by unfold pushM; rw [if_neg (by rw [HML.out, HMT.out]; simp), if_neg (by rw [HLn.out]; exact HN2.out), hmf]; rfl
          have HP := Lib.hid hp
          clear hp hmf
          go_wp2
          go_ret2
          have hfin := own_kept HO.out HK4.out (fun _ _ hf => hf)
          exact ⟨_, by rw [HP.out]; rfl, by rw [HP.out, show (t :: l).length = 1 + n by rw [List.length_cons, HLn.out]; omega]; exact hfin, HK3.out.then HK4.out⟩

def popM (l : List Tg) : Tg × List Tg × Int :=
  if mayL l = false then (⟨0, 0, false, 0⟩, [], 1) else match l with
  | [] => (⟨0, 0, false, 0⟩, [], 6)
  | t :: r => (t, r, 0)
/-- What the copy that Pop makes keeps up. -/
def cloI (n0 : Nat) (l : List Tg) (D : Nat → Prop) (s : List Value) (u : World) : Prop := n0 ≤ u.heap.size ∧ match s with
  | [] => True
  | v :: _ => u.ownsRow n0 38 4 v l.length (l.map tgc).flatten
theorem cloI_keeps (n0 : Nat) (l : List Tg) : Keeps (cloI n0 l) where
  quiet := fun D s u u' ⟨h1, h2⟩ hk => ⟨Nat.le_trans h1 hk.size, by
    cases s with
    | nil => trivial
    | cons v s => exact own_kept h2 hk (fun _ _ hf => hf)⟩
  make := fun D s u o ⟨h1, h2⟩ => ⟨by simp; omega, by
    cases s with
    | nil => trivial
    | cons v s => exact own_kept h2 ((Kept.refl Nil u).alloc o) (fun _ _ hf => hf)⟩

theorem blo_store4 {w : World} {g : Nat} {t : TypeId} {a0 a1 a2 a3 : Value} (h : Blo w g t #[a0, a1, a2, a3]) (b0 b1 b2 b3 : Value) :
    Blo ((((w.setCell ⟨g, 0, none⟩ b0).setCell ⟨g, 1, none⟩ b1).setCell ⟨g, 2, none⟩ b2).setCell ⟨g, 3, none⟩ b3) g t #[b0, b1, b2, b3] ∧ Kept (One g) w ((((w.setCell ⟨g, 0, none⟩ b0).setCell ⟨g, 1, none⟩ b1).setCell ⟨g, 2, none⟩ b2).setCell ⟨g, 3, none⟩ b3) :=
  ⟨by simpa using (((h.set 0 b0).set 1 b1).set 2 b2).set 3 b3, ((((Kept.refl (One g) w).put rfl _).put rfl _).put rfl _).put rfl _⟩

set_option maxHeartbeats 2000000 in
theorem pop_yes (A : Option Addr) (n c : Nat) (l : List Tg) (w : World) (h : Tags w A n c l) (hn : n ≤ 1099511627) :
    Calls Try.prog 19 #[.slice A n c] w fun e w' => ∃ v, e = .returned (.tuple #[tgv (popM l).1, v, .int .i64 (popM l).2.2]) ∧ MadeT w w' v (popM l).2.1 := by
  have hnc := h.1.2.1
  have hcc := h.1.2.2.1
  have HLn := Lib.hid h.len
  have HT := Lib.hid h
  have hk0 := (Kept.refl Nil w).alloc (.cells #[.int .u16 0, .int .u8 0, .bool false, .int .u16 0] 38)
  have HK0 := Lib.hid hk0
  have hb0 := Blo.new w 38 #[.int .u16 0, .int .u8 0, .bool false, .int .u16 0]
  have HB0 := Lib.hid hb0
  have ml : ∀ u, Tags u A n c l → Calls Try.prog _ _ u _ := fun u hu => may_yes A n c l u hu
  clear h hk0 hb0
  cases hml : mayL l
  · have hp : popM l = (⟨0, 0, false, 0⟩, [], 1) := by unfold popM; rw [if_pos hml]
    have HP := Lib.hid hp
    rw [hml] at ml
    have Ml := Lib.hid ml
    clear hp ml hml
    go_enter Try.func19, Try.ntmps19
    go_wp2_with fail
    refine (Ml.out _ (HT.out.kept HK0.out (fun _ _ hf => hf))).mono ?_
    rintro e w1 ⟨rfl, hk1⟩
    have hb1 := HB0.out.kept hk1 (fun hf => hf)
    obtain ⟨hb2, hk2⟩ := blo_store4 hb1 (.int .u16 0) (.int .u8 0) (.bool false) (.int .u16 0)
    have d0 := hb2.cell 0
    have d1 := hb2.cell 1
    have d2 := hb2.cell 2
    have d3 := hb2.cell 3
    have HD := Lib.hid (And.intro d0 (And.intro d1 (And.intro d2 d3)))
    have c0 := hb1.cell 0
    have c1 := hb1.cell 1
    have c2 := hb1.cell 2
    have c3 := hb1.cell 3
    simp at c0 c1 c2 c3
    have f0 := hb1.frozen 0
    have f1 := hb1.frozen 1
    have f2 := hb1.frozen 2
    have f3 := hb1.frozen 3
    have hz : w.heap.size < w1.heap.size := hb1.lt
    have HK1 := Lib.hid ((HK0.out.then hk1).fresh hk2 (fun i hi => by cases hi; exact Nat.le_refl _))
    clear hk1 hb1 hk2 hb2 d0 d1 d2 d3
    go_wp2
    obtain ⟨d0, d1, d2, d3⟩ := HD.out
    refine bodyPost_ret (v := .tuple #[tgv ⟨0, 0, false, 0⟩, .slice none 0 0, .int .i64 1]) (by simp [results, Try.results19, go_sem, tgv, d0, d1, d2, d3]) rfl ⟨_, by rw [HP.out], by rw [HP.out]; exact World.ownsRow_nil _ _ _ _, HK1.out⟩
  · rw [hml] at ml
    have Ml := Lib.hid ml
    cases l with
    | nil =>
      have hp : popM [] = (⟨0, 0, false, 0⟩, [], 6) := by unfold popM; rw [if_neg (by rw [hml]; simp)]
      obtain rfl : 0 = n := HLn.out
      have HP := Lib.hid hp
      clear hp ml hml
      go_enter Try.func19, Try.ntmps19
      go_wp2_with fail
      refine (Ml.out _ (HT.out.kept HK0.out (fun _ _ hf => hf))).mono ?_
      rintro e w1 ⟨rfl, hk1⟩
      have hb1 := HB0.out.kept hk1 (fun hf => hf)
      obtain ⟨hb2, hk2⟩ := blo_store4 hb1 (.int .u16 0) (.int .u8 0) (.bool false) (.int .u16 0)
      have d0 := hb2.cell 0
      have d1 := hb2.cell 1
      have d2 := hb2.cell 2
      have d3 := hb2.cell 3
      have HD := Lib.hid (And.intro d0 (And.intro d1 (And.intro d2 d3)))
      have c0 := hb1.cell 0
      have c1 := hb1.cell 1
      have c2 := hb1.cell 2
      have c3 := hb1.cell 3
      simp at c0 c1 c2 c3
      have f0 := hb1.frozen 0
      have f1 := hb1.frozen 1
      have f2 := hb1.frozen 2
      have f3 := hb1.frozen 3
      have hz : w.heap.size < w1.heap.size := hb1.lt
      have HK1 := Lib.hid ((HK0.out.then hk1).fresh hk2 (fun i hi => by cases hi; exact Nat.le_refl _))
      clear hk1 hb1 hk2 hb2 d0 d1 d2 d3
      go_wp2
      obtain ⟨d0, d1, d2, d3⟩ := HD.out
      refine bodyPost_ret (v := .tuple #[tgv ⟨0, 0, false, 0⟩, .slice none 0 0, .int .i64 6]) (by simp [results, Try.results19, go_sem, tgv, d0, d1, d2, d3]) rfl ⟨_, by rw [HP.out], by rw [HP.out]; exact World.ownsRow_nil _ _ _ _, HK1.out⟩
    | cons t r =>
      have hp : popM (t :: r) = (t, r, 0) := by unfold popM; rw [if_neg (by rw [hml]; simp)]
      have hln : r.length + 1 = n := HLn.out
      have h1n : 1 ≤ n := by omega
      have hne : ((n : Int) == 0) = false := by simp; omega
      have hsl := run_cutS (P := Try.prog) (s := 4) Try.underlying23 inft4.1 inft4.2 A n c 1 1 rfl h1n
      have hcut : ∀ u, Tags u A n c (t :: r) → Tags u (cutS 4 A c 1) (n - 1) (c - 1) r := fun u hu => ⟨by
        have := hu.1.cut (lo := 1) (hi := n) h1n (Nat.le_refl _)
        rw [List.take_of_length_le (by simp; omega)] at this
        exact this, fun x hx => hu.2 x (List.mem_cons_of_mem _ hx)⟩
      have HP := Lib.hid hp
      have HCU := Lib.hid hcut
      obtain ⟨b, o, rfl, -⟩ := HT.out.at (i := 0) (by simp)
      clear hp ml hml hcut
      go_enter Try.func19, Try.ntmps19
      go_wp2_with fail
      refine (Ml.out _ (HT.out.kept HK0.out (fun _ _ hf => hf))).mono ?_
      rintro e w1 ⟨rfl, hk1⟩
      have HB1 := Lib.hid (HB0.out.kept hk1 (fun hf => hf))
      have HK1 := Lib.hid (HK0.out.then hk1)
      have HT1 := Lib.hid ((HT.out.kept HK0.out (fun _ _ hf => hf)).kept hk1 (fun _ _ hf => hf))
      have hsz1 : w.heap.size ≤ w1.heap.size := HK1.out.size
      have HSZ := Lib.hid hsz1
      clear hk1 hsz1
      go_wp2
      refine wp_region_acts Nil [5] (fun i vl => (#[], 0)) (fun i => undef) (cloI w1.heap.size r) (fun i v => ∃ A c, v = .slice A (n - 1) c) 6 (by kernel_rfl) (by kernel_rfl) (cloI_keeps _ _) ⟨Nat.le_refl _, trivial⟩ ?_
      simp only [List.take_succ_cons, List.take_zero, List.drop_succ_cons, List.drop_zero]
      refine tLex_quiets 5 rfl (by kernel_rfl) ?_
      simp only [List.take_succ_cons, List.take_zero, List.drop_succ_cons, List.drop_zero]
      apply Exists.intro
      refine ⟨?hq, ?hv, ?ht⟩
      case hq =>
        intro V hV
        have hq : ∀ d os, _ := fun d os => ((HT1.out.kept hV (fun _ _ hf => hf)).kept (kept_grown' V d os) (fun _ _ hf => hf)).cells (i := 0) (by simp)
        simp only [List.getElem_cons_zero, Nat.zero_mul, Nat.add_zero] at hq
        have c0 := fun d os => (hq d os).1
        have c1 := fun d os => (hq d os).2.1
        have c2 := fun d os => (hq d os).2.2.1
        have c3 := fun d os => (hq d os).2.2.2
        clear hV hq
        repeat (go_big_quiet_step (fail))
        exact wpQuiet_nil rfl
      case hv => exact ⟨trivial, trivial, trivial, trivial, trivial, trivial⟩
      case ht =>
        refine tLex_act 35 #[.slice (cutS 4 (some ⟨b, o, none⟩) c 1) (n - 1) (c - 1)] (fun u => ?he) rfl rfl (.slice none (n - 1) 0) ⟨_, _, rfl⟩ ?hc ?_
        case he => simp [execOp, go_sem]
        case hc =>
          intro D u hu hI hd
          refine (tclone _ (n - 1) (c - 1) r u (HCU.out u (HT1.out.kept hu (fun _ _ hf => hf))) (by omega)).mono ?_
          rintro e w' ⟨v, rfl, hm⟩
          have hrl : r.length = n - 1 := by omega
          obtain ⟨A3, c3, hv3⟩ := own_form hm.1
          refine ⟨v, rfl, ⟨A3, c3, by rw [hv3, hrl]⟩, hu.then hm.2, ⟨Nat.le_trans hu.size hm.2.size, ?_⟩, hm.2.size, fun k _ hk => hm.2.block k hk (fun hf => hf)⟩
          have hs0 : D = D := rfl
          exact own_mono hm.1 hu.size
        rintro v ⟨A3, cap3, rfl⟩
        intro w3 hs
        have hb1 := HB1.out.kept hs.kept (fun hf => hf)
        obtain ⟨hb2, hk2⟩ := blo_store4 hb1 (.int .u16 (t.k : Int)) (.int .u8 (t.p : Int)) (.bool t.d) (.int .u16 (t.n : Int))
        have d0 := hb2.cell 0
        have d1 := hb2.cell 1
        have d2 := hb2.cell 2
        have d3 := hb2.cell 3
        have hown := own_mono (own_kept hs.know.2 hk2 (by
          intro i hi hf
          have h1 := (hs.know.2.lt i hi).1
          have h2 := HB1.out.lt
          cases hf
          omega)) HSZ.out
        have HD := Lib.hid (And.intro d0 (And.intro d1 (And.intro d2 d3)))
        have HO := Lib.hid hown
        have c0 := hb1.cell 0
        have c1 := hb1.cell 1
        have c2 := hb1.cell 2
        have c3 := hb1.cell 3
        simp at c0 c1 c2 c3
        have f0 := hb1.frozen 0
        have f1 := hb1.frozen 1
        have f2 := hb1.frozen 2
        have f3 := hb1.frozen 3
        have hz : w.heap.size < w3.heap.size := hb1.lt
        have HK3 := Lib.hid ((HK1.out.then hs.kept).fresh hk2 (fun i hi => by cases hi; exact Nat.le_refl _))
        clear hb1 hk2 hb2 d0 d1 d2 d3 hown hs
        go_wp2
        obtain ⟨d0, d1, d2, d3⟩ := HD.out
        refine bodyPost_ret (v := .tuple #[tgv t, .slice A3 (n - 1) cap3, .int .i64 0]) (by simp [results, Try.results19, go_sem, tgv, d0, d1, d2, d3]) rfl ⟨_, by rw [HP.out], ?_, HK3.out⟩
        rw [HP.out, show (t, r, (0 : Int)).2.1 = r from rfl]
        have := HO.out
        rw [show n - 1 = r.length by omega] at this ⊢
        exact this
end Go.Proofs.Ytnhkhglhodcffab
