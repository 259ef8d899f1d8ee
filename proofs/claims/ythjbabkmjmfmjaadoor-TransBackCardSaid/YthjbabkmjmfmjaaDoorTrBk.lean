/- tolllaw07.TransBack: the walk. -/
import Derived.Test.YthjbabkmjmfmjaaDoorMg16
import Derived.Test.YthjbabkmjmfmjaaDoorMg17
import Derived.Test.YthjbabkmjmfmjaaDoorMg18
import Derived.Test.YthjbabkmjmfmjaaDoorMg19
import Derived.Test.YthjbabkmjmfmjaaDoorTrD
import Derived.Test.YthjbabkmjmfmjaaDoorTrE
import Derived.Test.YthjbabkmjmfmjaaDoorMg25
import Derived.Test.YthjbabkmjmfmjaaDoorCut7
namespace Go.Proofs.YthjbabkmjmfmjaaDoor
open Go.RowKit Go.Sort
set_option linter.unusedVariables false

theorem and_not3 : ∀ k : Fin 41, bits .andNot .i64 (k.val : Int) 3 = ((k.val / 4 * 4 : Nat) : Int) := by decide +kernel
theorem an_c (k : Nat) (hk : k ≤ 40) (p q : Operand) (u : World) : ((do eqGuard .andNot 3 p q (.int .i64 (k : Int)) (.int .i64 3); binOp .andNot 3 (.int .i64 (k : Int)) (.int .i64 3)) : Sem Value).run Tryd.prog u = .ok (.int .i64 ((k / 4 * 4 : Nat) : Int)) u := by
  have := and_not3 ⟨k, by omega⟩
  dsimp only at this
  rw [← this]
  first | rfl | kernel_rfl | (simp [eqGuard, binOp, Op.intBits, bits])
theorem szU : (Tryd.prog.info? 27).map (·.size) = some 1 := by kernel_rfl
/-- What an append leaves. -/
theorem made_ap7 {W u u1 u2 : World} {v v' : Value} {L l : List UInt8} {n m : Nat} (h : Made W u v L) (h1 : Kept Nil u u1) (ho : u2.ownsRow W.heap.size 5 1 v' (n + m) (bys L ++ bys l)) (hg : u1.grownBy u2 v.ownBlock) (hn : L.length = n) (hm : l.length = m) : Made W u2 v' (L ++ l) := by
  subst hn hm
  refine ⟨by rw [List.length_append, bys_app]; exact ho, (h.2.then h1).grown hg (fun k hk hl => ?_)⟩
  have := (h.1.lt k hk).1
  omega
theorem ports_tcp (h : Tc) (hm : h.may) : portsM 6 (tcB h) = (h.f, h.t, true) := by
  unfold portsM
  rw [if_pos rfl, get_told h hm]
  rfl
theorem ports_udp (h : Ud) (hm : h.may) : portsM 17 (udB h) = (h.f, h.t, true) := by
  have := getU_told h hm []
  rw [List.append_nil] at this
  unfold portsM
  rw [if_neg (by decide), if_pos rfl, this]
  rfl
theorem got_two (l : List UInt8) : (∃ er : Int, er ≠ 0 ∧ getT l = (Tc.zero, er)) ∨ (∃ h, getT l = (h, 0) ∧ h.may ∧ tcB h = l) := by
  rcases get_cases l with (h | h) | h
  · exact .inl ⟨4, by decide, h⟩
  · exact .inl ⟨5, by decide, h⟩
  · exact .inr h
theorem gotU_two (l : List UInt8) : (∃ er : Int, er ≠ 0 ∧ getU l = (Ud.zero, er)) ∨ (∃ h, getU l = (h, 0) ∧ h.may ∧ h.n ≤ l.length ∧ udB h = l.take h.n) := by
  rcases getU_cases l with (h | h) | h
  · exact .inl ⟨4, by decide, h⟩
  · exact .inl ⟨5, by decide, h⟩
  · exact .inr h
def bkK (w : World) (g1 g2 : Nat) (h : Tc) (k : Ud) (C : Option Addr) (p r : Nat) (u : World) : Prop := Kept Nil w u ∧ (∃ A n c B m d, TB u g1 29 h A n c B m d) ∧ UB u g2 38 k C p r
set_option maxRecDepth 100000 in
set_option maxHeartbeats 16000000 in
theorem tback_yes (x : TcA) (y : UdA) (E : Option Addr) (q z : Nat) (bl : List UInt8) (w : World) (hx : x.In w) (hy : y.In w) (hbl : Byt w E q z bl) (hG : Gl w) :
    Calls Tryd.prog 5 #[.agg (tcs x.h x.A x.n x.c x.B x.m x.d).toArray, .agg (ucs y.h y.B y.m y.d).toArray, .slice E q z] w fun e w' => e = .returned (.bool true) ∧ Below w.heap.size w w' := by
  obtain ⟨h, A, n, c, B, m, d⟩ := x
  obtain ⟨k, C, p, r⟩ := y
  obtain ⟨hok, hxo, hxb⟩ := hx
  obtain ⟨kok, hyb⟩ := hy
  dsimp only at hok hxo hxb kok hyb ⊢
  have q1 := hxo.2.1
  have q2 := hxb.2.1
  have q3 := hyb.2.1
  have q4 := hbl.2.1
  obtain ⟨m4, hm4, _, ha1, ha2, ha3⟩ := min40 n
  obtain ⟨mb, hmb, _, hb1, hb2, hb3⟩ := min60 m
  obtain ⟨mu, hmu, hmu', hu1, hu2, hu3⟩ := min60 p
  obtain ⟨mq, hmq, hmq', hq1, hq2, hq3⟩ := min200 q
  obtain ⟨mn, hmn⟩ : ∃ x, m4 / 4 * 4 = x := ⟨_, rfl⟩
  have hn1 : mn ≤ n := by omega
  have hn2 : mn ≤ 40 := by omega
  have hn4 : mn % 4 = 0 := by omega
  have HAN := Lib.hid (fun p' q' u => an_c m4 ha2 p' q' u)
  rw [hmn] at HAN
  have HS1 := Lib.hid (run_cut_hi (P := Tryd.prog) Tryd.underlying22 inf5.1 A n c mn (mn : Int) rfl (by omega))
  have HS2 := Lib.hid (run_cut_hi (P := Tryd.prog) Tryd.underlying22 inf5.1 B m d mb (mb : Int) rfl (by omega))
  have hs3 := run_cut_hi (P := Tryd.prog) Tryd.underlying22 inf5.1 C p r mu (mu : Int) rfl (by omega)
  have hs4 := run_cut_hi (P := Tryd.prog) Tryd.underlying22 inf5.1 E q z mq (mq : Int) rfl (by omega)
  have HM1 := Lib.hid hm4
  have HM2 := Lib.hid hmb
  have HN := Lib.hid (And.intro (And.intro hn1 (And.intro hn2 hn4)) (And.intro hb1 hb2))
  have HN2 := Lib.hid (And.intro (And.intro hu1 hu2) (And.intro hq1 hq2))
  have HQC := Lib.hid (show mq ≤ z by omega)
  have HOK := Lib.hid hok
  have KOK := Lib.hid kok
  have HGG := Lib.hid hG
  have hT := TB.new w 29 h A n c B m d
  have hk := (Kept.refl Nil w).alloc (.cells (tcs h A n c B m d).toArray 29)
  have hU : UB ((w.alloc (.cells (tcs h A n c B m d).toArray 29)).alloc (.cells (ucs k C p r).toArray 38)) (w.heap.size + 1) 38 k C p r := by simpa using UB.new (w.alloc (.cells (tcs h A n c B m d).toArray 29)) 38 k C p r
  have hk2 := (Kept.refl Nil (w.alloc (.cells (tcs h A n c B m d).toArray 29))).alloc (.cells (ucs k C p r).toArray 38)
  have HT := Lib.hid (hT.kept hk2 (fun hf => hf))
  have HU := Lib.hid hU
  have HK := Lib.hid (hk.then hk2)
  have HXO := Lib.hid hxo
  have HXB := Lib.hid hxb
  have HYB := Lib.hid hyb
  have HEB := Lib.hid (hbl.pre hq1)
  generalize bl.take mq = bb at *
  have ho := hok.o
  clear ha1 ha2 ha3 hb1 hb2 hb3 hu1 hu2 hu3 hq1 hq2 hq3 hn1 hn2 hn4 hm4 hmb hok kok hxo hxb hyb hbl q1 q2 q3 q4 hT hk hU hk2 hG
  go_enter Tryd.func5, Tryd.ntmps5
  go_upto_region 1 with (fail)
  refine wp_nameE (fun W => TB W w.heap.size 29 h A n c B m d ∧ UB W (w.heap.size + 1) 38 k C p r ∧ Kept Nil w W) ⟨HT.out, HU.out, HK.out⟩ ?_
  clear HT HU HK
  rintro W ⟨hT, hU, hK⟩
  obtain ⟨g1, hg1⟩ : ∃ g, w.heap.size = g := ⟨_, rfl⟩
  obtain ⟨g2, hg2⟩ : ∃ g, w.heap.size + 1 = g := ⟨_, rfl⟩
  have HG := Lib.hid (show w.heap.size ≤ g1 ∧ w.heap.size ≤ g2 ∧ g1 ≠ g2 by omega)
  rw [hg2] at hU ⊢
  rw [hg1] at hT ⊢
  have HU := Lib.hid hU
  have HK := Lib.hid hK
  have y4 := hT.co
  have HT := Lib.hid hT
  clear hU hK hg1 hg2 hT
  go_upto_region 2 with (first
    | (refine wpList_st rfl _ _ _ rfl g1 4 rfl [.int .u8 ((h.o % 16 : Nat) : Int)] _ (by first | rfl | (simp [Act.eval]; done) | skip) rfl szC 29 _ HT.out (by rw [tcs_len, List.length_singleton]; omega) (by intro u hu; simp at hu; subst hu; rfl) ?_; intro W2 hb hk hz; simp only [Act.put])
    | fail)
  have HT := Lib.hid (show TB W2 g1 29 { h with o := h.o % 16 } A n c B m d from hb)
  have HK2 := Lib.hid (HK.out.fresh hk (fun i hi => by cases hi; exact HG.out.1))
  have HU := Lib.hid (HU.out.kept hk (fun hf => HG.out.2.2 hf.symm))
  have HOK := Lib.hid (show Tc.ok { h with o := h.o % 16 } from ⟨HOK.out.f, HOK.out.t, HOK.out.s, HOK.out.a, by show h.o % 16 < 256; omega, HOK.out.g, HOK.out.w, HOK.out.c, HOK.out.u⟩)
  have HXX := Lib.hid (show ({ h with o := h.o % 16 } : Tc).x = h.x ∧ ({ h with o := h.o % 16 } : Tc).b = h.b ∧ ({ h with o := h.o % 16 } : Tc).o ≤ 15 from ⟨rfl, rfl, by show h.o % 16 ≤ 15; omega⟩)
  generalize ({ h with o := h.o % 16 } : Tc) = h1 at HT HOK HXX
  rw [← HXX.out.1] at HXO
  rw [← HXX.out.2.1] at HXB
  have HO15 := Lib.hid HXX.out.2.2
  clear hb hk hz HK HXX y4 ho
  refine wp_nameC2 fun A0 hA0 => ?_
  have HSZ : A0.tmps.size = 236 := by rw [hA0]; rfl
  have am : A0.eval (.tmp 2) = .slice E q z := by rw [hA0]; rfl
  have a3 : A0.tmps.getD 3 undef = pAt g1 0 := by rw [hA0]; rfl
  have HA0 := Lib.hid hA0
  clear hA0
  refine wp_region_posts 236 (cI [33, 34, 35, 36, 37, 38, 39, 40, 41, 42, 43, 44, 45, 46, 47, 48, 49] 2 (.slice E q z) (.slice E q z) (bkK w g1 g2 h1 k C p r) A0) (cR [(fun v => v = pAt g1 9), (fun v => v = .slice A n c), (fun v => v = pAt g1 9), (fun v => v = .slice A n c), (fun v => v = .int .i64 (n : Int)), (fun v => v = .int .i64 (m4 : Int)), (fun v => v = .int .i64 (mn : Int)), (fun v => v = .slice A mn c), (fun v => v = pAt g1 10), (fun v => v = .slice B m d), (fun v => v = pAt g1 10), (fun v => v = .slice B m d), (fun v => v = .int .i64 (m : Int)), (fun v => v = .int .i64 (mb : Int)), (fun v => v = .slice B mb d), (fun v => v = pAt g1 9), (fun v => v = undef), (fun v => v = pAt g1 10), (fun v => v = undef)] [⟨16, g1, 9, .slice A n c, .slice A mn c⟩, ⟨18, g1, 10, .slice B m d, .slice B mb d⟩]) (cU [⟨16, g1, 9, .slice A n c, .slice A mn c⟩, ⟨18, g1, 10, .slice B m d, .slice B mb d⟩]) (by kernel_rfl) (by kernel_rfl) (fun a u h => h.size.trans HSZ) (fun u hu => ⟨⟨rfl, rfl, fun _ _ => rfl, .inl am, HK2.out.then hu, ⟨_, _, _, _, _, _, HT.out.kept hu (fun hf => hf)⟩, HU.out.kept hu (fun hf => hf)⟩, fun j e he _ => by
    simp only [List.mem_cons, List.not_mem_nil, or_false] at he
    rcases he with rfl | rfl
    · exact (HT.out.kept hu (fun hf => hf)).cx
    · exact (HT.out.kept hu (fun hf => hf)).cb
    ⟩) ?_ ?_
  · refine ⟨?_, ?_, ?_, ?_, ?_, ?_, ?_, ?_, ?_, ?_, ?_, ?_, ?_, ?_, ?_, ?_, ?_, ?_, ?_, trivial⟩
    · intro a u hI hp hU
      have e0 : a.eval (.tmp 3) = pAt g1 0 := (hI.fr 3 (by decide)).trans a3
      exact c_pure hI (pAt g1 9) (exec_fa _ _ _ rfl e0 (fa_t9 _ _)) 33 rfl (by rfl) (by rfl) rfl (by rfl)
    · intro a u hI hp hU
      exact c_pure hI (.slice A n c) (exec_ld1 _ _ _ rfl (got hp ⟨0, .data⟩ (by simp) rfl 33 rfl).1 (c_old hU _ rfl ⟨⟨1, .phase⟩, by simp, rfl, rfl⟩ ⟨16, g1, 9, .slice A n c, .slice A mn c⟩ (by simp) rfl) Tryd.underlying22) 34 rfl (by rfl) (by rfl) rfl (by rfl)
    · intro a u hI hp hU
      have e0 : a.eval (.tmp 3) = pAt g1 0 := (hI.fr 3 (by decide)).trans a3
      exact c_pure hI (pAt g1 9) (exec_fa _ _ _ rfl e0 (fa_t9 _ _)) 35 rfl (by rfl) (by rfl) rfl (by rfl)
    · intro a u hI hp hU
      exact c_pure hI (.slice A n c) (exec_ld1 _ _ _ rfl (got hp ⟨2, .data⟩ (by simp) rfl 35 rfl).1 (c_old hU _ rfl ⟨⟨3, .phase⟩, by simp, rfl, rfl⟩ ⟨16, g1, 9, .slice A n c, .slice A mn c⟩ (by simp) rfl) Tryd.underlying22) 36 rfl (by rfl) (by rfl) rfl (by rfl)
    · intro a u hI hp hU
      exact c_pure hI (.int .i64 (n : Int)) (exec_len _ _ rfl (got hp ⟨3, .data⟩ (by simp) rfl 36 rfl).1 (ln_c _ _ _ _ _)) 37 rfl (by rfl) (by rfl) rfl (by rfl)
    · intro a u hI hp hU
      exact c_pure hI (.int .i64 (m4 : Int)) (exec_min _ _ _ _ rfl (got hp ⟨4, .data⟩ (by simp) rfl 37 rfl).1 rfl (mn_c _ _ _ _ _ HM1.out)) 38 rfl (by rfl) (by rfl) rfl (by rfl)
    · intro a u hI hp hU
      exact c_pure hI (.int .i64 (mn : Int)) (exec_bin2 _ _ _ _ _ rfl (got hp ⟨5, .data⟩ (by simp) rfl 38 rfl).1 rfl (HAN.out _ _ _)) 39 rfl (by rfl) (by rfl) rfl (by rfl)
    · intro a u hI hp hU
      exact c_pure hI (.slice A mn c) (exec_cut _ _ _ rfl Tryd.underlying22 (got hp ⟨1, .data⟩ (by simp) rfl 34 rfl).1 (got hp ⟨6, .data⟩ (by simp) rfl 39 rfl).1 (HS1.out u)) 40 rfl (by rfl) (by rfl) rfl (by rfl)
    · intro a u hI hp hU
      have e0 : a.eval (.tmp 3) = pAt g1 0 := (hI.fr 3 (by decide)).trans a3
      exact c_pure hI (pAt g1 10) (exec_fa _ _ _ rfl e0 (fa_t10 _ _)) 41 rfl (by rfl) (by rfl) rfl (by rfl)
    · intro a u hI hp hU
      exact c_pure hI (.slice B m d) (exec_ld1 _ _ _ rfl (got hp ⟨8, .data⟩ (by simp) rfl 41 rfl).1 (c_old hU _ rfl ⟨⟨9, .phase⟩, by simp, rfl, rfl⟩ ⟨18, g1, 10, .slice B m d, .slice B mb d⟩ (by simp) rfl) Tryd.underlying22) 42 rfl (by rfl) (by rfl) rfl (by rfl)
    · intro a u hI hp hU
      have e0 : a.eval (.tmp 3) = pAt g1 0 := (hI.fr 3 (by decide)).trans a3
      exact c_pure hI (pAt g1 10) (exec_fa _ _ _ rfl e0 (fa_t10 _ _)) 43 rfl (by rfl) (by rfl) rfl (by rfl)
    · intro a u hI hp hU
      exact c_pure hI (.slice B m d) (exec_ld1 _ _ _ rfl (got hp ⟨10, .data⟩ (by simp) rfl 43 rfl).1 (c_old hU _ rfl ⟨⟨11, .phase⟩, by simp, rfl, rfl⟩ ⟨18, g1, 10, .slice B m d, .slice B mb d⟩ (by simp) rfl) Tryd.underlying22) 44 rfl (by rfl) (by rfl) rfl (by rfl)
    · intro a u hI hp hU
      exact c_pure hI (.int .i64 (m : Int)) (exec_len _ _ rfl (got hp ⟨11, .data⟩ (by simp) rfl 44 rfl).1 (ln_c _ _ _ _ _)) 45 rfl (by rfl) (by rfl) rfl (by rfl)
    · intro a u hI hp hU
      exact c_pure hI (.int .i64 (mb : Int)) (exec_min _ _ _ _ rfl (got hp ⟨12, .data⟩ (by simp) rfl 45 rfl).1 rfl (mn_c _ _ _ _ _ HM2.out)) 46 rfl (by rfl) (by rfl) rfl (by rfl)
    · intro a u hI hp hU
      exact c_pure hI (.slice B mb d) (exec_cut _ _ _ rfl Tryd.underlying22 (got hp ⟨9, .data⟩ (by simp) rfl 42 rfl).1 (got hp ⟨13, .data⟩ (by simp) rfl 46 rfl).1 (HS2.out u)) 47 rfl (by rfl) (by rfl) rfl (by rfl)
    · intro a u hI hp hU
      have e0 : a.eval (.tmp 3) = pAt g1 0 := (hI.fr 3 (by decide)).trans a3
      exact c_pure hI (pAt g1 9) (exec_fa _ _ _ rfl e0 (fa_t9 _ _)) 48 rfl (by rfl) (by rfl) rfl (by rfl)
    · intro a u hI hp hU
      obtain ⟨hk1, ⟨A2, n2, c2, B2, m2, d2, hb⟩, hu⟩ := hI.inv
      refine c_st hI _ _ _ rfl rfl (got hp ⟨15, .data⟩ (by simp) rfl 48 rfl).1 (got hp ⟨7, .data⟩ (by simp) rfl 40 rfl).1 rfl rfl infBs hb (by rw [tcs_len]; decide) ?_ rfl fun u' hbl hk hz => ?_
      · intro e he
        simp only [List.mem_cons, List.not_mem_nil, or_false] at he
        rcases he with rfl | rfl
        · exact .inl ⟨rfl, rfl, rfl, rfl⟩
        · exact .inr ⟨by show (18 : Nat) ≠ 16; decide, .inr (by show (9 : Nat) ≠ 10; decide)⟩
      · exact ⟨hk1.fresh hk (fun i hi => by cases hi; exact HG.out.1), ⟨A, mn, c, B2, m2, d2, hbl⟩, hu.kept hk (fun hf => HG.out.2.2 hf.symm)⟩
    · intro a u hI hp hU
      have e0 : a.eval (.tmp 3) = pAt g1 0 := (hI.fr 3 (by decide)).trans a3
      exact c_pure hI (pAt g1 10) (exec_fa _ _ _ rfl e0 (fa_t10 _ _)) 49 rfl (by rfl) (by rfl) rfl (by rfl)
    · intro a u hI hp hU
      obtain ⟨hk1, ⟨A2, n2, c2, B2, m2, d2, hb⟩, hu⟩ := hI.inv
      refine c_st hI _ _ _ rfl rfl (got hp ⟨17, .data⟩ (by simp) rfl 49 rfl).1 (got hp ⟨14, .data⟩ (by simp) rfl 47 rfl).1 rfl rfl infBs hb (by rw [tcs_len]; decide) ?_ rfl fun u' hbl hk hz => ?_
      · intro e he
        simp only [List.mem_cons, List.not_mem_nil, or_false] at he
        rcases he with rfl | rfl
        · exact .inr ⟨by show (16 : Nat) ≠ 18; decide, .inr (by show (10 : Nat) ≠ 9; decide)⟩
        · exact .inl ⟨rfl, rfl, rfl, rfl⟩
      · exact ⟨hk1.fresh hk (fun i hi => by cases hi; exact HG.out.1), ⟨A2, n2, c2, B, mb, d, hbl⟩, hu.kept hk (fun hf => HG.out.2.2 hf.symm)⟩
  · intro a u hI hR
    obtain ⟨hk1, ⟨A2, n2, c2, B2, m2, d2, hb⟩, hu⟩ := hI.inv
    have z16 := (hR 16 _ rfl).2 ⟨16, g1, 9, .slice A n c, .slice A mn c⟩ (by simp) rfl
    dsimp only at z16
    rw [hb.cx] at z16
    injection z16 with z16
    injection z16 with y1 y2 y3
    replace y1 := y1.symm
    replace y2 := y2.symm
    replace y3 := y3.symm
    subst y1 y2 y3
    have z18 := (hR 18 _ rfl).2 ⟨18, g1, 10, .slice B m d, .slice B mb d⟩ (by simp) rfl
    dsimp only at z18
    rw [hb.cb] at z18
    injection z18 with z18
    injection z18 with y1 y2 y3
    replace y1 := y1.symm
    replace y2 := y2.symm
    replace y3 := y3.symm
    subst y1 y2 y3
    have e33 : a.tmps.getD 33 undef = pAt g1 9 := (hR 0 _ rfl).1
    have e34 : a.tmps.getD 34 undef = .slice A n c := (hR 1 _ rfl).1
    have e35 : a.tmps.getD 35 undef = pAt g1 9 := (hR 2 _ rfl).1
    have e36 : a.tmps.getD 36 undef = .slice A n c := (hR 3 _ rfl).1
    have e37 : a.tmps.getD 37 undef = .int .i64 (n : Int) := (hR 4 _ rfl).1
    have e38 : a.tmps.getD 38 undef = .int .i64 (m4 : Int) := (hR 5 _ rfl).1
    have e39 : a.tmps.getD 39 undef = .int .i64 (mn : Int) := (hR 6 _ rfl).1
    have e40 : a.tmps.getD 40 undef = .slice A mn c := (hR 7 _ rfl).1
    have e41 : a.tmps.getD 41 undef = pAt g1 10 := (hR 8 _ rfl).1
    have e42 : a.tmps.getD 42 undef = .slice B m d := (hR 9 _ rfl).1
    have e43 : a.tmps.getD 43 undef = pAt g1 10 := (hR 10 _ rfl).1
    have e44 : a.tmps.getD 44 undef = .slice B m d := (hR 11 _ rfl).1
    have e45 : a.tmps.getD 45 undef = .int .i64 (m : Int) := (hR 12 _ rfl).1
    have e46 : a.tmps.getD 46 undef = .int .i64 (mb : Int) := (hR 13 _ rfl).1
    have e47 : a.tmps.getD 47 undef = .slice B mb d := (hR 14 _ rfl).1
    have e48 : a.tmps.getD 48 undef = pAt g1 9 := (hR 15 _ rfl).1
    have e49 : a.tmps.getD 49 undef = pAt g1 10 := (hR 17 _ rfl).1
    have ha := act_eq a A0 [(33, pAt g1 9), (34, .slice A n c), (35, pAt g1 9), (36, .slice A n c), (37, .int .i64 (n : Int)), (38, .int .i64 (m4 : Int)), (39, .int .i64 (mn : Int)), (40, .slice A mn c), (41, pAt g1 10), (42, .slice B m d), (43, pAt g1 10), (44, .slice B m d), (45, .int .i64 (m : Int)), (46, .int .i64 (mb : Int)), (47, .slice B mb d), (48, pAt g1 9), (49, pAt g1 10)] hI.size hI.defs (show ([33, 34, 35, 36, 37, 38, 39, 40, 41, 42, 43, 44, 45, 46, 47, 48, 49] : List Nat).Nodup by decide) (fun p hp => by
      rw [HSZ]
      have h1 : p.1 ∈ [33, 34, 35, 36, 37, 38, 39, 40, 41, 42, 43, 44, 45, 46, 47, 48, 49] := List.mem_map_of_mem (f := Prod.fst) hp
      simp at h1
      omega) (fun p hp => by
      simp only [List.mem_cons, List.not_mem_nil, or_false] at hp
      rcases hp with rfl | rfl | rfl | rfl | rfl | rfl | rfl | rfl | rfl | rfl | rfl | rfl | rfl | rfl | rfl | rfl | rfl
      · exact e33
      · exact e34
      · exact e35
      · exact e36
      · exact e37
      · exact e38
      · exact e39
      · exact e40
      · exact e41
      · exact e42
      · exact e43
      · exact e44
      · exact e45
      · exact e46
      · exact e47
      · exact e48
      · exact e49
      ) (fun d hd => hI.fr d hd)
    have HT := Lib.hid (show TB u g1 29 { h1 with x := h1.x.take mn, b := h1.b.take mb } A mn c B mb d from hb)
    have HU := Lib.hid hu
    have HXO := Lib.hid (HXO.out.pre HN.out.1.1)
    have HXB := Lib.hid (HXB.out.pre HN.out.2.1)
    have HOK := Lib.hid (show Tc.ok { h1 with x := h1.x.take mn, b := h1.b.take mb } from ⟨HOK.out.f, HOK.out.t, HOK.out.s, HOK.out.a, HOK.out.o, HOK.out.g, HOK.out.w, HOK.out.c, HOK.out.u⟩)
    have HXX := Lib.hid (show ({ h1 with x := h1.x.take mn, b := h1.b.take mb } : Tc).x = h1.x.take mn ∧ ({ h1 with x := h1.x.take mn, b := h1.b.take mb } : Tc).b = h1.b.take mb ∧ ({ h1 with x := h1.x.take mn, b := h1.b.take mb } : Tc).o ≤ 15 from ⟨rfl, rfl, HO15.out⟩)
    generalize ({ h1 with x := h1.x.take mn, b := h1.b.take mb } : Tc) = H at HT HOK HXX
    rw [← HXX.out.1] at HXO
    rw [← HXX.out.2.1] at HXB
    have HMAY := Lib.hid (show H.may from ⟨HOK.out, HXX.out.2.2, by rw [HXO.out.1]; exact HN.out.1.2.1, by rw [HXO.out.1]; exact HN.out.1.2.2⟩)
    have HK := Lib.hid hk1
    clear hI hR hb hu hk1 e33 e34 e35 e36 e37 e38 e39 e40 e41 e42 e43 e44 e45 e46 e47 e48 e49 HS1 HS2 HM1 HM2 HAN hmn HXX a3 HSZ HO15
    subst ha
    have hA := HA0.out
    clear HA0 am
    subst hA
    unfold pAt
    simp only [List.foldl_cons, List.foldl_nil, Act.put, List.setIfInBounds_toArray, List.set_cons_succ, List.set_cons_zero]
    have y4 := HU.out.cb
    go_upto_region 4 with (first
      | (refine wpList_st rfl _ _ _ rfl g2 4 rfl [.slice C mu r] _ rfl rfl infBs 38 _ HU.out (by rw [ucs_len, List.length_singleton]; omega) (by intro u hu; simp at hu; subst hu; rfl) ?_; intro W4 hb hk hz; simp only [Act.put])
      | fail)
    have HU4 := Lib.hid (show UB W4 g2 38 { k with b := k.b.take mu } C mu r from hb)
    have HK4 := Lib.hid (HK.out.fresh hk (fun i hi => by cases hi; exact HG.out.2.1))
    have HT4 := Lib.hid (HT.out.kept hk (fun hf => HG.out.2.2 hf))
    clear hb hk hz y4 HT HU HK
    have y4 := HU4.out.cb
    have hmu60 := HN2.out.1.2
    go_upto_region 5 with (first
      | (refine wpList_st rfl _ _ _ rfl g2 2 rfl [.int .u16 ((8 + mu : Nat) : Int)] _ (by first | rfl | (simp [Act.eval]; done) | (simp [Act.eval]; omega)) rfl szU 38 _ HU4.out (by rw [ucs_len, List.length_singleton]; omega) (by intro u hu; simp at hu; subst hu; rfl) ?_; intro W5 hb hk hz; simp only [Act.put])
      | fail)
    have HU := Lib.hid (show UB W5 g2 38 { k with b := k.b.take mu, n := 8 + mu } C mu r from hb)
    have HK := Lib.hid (HK4.out.fresh hk (fun i hi => by cases hi; exact HG.out.2.1))
    have HT := Lib.hid (HT4.out.kept hk (fun hf => HG.out.2.2 hf))
    have hkw := HK.out
    have HYB := Lib.hid ((HYB.out.pre HN2.out.1.1).kept hkw (fun _ _ hf => hf))
    have HJM := Lib.hid (show Ud.may { k with b := k.b.take mu, n := 8 + mu } from ⟨⟨KOK.out.f, KOK.out.t, by show 8 + mu < 65536; omega, KOK.out.c⟩, by show 8 + mu = 8 + (k.b.take mu).length; rw [HYB.out.1]⟩)
    have HXX := Lib.hid (show ({ k with b := k.b.take mu, n := 8 + mu } : Ud).b = k.b.take mu from rfl)
    generalize ({ k with b := k.b.take mu, n := 8 + mu } : Ud) = J at HU HJM HXX
    rw [← HXX.out] at HYB
    have HEB := Lib.hid (HEB.out.kept hkw (fun _ _ hf => hf))
    have HXO := Lib.hid (HXO.out.kept hkw (fun _ _ hf => hf))
    have HXB := Lib.hid (HXB.out.kept hkw (fun _ _ hf => hf))
    clear hb hk hz y4 hkw HT4 HU4 HK4 HXX KOK hs3 hmu hmu'
    have CT := Lib.hid (fun w hx hb => tbytes_yes H HOK.out A mn c B mb d w hx hb (by have := HN.out.1.2.1; omega) (by have := HN.out.2.2; omega))
    have CU := Lib.hid (fun w hb => ubytes_yes J HJM.out.ok C mu r w hb (by have := HN2.out.1.2; omega))
    rw [tell_may H HMAY.out] at CT
    rw [tellU_may J HJM.out] at CU
    dsimp only at CT CU
    go_wp2_with (first
      | (refine wpList_ld rfl _ _ rfl g1 0 rfl (tcs H A mn c B mb d) HT.out.all _ Tryd.underlying29 rfl (infTc _ _ _ _ _ _ _) ?_; simp only [Act.put, List.setIfInBounds_toArray, List.set_cons_succ, List.set_cons_zero])
      | fail)
    refine (CT.out _ HXO.out HXB.out).mono ?_
    rintro e u6 ⟨v, rfl, hmd⟩
    obtain ⟨D6, f6, rfl, hy, _⟩ := byt_own hmd
    dsimp only at hy ⊢
    have HT := Lib.hid (HT.out.kept hmd.2 (fun hf => hf))
    have HU := Lib.hid (HU.out.kept hmd.2 (fun hf => hf))
    have HXO := Lib.hid (HXO.out.kept hmd.2 (fun _ _ hf => hf))
    have HXB := Lib.hid (HXB.out.kept hmd.2 (fun _ _ hf => hf))
    have HYB := Lib.hid (HYB.out.kept hmd.2 (fun _ _ hf => hf))
    have HEB := Lib.hid (HEB.out.kept hmd.2 (fun _ _ hf => hf))
    have HK := Lib.hid (HK.out.then hmd.2)
    have HS6 := Lib.hid hy
    have hL6 : (tcB H).length = 20 + mn + mb := by rw [tcB_len, HXO.out.1, HXB.out.1]
    rw [hL6] at HS6 ⊢
    clear hmd hy CT
    go_wp2_with (first
      | (refine wpList_ld rfl _ _ rfl g2 0 rfl (ucs J C mu r) HU.out.all _ Tryd.underlying38 rfl (infUc _ _ _ _) ?_; simp only [Act.put, List.setIfInBounds_toArray, List.set_cons_succ, List.set_cons_zero])
      | fail)
    refine (CU.out _ HYB.out).mono ?_
    rintro e u7 ⟨v, rfl, hmd⟩
    obtain ⟨D7, f7, rfl, hy, _⟩ := byt_own hmd
    dsimp only at hy ⊢
    have HT := Lib.hid (HT.out.kept hmd.2 (fun hf => hf))
    have HU := Lib.hid (HU.out.kept hmd.2 (fun hf => hf))
    have HXO := Lib.hid (HXO.out.kept hmd.2 (fun _ _ hf => hf))
    have HXB := Lib.hid (HXB.out.kept hmd.2 (fun _ _ hf => hf))
    have HYB := Lib.hid (HYB.out.kept hmd.2 (fun _ _ hf => hf))
    have HEB := Lib.hid (HEB.out.kept hmd.2 (fun _ _ hf => hf))
    have HS6 := Lib.hid (HS6.out.kept hmd.2 (fun _ _ hf => hf))
    have HK := Lib.hid (HK.out.then hmd.2)
    have HS7 := Lib.hid hy
    have hL7 : (udB J).length = 8 + mu := by rw [udB_len, HYB.out.1]
    rw [hL7] at HS7 ⊢
    have HL67 := Lib.hid (And.intro hL6 hL7)
    clear hmd hy CU hL6 hL7
    go_wp2_with (fail)
    have hp := tget_yes D6 (20 + mn + mb) f6 (tcB H) u7 HS6.out (by have := HN.out.1.2.1; have := HN.out.2.2; omega)
    rw [get_told H HMAY.out] at hp
    refine hp.mono ?_
    clear hp
    rintro e u8a ⟨A8, n8, c8, B8, m8, d8, rfl, ⟨hx8, _⟩, ⟨hb8, _⟩, hk⟩
    dsimp only at hx8 hb8 ⊢
    have HT := Lib.hid (HT.out.kept hk (fun hf => hf))
    have HU := Lib.hid (HU.out.kept hk (fun hf => hf))
    have HXO := Lib.hid (HXO.out.kept hk (fun _ _ hf => hf))
    have HXB := Lib.hid (HXB.out.kept hk (fun _ _ hf => hf))
    have HYB := Lib.hid (HYB.out.kept hk (fun _ _ hf => hf))
    have HEB := Lib.hid (HEB.out.kept hk (fun _ _ hf => hf))
    have HS6 := Lib.hid (HS6.out.kept hk (fun _ _ hf => hf))
    have HS7 := Lib.hid (HS7.out.kept hk (fun _ _ hf => hf))
    have HK := Lib.hid (HK.out.then hk)
    have HX8 := Lib.hid hx8
    have HB8 := Lib.hid hb8
    have HZ := Lib.hid (TB.new u8a 29 Tc.zero none 0 0 none 0 0)
    clear hk hx8 hb8
    go_upto_region 9 with (first
      | (refine wpList_st rfl _ (.tmp 11) _ rfl u8a.heap.size 0 rfl (tcs H A8 n8 c8 B8 m8 d8) _ rfl rfl (infTc _ _ _ _ _ _ _) 29 _ HZ.out (by rw [tcs_len, tcs_len]; omega) (tcs_one _ _ _ _ _ _ _) ?_; intro u8 hb hks hz; simp only [Act.put])
      | fail)
    have hks2 := ((Kept.refl Nil u8a).alloc (.cells (tcs Tc.zero none 0 0 none 0 0).toArray 29)).fresh hks (fun i hi => by cases hi; exact Nat.le_refl _)
    obtain ⟨g8, hg⟩ : ∃ g, u8a.heap.size = g := ⟨_, rfl⟩
    have HT8 := Lib.hid (show TB u8 u8a.heap.size 29 H A8 n8 c8 B8 m8 d8 from hb)
    have HT := Lib.hid (HT.out.kept hks2 (fun hf => hf))
    have HU := Lib.hid (HU.out.kept hks2 (fun hf => hf))
    have HXO := Lib.hid (HXO.out.kept hks2 (fun _ _ hf => hf))
    have HXB := Lib.hid (HXB.out.kept hks2 (fun _ _ hf => hf))
    have HYB := Lib.hid (HYB.out.kept hks2 (fun _ _ hf => hf))
    have HEB := Lib.hid (HEB.out.kept hks2 (fun _ _ hf => hf))
    have HS6 := Lib.hid (HS6.out.kept hks2 (fun _ _ hf => hf))
    have HS7 := Lib.hid (HS7.out.kept hks2 (fun _ _ hf => hf))
    have HX8 := Lib.hid (HX8.out.kept hks2 (fun _ _ hf => hf))
    have HB8 := Lib.hid (HB8.out.kept hks2 (fun _ _ hf => hf))
    have HK := Lib.hid (HK.out.then hks2)
    rw [hg] at HT8 ⊢
    clear hb hks hz hks2 hg HZ
    go_wp2_with (fail)
    refine (bclone D7 (8 + mu) f7 (udB J) u8 HS7.out (by have := HN2.out.1.2; omega)).mono ?_
    rintro e u9 ⟨v9, rfl, hmd⟩
    obtain ⟨i0, hi, hz0, hz1, hz2⟩ := info_parts Tryd.infb
    have HM9 := Lib.hid hmd
    have HSZ9 := Lib.hid (show u8.heap.size ≤ u9.heap.size from hmd.2.size)
    have HEB9 := Lib.hid (HEB.out.kept hmd.2 (fun _ _ hf => hf))
    clear hmd
    go_wp2_with (at_builtin; refine wpList_any rfl _ _ 22 rfl u8.heap.size 5 i0 (.int .u8 0) Tryd.underlying22 hi hz0 hz1 hz2 rfl v9 _ _ rfl HM9.out.1 E mq z bb rfl HEB9.out (by have := HL67.out.2; have := HN2.out.1.2; have := HN2.out.2.2; omega) HSZ9.out ?_; intro v10 u10 hown hgr hob; simp only [Act.put])
    have HM10 := Lib.hid (made_ap7 HM9.out (Kept.refl Nil u9) hown hgr rfl HEB9.out.1)
    clear hown hgr hob HM9 HSZ9 HEB9
    obtain ⟨D10, f10, rfl, hy, _⟩ := byt_own HM10.out
    have hkm := HM10.out.2
    have HT := Lib.hid (HT.out.kept hkm (fun hf => hf))
    have HU := Lib.hid (HU.out.kept hkm (fun hf => hf))
    have HT8 := Lib.hid (HT8.out.kept hkm (fun hf => hf))
    have HXO := Lib.hid (HXO.out.kept hkm (fun _ _ hf => hf))
    have HXB := Lib.hid (HXB.out.kept hkm (fun _ _ hf => hf))
    have HYB := Lib.hid (HYB.out.kept hkm (fun _ _ hf => hf))
    have HEB := Lib.hid (HEB.out.kept hkm (fun _ _ hf => hf))
    have HS6 := Lib.hid (HS6.out.kept hkm (fun _ _ hf => hf))
    have HS7 := Lib.hid (HS7.out.kept hkm (fun _ _ hf => hf))
    have HX8 := Lib.hid (HX8.out.kept hkm (fun _ _ hf => hf))
    have HB8 := Lib.hid (HB8.out.kept hkm (fun _ _ hf => hf))
    have HK := Lib.hid (HK.out.then hkm)
    have HS10 := Lib.hid hy
    clear hy hkm HM10
    have hl10 : (udB J ++ bb).length = 8 + mu + mq := by rw [List.length_append, HL67.out.2, HEB.out.1]
    rw [hl10] at HS10 ⊢
    clear hl10
    go_wp2_with (fail)
    have hp := uget_yes D10 (8 + mu + mq) f10 (udB J ++ bb) u10 HS10.out (by have := HN2.out.1.2; have := HN2.out.2.2; omega)
    rw [getU_told J HJM.out] at hp
    refine hp.mono ?_
    clear hp
    rintro e u11a ⟨B11, m11, d11, rfl, ⟨hb11, _⟩, hk⟩
    dsimp only at hb11 ⊢
    have HT := Lib.hid (HT.out.kept hk (fun hf => hf))
    have HU := Lib.hid (HU.out.kept hk (fun hf => hf))
    have HT8 := Lib.hid (HT8.out.kept hk (fun hf => hf))
    have HXO := Lib.hid (HXO.out.kept hk (fun _ _ hf => hf))
    have HXB := Lib.hid (HXB.out.kept hk (fun _ _ hf => hf))
    have HYB := Lib.hid (HYB.out.kept hk (fun _ _ hf => hf))
    have HEB := Lib.hid (HEB.out.kept hk (fun _ _ hf => hf))
    have HS6 := Lib.hid (HS6.out.kept hk (fun _ _ hf => hf))
    have HS7 := Lib.hid (HS7.out.kept hk (fun _ _ hf => hf))
    have HX8 := Lib.hid (HX8.out.kept hk (fun _ _ hf => hf))
    have HB8 := Lib.hid (HB8.out.kept hk (fun _ _ hf => hf))
    have HK := Lib.hid (HK.out.then hk)
    have HB11 := Lib.hid hb11
    have HZ := Lib.hid (UB.new u11a 38 Ud.zero none 0 0)
    clear hk hb11 HS10
    go_upto_region 10 with (first
      | (refine wpList_st rfl _ (.tmp 13) _ rfl u11a.heap.size 0 rfl (ucs J B11 m11 d11) _ rfl rfl (infUc _ _ _ _) 38 _ HZ.out (by rw [ucs_len, ucs_len]; omega) (ucs_one _ _ _ _) ?_; intro u11 hb hks hz; simp only [Act.put])
      | fail)
    have hks2 := ((Kept.refl Nil u11a).alloc (.cells (ucs Ud.zero none 0 0).toArray 38)).fresh hks (fun i hi => by cases hi; exact Nat.le_refl _)
    obtain ⟨g11, hg⟩ : ∃ g, u11a.heap.size = g := ⟨_, rfl⟩
    have HT11 := Lib.hid (show UB u11 u11a.heap.size 38 J B11 m11 d11 from hb)
    have HT := Lib.hid (HT.out.kept hks2 (fun hf => hf))
    have HU := Lib.hid (HU.out.kept hks2 (fun hf => hf))
    have HT8 := Lib.hid (HT8.out.kept hks2 (fun hf => hf))
    have HXO := Lib.hid (HXO.out.kept hks2 (fun _ _ hf => hf))
    have HXB := Lib.hid (HXB.out.kept hks2 (fun _ _ hf => hf))
    have HYB := Lib.hid (HYB.out.kept hks2 (fun _ _ hf => hf))
    have HEB := Lib.hid (HEB.out.kept hks2 (fun _ _ hf => hf))
    have HS6 := Lib.hid (HS6.out.kept hks2 (fun _ _ hf => hf))
    have HS7 := Lib.hid (HS7.out.kept hks2 (fun _ _ hf => hf))
    have HX8 := Lib.hid (HX8.out.kept hks2 (fun _ _ hf => hf))
    have HB8 := Lib.hid (HB8.out.kept hks2 (fun _ _ hf => hf))
    have HB11 := Lib.hid (HB11.out.kept hks2 (fun _ _ hf => hf))
    have HK := Lib.hid (HK.out.then hks2)
    rw [hg] at HT11 ⊢
    clear hb hks hz hks2 hg HZ
    go_wp2_with (fail)
    have hn40 := HN.out.1.2.1
    have hb60 := HN.out.2.2
    have cx := fun dr os => cell_regrown HT.out.cx dr os
    have cb := fun dr os => cell_regrown HT.out.cb dr os
    have hof1 : ∀ u, Calls Tryd.prog 19 #[.agg (tcs H A8 n8 c8 B8 m8 d8).toArray] u fun e w' => e = .returned (.agg (tqs H A8 n8 c8 B8 m8 d8).toArray) ∧ Kept Nil u w' := fun u => oft_yes H HOK.out A8 n8 c8 B8 m8 d8 u
    have hof2 : ∀ u, Calls Tryd.prog 19 #[.agg (tcs H A mn c B mb d).toArray] u fun e w' => e = .returned (.agg (tqs H A mn c B mb d).toArray) ∧ Kept Nil u w' := fun u => oft_yes H HOK.out A mn c B mb d u
    have hof3 : ∀ u, Calls Tryd.prog 21 #[.agg (ucs J B11 m11 d11).toArray] u fun e w' => e = .returned (.agg (uqs J B11 m11 d11).toArray) ∧ Kept Nil u w' := fun u => ofu_yes J HJM.out.ok B11 m11 d11 u
    have hof4 : ∀ u, Calls Tryd.prog 21 #[.agg (ucs J C mu r).toArray] u fun e w' => e = .returned (.agg (uqs J C mu r).toArray) ∧ Kept Nil u w' := fun u => ofu_yes J HJM.out.ok C mu r u
    have hsm1 := fun dr os => tsame_yes H A8 n8 c8 B8 m8 d8 A mn c B mb d (grow (redrawn u11 dr) os) (HX8.out.kept (kept_grown' u11 dr os) (fun _ _ hf => hf)) (HB8.out.kept (kept_grown' u11 dr os) (fun _ _ hf => hf)) (HXO.out.kept (kept_grown' u11 dr os) (fun _ _ hf => hf)) (HXB.out.kept (kept_grown' u11 dr os) (fun _ _ hf => hf))
    have hsm2 := fun dr os => ulike_yes J B11 m11 d11 C mu r (grow (redrawn u11 dr) os) (HB11.out.kept (kept_grown' u11 dr os) (fun _ _ hf => hf)) (HYB.out.kept (kept_grown' u11 dr os) (fun _ _ hf => hf))
    refine wp_region_quiet_below (by kernel_rfl) (by kernel_rfl) ?_
    repeat (first
      | (refine wpQuiet_ld rfl _ _ rfl g8 0 rfl (tcs H A8 n8 c8 B8 m8 d8) (fun w1 hw => row_grown HT8.out.all hw) _ Tryd.underlying29 rfl (infTc _ _ _ _ _ _ _) ?_; simp only [Act.put, List.setIfInBounds_toArray, List.set_cons_succ, List.set_cons_zero])
      | (refine wpQuiet_ld rfl _ _ rfl g1 0 rfl (tcs H A mn c B mb d) (fun w1 hw => row_grown HT.out.all hw) _ Tryd.underlying29 rfl (infTc _ _ _ _ _ _ _) ?_; simp only [Act.put, List.setIfInBounds_toArray, List.set_cons_succ, List.set_cons_zero])
      | (refine wpQuiet_ld rfl _ _ rfl g11 0 rfl (ucs J B11 m11 d11) (fun w1 hw => row_grown HT11.out.all hw) _ Tryd.underlying38 rfl (infUc _ _ _ _) ?_; simp only [Act.put, List.setIfInBounds_toArray, List.set_cons_succ, List.set_cons_zero])
      | (refine wpQuiet_ld rfl _ _ rfl g2 0 rfl (ucs J C mu r) (fun w1 hw => row_grown HU.out.all hw) _ Tryd.underlying38 rfl (infUc _ _ _ _) ?_; simp only [Act.put, List.setIfInBounds_toArray, List.set_cons_succ, List.set_cons_zero])
      | (go_big_quiet_step (first | with_reducible exact quietK (hof1 _) | with_reducible exact quietK (hof2 _) | with_reducible exact quietK (hof3 _) | with_reducible exact quietK (hof4 _) | with_reducible exact quietK (hsm1 _ _) | with_reducible exact quietK (hsm2 _ _))))
    refine wpQuiet_nil ?_
    rintro wz ⟨nq, hw⟩
    have hkz : Kept Nil u11 wz := by rw [hw]; exact kept_grown _ _
    have HT := Lib.hid (HT.out.kept hkz (fun hf => hf))
    have HU := Lib.hid (HU.out.kept hkz (fun hf => hf))
    have HXO := Lib.hid (HXO.out.kept hkz (fun _ _ hf => hf))
    have HXB := Lib.hid (HXB.out.kept hkz (fun _ _ hf => hf))
    have HYB := Lib.hid (HYB.out.kept hkz (fun _ _ hf => hf))
    have HEB := Lib.hid (HEB.out.kept hkz (fun _ _ hf => hf))
    have HS6 := Lib.hid (HS6.out.kept hkz (fun _ _ hf => hf))
    have HS7 := Lib.hid (HS7.out.kept hkz (fun _ _ hf => hf))
    have HK := Lib.hid (HK.out.then hkz)
    clear hw hkz cx cb hof1 hof2 hof3 hof4 hsm1 hsm2 HT8 HT11 HX8 HB8 HB11
    go_wp2_with (fail)
    have hp := tports_yes 6 (by decide) D6 (20 + mn + mb) f6 (tcB H) wz HS6.out (by omega)
    rw [ports_tcp H HMAY.out] at hp
    refine hp.mono ?_
    clear hp
    rintro e u13 ⟨rfl, hk⟩
    dsimp only
    have HT := Lib.hid (HT.out.kept hk (fun hf => hf))
    have HU := Lib.hid (HU.out.kept hk (fun hf => hf))
    have HXO := Lib.hid (HXO.out.kept hk (fun _ _ hf => hf))
    have HXB := Lib.hid (HXB.out.kept hk (fun _ _ hf => hf))
    have HYB := Lib.hid (HYB.out.kept hk (fun _ _ hf => hf))
    have HEB := Lib.hid (HEB.out.kept hk (fun _ _ hf => hf))
    have HS6 := Lib.hid (HS6.out.kept hk (fun _ _ hf => hf))
    have HS7 := Lib.hid (HS7.out.kept hk (fun _ _ hf => hf))
    have HK := Lib.hid (HK.out.then hk)
    clear hk
    go_wp2_with (fail)
    have hp := tports_yes 17 (by decide) D7 (8 + mu) f7 (udB J) u13 HS7.out (by have := HN2.out.1.2; omega)
    rw [ports_udp J HJM.out] at hp
    refine hp.mono ?_
    clear hp
    rintro e u14 ⟨rfl, hk⟩
    dsimp only
    have HT := Lib.hid (HT.out.kept hk (fun hf => hf))
    have HU := Lib.hid (HU.out.kept hk (fun hf => hf))
    have HXO := Lib.hid (HXO.out.kept hk (fun _ _ hf => hf))
    have HXB := Lib.hid (HXB.out.kept hk (fun _ _ hf => hf))
    have HYB := Lib.hid (HYB.out.kept hk (fun _ _ hf => hf))
    have HEB := Lib.hid (HEB.out.kept hk (fun _ _ hf => hf))
    have HS6 := Lib.hid (HS6.out.kept hk (fun _ _ hf => hf))
    have HS7 := Lib.hid (HS7.out.kept hk (fun _ _ hf => hf))
    have HK := Lib.hid (HK.out.then hk)
    clear hk HS6 HS7
    have y0 := HT.out.cf
    have y1 := HT.out.ct
    have y2 := HU.out.cf
    have y3 := HU.out.ct
    clear HXO HXB HYB
    go_wp2_with (fail)
    clear y0 y1 y2 y3 HT HU
    have HCG := Lib.hid (got_two bb)
    have HCH := Lib.hid (gotU_two bb)
    have hp := tget_yes E mq z bb u14 HEB.out (by have := HN2.out.2.2; omega)
    have hmq200 := HN2.out.2.2
    clear HN HN2 HG HOK HMAY HJM HL67 hn40 hb60
    rcases HCG.out with ⟨er, her, e⟩ | ⟨h7, e, hm7, hB7⟩
    · rw [e] at hp
      refine hp.mono ?_
      clear hp
      rintro e u15a ⟨A16, n16, c16, B16, m16, d16, rfl, _, _, hk⟩
      dsimp only
      have HEB := Lib.hid (HEB.out.kept hk (fun _ _ hf => hf))
      have HK := Lib.hid (HK.out.then hk)
      have HZ := Lib.hid (TB.new u15a 29 Tc.zero none 0 0 none 0 0)
      clear hk
      go_upto_region 17 with (first
        | (refine wpList_st rfl _ (.tmp 21) _ rfl u15a.heap.size 0 rfl (tcs Tc.zero A16 n16 c16 B16 m16 d16) _ rfl rfl (infTc _ _ _ _ _ _ _) 29 _ HZ.out (by rw [tcs_len, tcs_len]; omega) (tcs_one _ _ _ _ _ _ _) ?_; intro u15 hb hks hz; simp only [Act.put])
        | fail)
      have hks2 := ((Kept.refl Nil u15a).alloc (.cells (tcs Tc.zero none 0 0 none 0 0).toArray 29)).fresh hks (fun i hi => by cases hi; exact Nat.le_refl _)
      obtain ⟨g21, hg⟩ : ∃ g, u15a.heap.size = g := ⟨_, rfl⟩
      have HT21 := Lib.hid (show TB u15 u15a.heap.size 29 Tc.zero A16 n16 c16 B16 m16 d16 from hb)
      have HEB := Lib.hid (HEB.out.kept hks2 (fun _ _ hf => hf))
      have HK := Lib.hid (HK.out.then hks2)
      have hr0 : (er == 0) = false := by simpa using her
      clear hb hks hz hks2 hg HZ HT21 her e
      go_wp2_with (fail)
      have hp := uget_yes E mq z bb _ HEB.out (by omega)
      rcases HCH.out with ⟨er, her, e⟩ | ⟨k7, e, hm7, hn7, hB7⟩
      · rw [e] at hp
        refine hp.mono ?_
        clear hp
        rintro e u16xa ⟨B21, m21, d21, rfl, _, hk⟩
        dsimp only
        have HEB := Lib.hid (HEB.out.kept hk (fun _ _ hf => hf))
        have HK := Lib.hid (HK.out.then hk)
        have HZ := Lib.hid (UB.new u16xa 38 Ud.zero none 0 0)
        clear hk
        go_upto_region 22 with (first
          | (refine wpList_st rfl _ (.tmp 25) _ rfl u16xa.heap.size 0 rfl (ucs Ud.zero B21 m21 d21) _ rfl rfl (infUc _ _ _ _) 38 _ HZ.out (by rw [ucs_len, ucs_len]; omega) (ucs_one _ _ _ _) ?_; intro u16x hb hks hz; simp only [Act.put])
          | fail)
        have hks2 := ((Kept.refl Nil u16xa).alloc (.cells (ucs Ud.zero none 0 0).toArray 38)).fresh hks (fun i hi => by cases hi; exact Nat.le_refl _)
        obtain ⟨g25, hg⟩ : ∃ g, u16xa.heap.size = g := ⟨_, rfl⟩
        have HT25 := Lib.hid (show UB u16x u16xa.heap.size 38 Ud.zero B21 m21 d21 from hb)
        have HEB := Lib.hid (HEB.out.kept hks2 (fun _ _ hf => hf))
        have HK := Lib.hid (HK.out.then hks2)
        have hr0 : (er == 0) = false := by simpa using her
        clear hb hks hz hks2 hg HZ HT25 her e
        go_wp2_with (fail)
        refine (twakes_yes _ (HGG.out.kept HK.out).nm).mono ?_
        rintro e wl ⟨rfl, hk⟩
        go_wp2_with (fail)
        go_ret
        exact ⟨rfl, (HK.out.then hk).below (Nat.le_refl _) (fun _ hf => hf.elim)⟩
      · rw [e] at hp
        refine hp.mono ?_
        clear hp
        rintro e u16xa ⟨B21, m21, d21, rfl, ⟨hb21, _⟩, hk⟩
        dsimp only at hb21 ⊢
        have HEB := Lib.hid (HEB.out.kept hk (fun _ _ hf => hf))
        have HK := Lib.hid (HK.out.then hk)
        have HB21 := Lib.hid hb21
        have HZ := Lib.hid (UB.new u16xa 38 Ud.zero none 0 0)
        clear hk hb21
        go_upto_region 22 with (first
          | (refine wpList_st rfl _ (.tmp 25) _ rfl u16xa.heap.size 0 rfl (ucs k7 B21 m21 d21) _ rfl rfl (infUc _ _ _ _) 38 _ HZ.out (by rw [ucs_len, ucs_len]; omega) (ucs_one _ _ _ _) ?_; intro u16x hb hks hz; simp only [Act.put])
          | fail)
        have hks2 := ((Kept.refl Nil u16xa).alloc (.cells (ucs Ud.zero none 0 0).toArray 38)).fresh hks (fun i hi => by cases hi; exact Nat.le_refl _)
        obtain ⟨g25, hg⟩ : ∃ g, u16xa.heap.size = g := ⟨_, rfl⟩
        have HT25 := Lib.hid (show UB u16x u16xa.heap.size 38 k7 B21 m21 d21 from hb)
        have HEB := Lib.hid (HEB.out.kept hks2 (fun _ _ hf => hf))
        have HK := Lib.hid (HK.out.then hks2)
        have HB21 := Lib.hid (HB21.out.kept hks2 (fun _ _ hf => hf))
        have HQL := Lib.hid (And.intro hm7.n (And.intro HEB.out.1 HB21.out.1))
        rw [hg] at HT25 ⊢
        clear hb hks hz hks2 hg HZ e
        go_wp2_with (first
          | (refine wpList_ld rfl _ _ rfl g25 0 rfl (ucs k7 B21 m21 d21) HT25.out.all _ Tryd.underlying38 rfl (infUc _ _ _ _) ?_; simp only [Act.put, List.setIfInBounds_toArray, List.set_cons_succ, List.set_cons_zero])
          | fail)
        have hp := ubytes_yes k7 hm7.ok B21 m21 d21 _ HB21.out (by have := HQL.out.1; have := HQL.out.2.1; have := HQL.out.2.2; omega)
        rw [tellU_may k7 hm7, hB7] at hp
        refine hp.mono ?_
        clear hp
        rintro e u16xb ⟨v, rfl, hmd⟩
        obtain ⟨D23, f23, rfl, hy, _⟩ := byt_own hmd
        dsimp only at hy ⊢
        have HEB := Lib.hid (HEB.out.kept hmd.2 (fun _ _ hf => hf))
        have HK := Lib.hid (HK.out.then hmd.2)
        have HT25 := Lib.hid (HT25.out.kept hmd.2 (fun hf => hf))
        have HS23 := Lib.hid hy
        have hq7 : (bb.take k7.n).length = k7.n := by rw [List.length_take]; omega
        rw [hq7] at HS23 ⊢
        have hn7' : k7.n ≤ mq := by rw [← HEB.out.1]; exact hn7
        have hgt : ((mq : Int) < (k7.n : Int)) = False := by simp; omega
        have hcu := run_cut_hi (P := Tryd.prog) Tryd.underlying22 inf5.1 E mq z k7.n (k7.n : Int) rfl (by have := HQC.out; omega)
        have HEP := Lib.hid (HEB.out.pre hn7')
        have y2 := HT25.out.cn
        have hk16 := hm7.ok.n
        clear hmd hy hq7 HB21 hB7
        go_wp2_with (fail)
        refine (equal _ _ _ _ _ _ _ _ _ HS23.out HEP.out).mono ?_
        rintro e _ ⟨rfl, rfl⟩
        rw [beq_self_eq_true]
        go_wp2_with (fail)
        refine (twakes_yes _ (HGG.out.kept HK.out).nm).mono ?_
        rintro e wl ⟨rfl, hk⟩
        go_wp2_with (fail)
        go_ret
        exact ⟨rfl, (HK.out.then hk).below (Nat.le_refl _) (fun _ hf => hf.elim)⟩
    · rw [e] at hp
      refine hp.mono ?_
      clear hp
      rintro e u15a ⟨A16, n16, c16, B16, m16, d16, rfl, ⟨hx16, _⟩, ⟨hb16, _⟩, hk⟩
      dsimp only at hx16 hb16 ⊢
      have HEB := Lib.hid (HEB.out.kept hk (fun _ _ hf => hf))
      have HK := Lib.hid (HK.out.then hk)
      have HX16 := Lib.hid hx16
      have HB16 := Lib.hid hb16
      have HZ := Lib.hid (TB.new u15a 29 Tc.zero none 0 0 none 0 0)
      clear hk hx16 hb16
      go_upto_region 17 with (first
        | (refine wpList_st rfl _ (.tmp 21) _ rfl u15a.heap.size 0 rfl (tcs h7 A16 n16 c16 B16 m16 d16) _ rfl rfl (infTc _ _ _ _ _ _ _) 29 _ HZ.out (by rw [tcs_len, tcs_len]; omega) (tcs_one _ _ _ _ _ _ _) ?_; intro u15 hb hks hz; simp only [Act.put])
        | fail)
      have hks2 := ((Kept.refl Nil u15a).alloc (.cells (tcs Tc.zero none 0 0 none 0 0).toArray 29)).fresh hks (fun i hi => by cases hi; exact Nat.le_refl _)
      obtain ⟨g21, hg⟩ : ∃ g, u15a.heap.size = g := ⟨_, rfl⟩
      have HT21 := Lib.hid (show TB u15 u15a.heap.size 29 h7 A16 n16 c16 B16 m16 d16 from hb)
      have HEB := Lib.hid (HEB.out.kept hks2 (fun _ _ hf => hf))
      have HK := Lib.hid (HK.out.then hks2)
      have HX16 := Lib.hid (HX16.out.kept hks2 (fun _ _ hf => hf))
      have HB16 := Lib.hid (HB16.out.kept hks2 (fun _ _ hf => hf))
      have HQL := Lib.hid (And.intro hm7.x (And.intro (tcB_len h7) (And.intro HEB.out.1 (And.intro HX16.out.1 HB16.out.1))))
      rw [hB7] at HQL
      rw [hg] at HT21 ⊢
      clear hb hks hz hks2 hg HZ e
      go_wp2_with (first
        | (refine wpList_ld rfl _ _ rfl g21 0 rfl (tcs h7 A16 n16 c16 B16 m16 d16) HT21.out.all _ Tryd.underlying29 rfl (infTc _ _ _ _ _ _ _) ?_; simp only [Act.put, List.setIfInBounds_toArray, List.set_cons_succ, List.set_cons_zero])
        | fail)
      have hp := tbytes_yes h7 hm7.ok A16 n16 c16 B16 m16 d16 _ HX16.out HB16.out (by have := HQL.out.1; have := HQL.out.2.2.2.1; omega) (by have := HQL.out.2.1; have := HQL.out.2.2.1; have := HQL.out.2.2.2.2; omega)
      rw [tell_may h7 hm7, hB7] at hp
      refine hp.mono ?_
      clear hp
      rintro e u16 ⟨v, rfl, hmd⟩
      obtain ⟨D18, f18, rfl, hy, _⟩ := byt_own hmd
      dsimp only at hy ⊢
      have HEB := Lib.hid (HEB.out.kept hmd.2 (fun _ _ hf => hf))
      have HK := Lib.hid (HK.out.then hmd.2)
      have HS18 := Lib.hid hy
      rw [HEB.out.1] at HS18 ⊢
      clear hmd hy HX16 HB16 HT21 hB7 hm7
      go_wp2_with (fail)
      refine (equal _ _ _ _ _ _ _ _ _ HS18.out HEB.out).mono ?_
      rintro e _ ⟨rfl, rfl⟩
      rw [beq_self_eq_true]
      clear HS18 HQL
      go_wp2_with (fail)
      have hp := uget_yes E mq z bb _ HEB.out (by omega)
      rcases HCH.out with ⟨er, her, e⟩ | ⟨k7, e, hm7, hn7, hB7⟩
      · rw [e] at hp
        refine hp.mono ?_
        clear hp
        rintro e u17xa ⟨B21, m21, d21, rfl, _, hk⟩
        dsimp only
        have HEB := Lib.hid (HEB.out.kept hk (fun _ _ hf => hf))
        have HK := Lib.hid (HK.out.then hk)
        have HZ := Lib.hid (UB.new u17xa 38 Ud.zero none 0 0)
        clear hk
        go_upto_region 22 with (first
          | (refine wpList_st rfl _ (.tmp 25) _ rfl u17xa.heap.size 0 rfl (ucs Ud.zero B21 m21 d21) _ rfl rfl (infUc _ _ _ _) 38 _ HZ.out (by rw [ucs_len, ucs_len]; omega) (ucs_one _ _ _ _) ?_; intro u17x hb hks hz; simp only [Act.put])
          | fail)
        have hks2 := ((Kept.refl Nil u17xa).alloc (.cells (ucs Ud.zero none 0 0).toArray 38)).fresh hks (fun i hi => by cases hi; exact Nat.le_refl _)
        obtain ⟨g25, hg⟩ : ∃ g, u17xa.heap.size = g := ⟨_, rfl⟩
        have HT25 := Lib.hid (show UB u17x u17xa.heap.size 38 Ud.zero B21 m21 d21 from hb)
        have HEB := Lib.hid (HEB.out.kept hks2 (fun _ _ hf => hf))
        have HK := Lib.hid (HK.out.then hks2)
        have hr0 : (er == 0) = false := by simpa using her
        clear hb hks hz hks2 hg HZ HT25 her e
        go_wp2_with (fail)
        refine (twakes_yes _ (HGG.out.kept HK.out).nm).mono ?_
        rintro e wl ⟨rfl, hk⟩
        go_wp2_with (fail)
        go_ret
        exact ⟨rfl, (HK.out.then hk).below (Nat.le_refl _) (fun _ hf => hf.elim)⟩
      · rw [e] at hp
        refine hp.mono ?_
        clear hp
        rintro e u17xa ⟨B21, m21, d21, rfl, ⟨hb21, _⟩, hk⟩
        dsimp only at hb21 ⊢
        have HEB := Lib.hid (HEB.out.kept hk (fun _ _ hf => hf))
        have HK := Lib.hid (HK.out.then hk)
        have HB21 := Lib.hid hb21
        have HZ := Lib.hid (UB.new u17xa 38 Ud.zero none 0 0)
        clear hk hb21
        go_upto_region 22 with (first
          | (refine wpList_st rfl _ (.tmp 25) _ rfl u17xa.heap.size 0 rfl (ucs k7 B21 m21 d21) _ rfl rfl (infUc _ _ _ _) 38 _ HZ.out (by rw [ucs_len, ucs_len]; omega) (ucs_one _ _ _ _) ?_; intro u17x hb hks hz; simp only [Act.put])
          | fail)
        have hks2 := ((Kept.refl Nil u17xa).alloc (.cells (ucs Ud.zero none 0 0).toArray 38)).fresh hks (fun i hi => by cases hi; exact Nat.le_refl _)
        obtain ⟨g25, hg⟩ : ∃ g, u17xa.heap.size = g := ⟨_, rfl⟩
        have HT25 := Lib.hid (show UB u17x u17xa.heap.size 38 k7 B21 m21 d21 from hb)
        have HEB := Lib.hid (HEB.out.kept hks2 (fun _ _ hf => hf))
        have HK := Lib.hid (HK.out.then hks2)
        have HB21 := Lib.hid (HB21.out.kept hks2 (fun _ _ hf => hf))
        have HQL := Lib.hid (And.intro hm7.n (And.intro HEB.out.1 HB21.out.1))
        rw [hg] at HT25 ⊢
        clear hb hks hz hks2 hg HZ e
        go_wp2_with (first
          | (refine wpList_ld rfl _ _ rfl g25 0 rfl (ucs k7 B21 m21 d21) HT25.out.all _ Tryd.underlying38 rfl (infUc _ _ _ _) ?_; simp only [Act.put, List.setIfInBounds_toArray, List.set_cons_succ, List.set_cons_zero])
          | fail)
        have hp := ubytes_yes k7 hm7.ok B21 m21 d21 _ HB21.out (by have := HQL.out.1; have := HQL.out.2.1; have := HQL.out.2.2; omega)
        rw [tellU_may k7 hm7, hB7] at hp
        refine hp.mono ?_
        clear hp
        rintro e u17xb ⟨v, rfl, hmd⟩
        obtain ⟨D23, f23, rfl, hy, _⟩ := byt_own hmd
        dsimp only at hy ⊢
        have HEB := Lib.hid (HEB.out.kept hmd.2 (fun _ _ hf => hf))
        have HK := Lib.hid (HK.out.then hmd.2)
        have HT25 := Lib.hid (HT25.out.kept hmd.2 (fun hf => hf))
        have HS23 := Lib.hid hy
        have hq7 : (bb.take k7.n).length = k7.n := by rw [List.length_take]; omega
        rw [hq7] at HS23 ⊢
        have hn7' : k7.n ≤ mq := by rw [← HEB.out.1]; exact hn7
        have hgt : ((mq : Int) < (k7.n : Int)) = False := by simp; omega
        have hcu := run_cut_hi (P := Tryd.prog) Tryd.underlying22 inf5.1 E mq z k7.n (k7.n : Int) rfl (by have := HQC.out; omega)
        have HEP := Lib.hid (HEB.out.pre hn7')
        have y2 := HT25.out.cn
        have hk16 := hm7.ok.n
        clear hmd hy hq7 HB21 hB7
        go_wp2_with (fail)
        refine (equal _ _ _ _ _ _ _ _ _ HS23.out HEP.out).mono ?_
        rintro e _ ⟨rfl, rfl⟩
        rw [beq_self_eq_true]
        go_wp2_with (fail)
        refine (twakes_yes _ (HGG.out.kept HK.out).nm).mono ?_
        rintro e wl ⟨rfl, hk⟩
        go_wp2_with (fail)
        go_ret
        exact ⟨rfl, (HK.out.then hk).below (Nat.le_refl _) (fun _ hf => hf.elim)⟩
end Go.Proofs.YthjbabkmjmfmjaaDoor
