/- tolllaw07.TransTells: the walk. -/
import Derived.Test.YthjbabkmjmfmjaaDoorMg15
import Derived.Test.YthjbabkmjmfmjaaDoorMg16
import Derived.Test.YthjbabkmjmfmjaaDoorMg17
import Derived.Test.YthjbabkmjmfmjaaDoorTrD
import Derived.Test.YthjbabkmjmfmjaaDoorTrE
import Derived.Test.YthjbabkmjmfmjaaDoorRtE
import Derived.Test.YthjbabkmjmfmjaaDoorRtI
import Derived.Test.YthjbabkmjmfmjaaDoorRtJ
import Derived.Test.YthjbabkmjmfmjaaDoorCst
namespace Go.Proofs.YthjbabkmjmfmjaaDoor
open Go.RowKit Go.Sort
set_option linter.unusedVariables false

theorem fa_t9 (g : Nat) (u : World) : (Instr.fieldAt 29 (pAt g 0) 9).run Tryd.prog u = .ok (pAt g 9) u := by kernel_rfl
theorem fa_t10 (g : Nat) (u : World) : (Instr.fieldAt 29 (pAt g 0) 10).run Tryd.prog u = .ok (pAt g 10) u := by kernel_rfl
theorem fa_u4 (g : Nat) (u : World) : (Instr.fieldAt 38 (pAt g 0) 4).run Tryd.prog u = .ok (pAt g 4) u := by kernel_rfl
theorem ln_c (A : Option Addr) (n c : Nat) (ty : TypeId) (u : World) : (Builtin.len_ #[22] ty #[.slice A n c]).run Tryd.prog u = .ok (.int .i64 (n : Int)) u := by
  simp [Builtin.len_, Builtin.lenOf, run_underlying Tryd.underlying22, goInt]
theorem ln_t (s : ByteArray) (ty : TypeId) (u : World) : (Builtin.len_ #[9] ty #[.string s]).run Tryd.prog u = .ok (.int .i64 (s.size : Int)) u := by
  simp [Builtin.len_, Builtin.lenOf, run_underlying Tryd.underlying9, goInt]
theorem mn_c (n b m : Nat) (ty : TypeId) (u : World) (h : (if (b : Int) < (n : Int) then (b : Int) else (n : Int)) = (m : Int)) : (Builtin.min_ #[3, 3] ty #[.int .i64 (n : Int), .int .i64 (b : Int)]).run Tryd.prog u = .ok (.int .i64 (m : Int)) u := by
  rw [← h]
  simp [Builtin.min_, Builtin.min2]
theorem sliceH (s : ByteArray) (j : Nat) (hj : j ≤ s.size) (w : World) : (Instr.slice 9 (.string s) none (some (.int .i64 (j : Int))) none).run Tryd.prog w = .ok (.string (s.extract 0 j)) w := by
  have g1 : (Instr.sliceBound (.int .i64 (j : Int)) s.size .sliceAlen).run Tryd.prog w = .ok j w := by simp [Instr.sliceBound, asIntOf, hj]
  simp [Instr.slice, run_underlying Tryd.underlying9, Instr.sliceBounds, g1]
theorem cut_again (s : ByteArray) (m : Nat) (h : m ≤ s.size) : (s.extract 0 m).extract 0 m = s.extract 0 m := by
  apply ByteArray.ext
  simp
  try omega
theorem cut_size (s : ByteArray) (m : Nat) (h : m ≤ s.size) : (s.extract 0 m).size = m := by
  simp
  try omega
theorem infBs : (Tryd.prog.info? 22).map (·.size) = some 1 := by kernel_rfl
def tlK (w : World) (g1 g2 : Nat) (h : Tc) (k : Ud) (u : World) : Prop := Kept Nil w u ∧ (∃ A n c B m d, TB u g1 29 h A n c B m d) ∧ ∃ B m d, UB u g2 38 k B m d
set_option maxRecDepth 100000 in
set_option maxHeartbeats 16000000 in
theorem ttells_yes (x : TcA) (y : UdA) (s : ByteArray) (w : World) (hx : x.In w) (hy : y.In w) (hs : s.size ≤ maxLen) (hG : Gl w) :
    Calls Tryd.prog 4 #[.agg (tcs x.h x.A x.n x.c x.B x.m x.d).toArray, .agg (ucs y.h y.B y.m y.d).toArray, .string s] w fun e w' => e = .returned (.bool true) ∧ Below w.heap.size w w' := by
  obtain ⟨h, A, n, c, B, m, d⟩ := x
  obtain ⟨k, C, p, r⟩ := y
  obtain ⟨hok, hxo, hxb⟩ := hx
  obtain ⟨kok, hyb⟩ := hy
  dsimp only at hok hxo hxb kok hyb ⊢
  have q1 := hxo.2.1
  have q2 := hxb.2.1
  have q3 := hyb.2.1
  obtain ⟨mn, hmn, _, hn1, hn2, hn3⟩ := min60 n
  obtain ⟨mb, hmb, _, hb1, hb2, hb3⟩ := min60 m
  obtain ⟨mu, hmu, _, hu1, hu2, hu3⟩ := min60 p
  obtain ⟨ms, hms, _, hs1, hs2, hs3⟩ := min60 s.size
  have hms' : (if (60 : Int) < ((s.extract 0 ms).size : Int) then (60 : Int) else ((s.extract 0 ms).size : Int)) = (ms : Int) := by rw [cut_size s ms hs1, if_neg (by omega)]
  have HS1 := Lib.hid (run_cut_hi (P := Tryd.prog) Tryd.underlying22 inf5.1 A n c mn (mn : Int) rfl (by omega))
  have HS2 := Lib.hid (run_cut_hi (P := Tryd.prog) Tryd.underlying22 inf5.1 B m d mb (mb : Int) rfl (by omega))
  have HS3 := Lib.hid (run_cut_hi (P := Tryd.prog) Tryd.underlying22 inf5.1 C p r mu (mu : Int) rfl (by omega))
  have HS4 := Lib.hid (sliceH s ms hs1)
  have HS5 := Lib.hid (sliceH (s.extract 0 ms) ms (by rw [cut_size s ms hs1]; exact Nat.le_refl _))
  rw [cut_again s ms hs1] at HS5
  have HM1 := Lib.hid hmn
  have HM2 := Lib.hid hmb
  have HM3 := Lib.hid hmu
  have HM4 := Lib.hid hms
  have HM5 := Lib.hid hms'
  have HN := Lib.hid (And.intro (And.intro hn1 hn2) (And.intro hb1 hb2))
  have HN2 := Lib.hid (And.intro (And.intro hu1 hu2) (And.intro hs1 hs2))
  have HOK := Lib.hid hok
  have KOK := Lib.hid kok
  have HGG := Lib.hid hG
  have hT := TB.new w 29 h A n c B m d
  have hk := (Kept.refl Nil w).alloc (.cells (tcs h A n c B m d).toArray 29)
  have hU : UB ((w.alloc (.cells (tcs h A n c B m d).toArray 29)).alloc (.cells (ucs k C p r).toArray 38)) (w.heap.size + 1) 38 k C p r := by simpa using UB.new (w.alloc (.cells (tcs h A n c B m d).toArray 29)) 38 k C p r
  have hk2 := (Kept.refl Nil (w.alloc (.cells (tcs h A n c B m d).toArray 29))).alloc (.cells (ucs k C p r).toArray 38)
  have HT := Lib.hid (hT.kept hk2 (fun hf => hf))
  have HU := Lib.hid hU
  have HK := Lib.hid (hk.then hk2)
  have HXO := Lib.hid hxo
  have HXB := Lib.hid hxb
  have HYB := Lib.hid hyb
  clear hn1 hn2 hn3 hb1 hb2 hb3 hu1 hu2 hu3 hs1 hs2 hs3 hms' hmn hmb hmu hms hok kok hxo hxb hyb q1 q2 q3 hT hk hU hk2 hG hs
  go_enter Tryd.func4, Tryd.ntmps4
  go_upto_region 1 with (fail)
  refine wp_nameE (fun W => TB W w.heap.size 29 h A n c B m d ∧ UB W (w.heap.size + 1) 38 k C p r ∧ Kept Nil w W) ⟨HT.out, HU.out, HK.out⟩ ?_
  clear HT HU HK
  rintro W ⟨hT, hU, hK⟩
  obtain ⟨g1, hg1⟩ : ∃ g, w.heap.size = g := ⟨_, rfl⟩
  obtain ⟨g2, hg2⟩ : ∃ g, w.heap.size + 1 = g := ⟨_, rfl⟩
  have HG := Lib.hid (show w.heap.size ≤ g1 ∧ w.heap.size ≤ g2 ∧ g1 ≠ g2 by omega)
  rw [hg2] at hU ⊢
  rw [hg1] at hT ⊢
  have HT := Lib.hid hT
  have HU := Lib.hid hU
  have HK := Lib.hid hK
  clear hT hU hK hg1 hg2
  refine wp_nameC2 fun A0 hA0 => ?_
  have HSZ : A0.tmps.size = 122 := by rw [hA0]; rfl
  have a2 : A0.eval (.tmp 2) = .string s := by rw [hA0]; rfl
  have a3 : A0.tmps.getD 3 undef = pAt g1 0 := by rw [hA0]; rfl
  have a4 : A0.tmps.getD 4 undef = pAt g2 0 := by rw [hA0]; rfl
  have HA0 := Lib.hid hA0
  clear hA0
  refine wp_region_posts 122 (cI [19, 20, 21, 22, 23, 24, 25, 26, 27, 28, 29, 30, 31, 32, 33, 34, 35, 36, 37, 38, 39, 40, 41, 42, 43, 44, 45, 46, 47, 2] 2 (.string s) (.string (s.extract 0 ms)) (tlK w g1 g2 h k) A0) (cR [(fun v => v = pAt g1 9), (fun v => v = .slice A n c), (fun v => v = pAt g1 9), (fun v => v = .slice A n c), (fun v => v = .int .i64 (n : Int)), (fun v => v = .int .i64 (mn : Int)), (fun v => v = .slice A mn c), (fun v => v = pAt g1 10), (fun v => v = .slice B m d), (fun v => v = pAt g1 10), (fun v => v = .slice B m d), (fun v => v = .int .i64 (m : Int)), (fun v => v = .int .i64 (mb : Int)), (fun v => v = .slice B mb d), (fun v => v = pAt g2 4), (fun v => v = .slice C p r), (fun v => v = pAt g2 4), (fun v => v = .slice C p r), (fun v => v = .int .i64 (p : Int)), (fun v => v = .int .i64 (mu : Int)), (fun v => v = .slice C mu r), (fun v => v = .string s ∨ v = .string (s.extract 0 ms)), (fun v => v = .string s ∨ v = .string (s.extract 0 ms)), (fun v => v = .int .i64 (s.size : Int) ∨ v = .int .i64 ((s.extract 0 ms).size : Int)), (fun v => v = .int .i64 (ms : Int)), (fun v => v = .string (s.extract 0 ms)), (fun v => v = pAt g1 9), (fun v => v = undef), (fun v => v = pAt g1 10), (fun v => v = undef), (fun v => v = pAt g2 4), (fun v => v = undef), (fun v => v = .string (s.extract 0 ms))] [⟨27, g1, 9, .slice A n c, .slice A mn c⟩, ⟨29, g1, 10, .slice B m d, .slice B mb d⟩, ⟨31, g2, 4, .slice C p r, .slice C mu r⟩]) (cU [⟨27, g1, 9, .slice A n c, .slice A mn c⟩, ⟨29, g1, 10, .slice B m d, .slice B mb d⟩, ⟨31, g2, 4, .slice C p r, .slice C mu r⟩]) (by kernel_rfl) (by kernel_rfl) (fun a u h => h.size.trans HSZ) (fun u hu => ⟨⟨rfl, rfl, fun _ _ => rfl, .inl a2, HK.out.then hu, ⟨_, _, _, _, _, _, HT.out.kept hu (fun hf => hf)⟩, _, _, _, HU.out.kept hu (fun hf => hf)⟩, fun j e he _ => by
    simp only [List.mem_cons, List.not_mem_nil, or_false] at he
    rcases he with rfl | rfl | rfl
    · exact (HT.out.kept hu (fun hf => hf)).cx
    · exact (HT.out.kept hu (fun hf => hf)).cb
    · exact (HU.out.kept hu (fun hf => hf)).cb⟩) ?_ ?_
  · refine ⟨?_, ?_, ?_, ?_, ?_, ?_, ?_, ?_, ?_, ?_, ?_, ?_, ?_, ?_, ?_, ?_, ?_, ?_, ?_, ?_, ?_, ?_, ?_, ?_, ?_, ?_, ?_, ?_, ?_, ?_, ?_, ?_, ?_, trivial⟩
    · intro a u hI hp hU
      have e0 : a.eval (.tmp 3) = pAt g1 0 := (hI.fr 3 (by decide)).trans a3
      exact c_pure hI (pAt g1 9) (exec_fa _ _ _ rfl e0 (fa_t9 _ _)) 19 rfl (by rfl) (by rfl) rfl (by rfl)
    · intro a u hI hp hU
      exact c_pure hI (.slice A n c) (exec_ld1 _ _ _ rfl (got hp ⟨0, .data⟩ (by simp) rfl 19 rfl).1 (c_old hU _ rfl ⟨⟨1, .phase⟩, by simp, rfl, rfl⟩ ⟨27, g1, 9, .slice A n c, .slice A mn c⟩ (by simp) rfl) Tryd.underlying22) 20 rfl (by rfl) (by rfl) rfl (by rfl)
    · intro a u hI hp hU
      have e0 : a.eval (.tmp 3) = pAt g1 0 := (hI.fr 3 (by decide)).trans a3
      exact c_pure hI (pAt g1 9) (exec_fa _ _ _ rfl e0 (fa_t9 _ _)) 21 rfl (by rfl) (by rfl) rfl (by rfl)
    · intro a u hI hp hU
      exact c_pure hI (.slice A n c) (exec_ld1 _ _ _ rfl (got hp ⟨2, .data⟩ (by simp) rfl 21 rfl).1 (c_old hU _ rfl ⟨⟨3, .phase⟩, by simp, rfl, rfl⟩ ⟨27, g1, 9, .slice A n c, .slice A mn c⟩ (by simp) rfl) Tryd.underlying22) 22 rfl (by rfl) (by rfl) rfl (by rfl)
    · intro a u hI hp hU
      exact c_pure hI (.int .i64 (n : Int)) (exec_len _ _ rfl (got hp ⟨3, .data⟩ (by simp) rfl 22 rfl).1 (ln_c _ _ _ _ _)) 23 rfl (by rfl) (by rfl) rfl (by rfl)
    · intro a u hI hp hU
      exact c_pure hI (.int .i64 (mn : Int)) (exec_min _ _ _ _ rfl (got hp ⟨4, .data⟩ (by simp) rfl 23 rfl).1 rfl (mn_c _ _ _ _ _ HM1.out)) 24 rfl (by rfl) (by rfl) rfl (by rfl)
    · intro a u hI hp hU
      exact c_pure hI (.slice A mn c) (exec_cut _ _ _ rfl Tryd.underlying22 (got hp ⟨1, .data⟩ (by simp) rfl 20 rfl).1 (got hp ⟨5, .data⟩ (by simp) rfl 24 rfl).1 (HS1.out u)) 25 rfl (by rfl) (by rfl) rfl (by rfl)
    · intro a u hI hp hU
      have e0 : a.eval (.tmp 3) = pAt g1 0 := (hI.fr 3 (by decide)).trans a3
      exact c_pure hI (pAt g1 10) (exec_fa _ _ _ rfl e0 (fa_t10 _ _)) 26 rfl (by rfl) (by rfl) rfl (by rfl)
    · intro a u hI hp hU
      exact c_pure hI (.slice B m d) (exec_ld1 _ _ _ rfl (got hp ⟨7, .data⟩ (by simp) rfl 26 rfl).1 (c_old hU _ rfl ⟨⟨8, .phase⟩, by simp, rfl, rfl⟩ ⟨29, g1, 10, .slice B m d, .slice B mb d⟩ (by simp) rfl) Tryd.underlying22) 27 rfl (by rfl) (by rfl) rfl (by rfl)
    · intro a u hI hp hU
      have e0 : a.eval (.tmp 3) = pAt g1 0 := (hI.fr 3 (by decide)).trans a3
      exact c_pure hI (pAt g1 10) (exec_fa _ _ _ rfl e0 (fa_t10 _ _)) 28 rfl (by rfl) (by rfl) rfl (by rfl)
    · intro a u hI hp hU
      exact c_pure hI (.slice B m d) (exec_ld1 _ _ _ rfl (got hp ⟨9, .data⟩ (by simp) rfl 28 rfl).1 (c_old hU _ rfl ⟨⟨10, .phase⟩, by simp, rfl, rfl⟩ ⟨29, g1, 10, .slice B m d, .slice B mb d⟩ (by simp) rfl) Tryd.underlying22) 29 rfl (by rfl) (by rfl) rfl (by rfl)
    · intro a u hI hp hU
      exact c_pure hI (.int .i64 (m : Int)) (exec_len _ _ rfl (got hp ⟨10, .data⟩ (by simp) rfl 29 rfl).1 (ln_c _ _ _ _ _)) 30 rfl (by rfl) (by rfl) rfl (by rfl)
    · intro a u hI hp hU
      exact c_pure hI (.int .i64 (mb : Int)) (exec_min _ _ _ _ rfl (got hp ⟨11, .data⟩ (by simp) rfl 30 rfl).1 rfl (mn_c _ _ _ _ _ HM2.out)) 31 rfl (by rfl) (by rfl) rfl (by rfl)
    · intro a u hI hp hU
      exact c_pure hI (.slice B mb d) (exec_cut _ _ _ rfl Tryd.underlying22 (got hp ⟨8, .data⟩ (by simp) rfl 27 rfl).1 (got hp ⟨12, .data⟩ (by simp) rfl 31 rfl).1 (HS2.out u)) 32 rfl (by rfl) (by rfl) rfl (by rfl)
    · intro a u hI hp hU
      have e0 : a.eval (.tmp 4) = pAt g2 0 := (hI.fr 4 (by decide)).trans a4
      exact c_pure hI (pAt g2 4) (exec_fa _ _ _ rfl e0 (fa_u4 _ _)) 33 rfl (by rfl) (by rfl) rfl (by rfl)
    · intro a u hI hp hU
      exact c_pure hI (.slice C p r) (exec_ld1 _ _ _ rfl (got hp ⟨14, .data⟩ (by simp) rfl 33 rfl).1 (c_old hU _ rfl ⟨⟨15, .phase⟩, by simp, rfl, rfl⟩ ⟨31, g2, 4, .slice C p r, .slice C mu r⟩ (by simp) rfl) Tryd.underlying22) 34 rfl (by rfl) (by rfl) rfl (by rfl)
    · intro a u hI hp hU
      have e0 : a.eval (.tmp 4) = pAt g2 0 := (hI.fr 4 (by decide)).trans a4
      exact c_pure hI (pAt g2 4) (exec_fa _ _ _ rfl e0 (fa_u4 _ _)) 35 rfl (by rfl) (by rfl) rfl (by rfl)
    · intro a u hI hp hU
      exact c_pure hI (.slice C p r) (exec_ld1 _ _ _ rfl (got hp ⟨16, .data⟩ (by simp) rfl 35 rfl).1 (c_old hU _ rfl ⟨⟨17, .phase⟩, by simp, rfl, rfl⟩ ⟨31, g2, 4, .slice C p r, .slice C mu r⟩ (by simp) rfl) Tryd.underlying22) 36 rfl (by rfl) (by rfl) rfl (by rfl)
    · intro a u hI hp hU
      exact c_pure hI (.int .i64 (p : Int)) (exec_len _ _ rfl (got hp ⟨17, .data⟩ (by simp) rfl 36 rfl).1 (ln_c _ _ _ _ _)) 37 rfl (by rfl) (by rfl) rfl (by rfl)
    · intro a u hI hp hU
      exact c_pure hI (.int .i64 (mu : Int)) (exec_min _ _ _ _ rfl (got hp ⟨18, .data⟩ (by simp) rfl 37 rfl).1 rfl (mn_c _ _ _ _ _ HM3.out)) 38 rfl (by rfl) (by rfl) rfl (by rfl)
    · intro a u hI hp hU
      exact c_pure hI (.slice C mu r) (exec_cut _ _ _ rfl Tryd.underlying22 (got hp ⟨15, .data⟩ (by simp) rfl 34 rfl).1 (got hp ⟨19, .data⟩ (by simp) rfl 38 rfl).1 (HS3.out u)) 39 rfl (by rfl) (by rfl) rfl (by rfl)
    · intro a u hI hp hU
      rcases hI.mv with e | e
      · exact c_pure hI (.string s) (exec_mv2 _ rfl e) 40 rfl (by rfl) (by rfl) (.inl rfl) (by rfl)
      · exact c_pure hI (.string (s.extract 0 ms)) (exec_mv2 _ rfl e) 40 rfl (by rfl) (by rfl) (.inr rfl) (by rfl)
    · intro a u hI hp hU
      rcases hI.mv with e | e
      · exact c_pure hI (.string s) (exec_mv2 _ rfl e) 41 rfl (by rfl) (by rfl) (.inl rfl) (by rfl)
      · exact c_pure hI (.string (s.extract 0 ms)) (exec_mv2 _ rfl e) 41 rfl (by rfl) (by rfl) (.inr rfl) (by rfl)
    · intro a u hI hp hU
      rcases (got hp ⟨22, .data⟩ (by simp) rfl 41 rfl).1 with e | e
      · exact c_pure hI (.int .i64 (s.size : Int)) (exec_len2 _ _ rfl e (ln_t _ _ _)) 42 rfl (by rfl) (by rfl) (.inl rfl) (by rfl)
      · exact c_pure hI (.int .i64 ((s.extract 0 ms).size : Int)) (exec_len2 _ _ rfl e (ln_t _ _ _)) 42 rfl (by rfl) (by rfl) (.inr rfl) (by rfl)
    · intro a u hI hp hU
      rcases (got hp ⟨23, .data⟩ (by simp) rfl 42 rfl).1 with e | e
      · exact c_pure hI (.int .i64 (ms : Int)) (exec_min _ _ _ _ rfl e rfl (mn_c _ _ _ _ _ HM4.out)) 43 rfl (by rfl) (by rfl) rfl (by rfl)
      · exact c_pure hI (.int .i64 (ms : Int)) (exec_min _ _ _ _ rfl e rfl (mn_c _ _ _ _ _ HM5.out)) 43 rfl (by rfl) (by rfl) rfl (by rfl)
    · intro a u hI hp hU
      rcases (got hp ⟨21, .data⟩ (by simp) rfl 40 rfl).1 with e | e
      · exact c_pure hI (.string (s.extract 0 ms)) (exec_cutS _ _ _ rfl Tryd.underlying9 e (got hp ⟨24, .data⟩ (by simp) rfl 43 rfl).1 (HS4.out u)) 44 rfl (by rfl) (by rfl) rfl (by rfl)
      · exact c_pure hI (.string (s.extract 0 ms)) (exec_cutS _ _ _ rfl Tryd.underlying9 e (got hp ⟨24, .data⟩ (by simp) rfl 43 rfl).1 (HS5.out u)) 44 rfl (by rfl) (by rfl) rfl (by rfl)
    · intro a u hI hp hU
      have e0 : a.eval (.tmp 3) = pAt g1 0 := (hI.fr 3 (by decide)).trans a3
      exact c_pure hI (pAt g1 9) (exec_fa _ _ _ rfl e0 (fa_t9 _ _)) 45 rfl (by rfl) (by rfl) rfl (by rfl)
    · intro a u hI hp hU
      obtain ⟨hk1, ⟨A2, n2, c2, B2, m2, d2, hb⟩, hu2⟩ := hI.inv
      refine c_st hI _ _ _ rfl rfl (got hp ⟨26, .data⟩ (by simp) rfl 45 rfl).1 (got hp ⟨6, .data⟩ (by simp) rfl 25 rfl).1 rfl rfl infBs hb (by rw [tcs_len]; decide) ?_ rfl fun u' hbl hk hz => ?_
      · intro e he
        simp only [List.mem_cons, List.not_mem_nil, or_false] at he
        rcases he with rfl | rfl | rfl
        · exact .inl ⟨rfl, rfl, rfl, rfl⟩
        · exact .inr ⟨by show (29 : Nat) ≠ 27; decide, .inr (by show (9 : Nat) ≠ 10; decide)⟩
        · exact .inr ⟨by show (31 : Nat) ≠ 27; decide, .inl HG.out.2.2⟩
      · exact ⟨hk1.fresh hk (fun i hi => by cases hi; exact HG.out.1), ⟨A, mn, c, B2, m2, d2, hbl⟩, by obtain ⟨B3, m3, d3, hb3⟩ := hu2; exact ⟨B3, m3, d3, hb3.kept hk (fun hf => HG.out.2.2 hf.symm)⟩⟩
    · intro a u hI hp hU
      have e0 : a.eval (.tmp 3) = pAt g1 0 := (hI.fr 3 (by decide)).trans a3
      exact c_pure hI (pAt g1 10) (exec_fa _ _ _ rfl e0 (fa_t10 _ _)) 46 rfl (by rfl) (by rfl) rfl (by rfl)
    · intro a u hI hp hU
      obtain ⟨hk1, ⟨A2, n2, c2, B2, m2, d2, hb⟩, hu2⟩ := hI.inv
      refine c_st hI _ _ _ rfl rfl (got hp ⟨28, .data⟩ (by simp) rfl 46 rfl).1 (got hp ⟨13, .data⟩ (by simp) rfl 32 rfl).1 rfl rfl infBs hb (by rw [tcs_len]; decide) ?_ rfl fun u' hbl hk hz => ?_
      · intro e he
        simp only [List.mem_cons, List.not_mem_nil, or_false] at he
        rcases he with rfl | rfl | rfl
        · exact .inr ⟨by show (27 : Nat) ≠ 29; decide, .inr (by show (10 : Nat) ≠ 9; decide)⟩
        · exact .inl ⟨rfl, rfl, rfl, rfl⟩
        · exact .inr ⟨by show (31 : Nat) ≠ 29; decide, .inl HG.out.2.2⟩
      · exact ⟨hk1.fresh hk (fun i hi => by cases hi; exact HG.out.1), ⟨A2, n2, c2, B, mb, d, hbl⟩, by obtain ⟨B3, m3, d3, hb3⟩ := hu2; exact ⟨B3, m3, d3, hb3.kept hk (fun hf => HG.out.2.2 hf.symm)⟩⟩
    · intro a u hI hp hU
      have e0 : a.eval (.tmp 4) = pAt g2 0 := (hI.fr 4 (by decide)).trans a4
      exact c_pure hI (pAt g2 4) (exec_fa _ _ _ rfl e0 (fa_u4 _ _)) 47 rfl (by rfl) (by rfl) rfl (by rfl)
    · intro a u hI hp hU
      obtain ⟨hk1, ht2, ⟨B2, m2, d2, hb⟩⟩ := hI.inv
      refine c_st hI _ _ _ rfl rfl (got hp ⟨30, .data⟩ (by simp) rfl 47 rfl).1 (got hp ⟨20, .data⟩ (by simp) rfl 39 rfl).1 rfl rfl infBs hb (by rw [ucs_len]; decide) ?_ rfl fun u' hbl hk hz => ?_
      · intro e he
        simp only [List.mem_cons, List.not_mem_nil, or_false] at he
        rcases he with rfl | rfl | rfl
        · exact .inr ⟨by show (27 : Nat) ≠ 31; decide, .inl (Ne.symm HG.out.2.2)⟩
        · exact .inr ⟨by show (29 : Nat) ≠ 31; decide, .inl (Ne.symm HG.out.2.2)⟩
        · exact .inl ⟨rfl, rfl, rfl, rfl⟩
      · exact ⟨hk1.fresh hk (fun i hi => by cases hi; exact HG.out.2.1), by obtain ⟨A3, n3, c3, B3, m3, d3, hb3⟩ := ht2; exact ⟨A3, n3, c3, B3, m3, d3, hb3.kept hk (fun hf => HG.out.2.2 hf)⟩, C, mu, r, hbl⟩
    · intro a u hI hp hU
      exact c_mv hI (exec_as2 _ rfl (got hp ⟨25, .data⟩ (by simp) rfl 44 rfl).1) rfl (by rfl) (by rw [HSZ]; decide) rfl (by rfl)
  · intro a u hI hR
    obtain ⟨hk1, ⟨A2, n2, c2, B2, m2, d2, hb⟩, ⟨C2, p2, r2, hu⟩⟩ := hI.inv
    have z27 := (hR 27 _ rfl).2 ⟨27, g1, 9, .slice A n c, .slice A mn c⟩ (by simp) rfl
    dsimp only at z27
    rw [hb.cx] at z27
    injection z27 with z27
    injection z27 with y1 y2 y3
    replace y1 := y1.symm
    replace y2 := y2.symm
    replace y3 := y3.symm
    subst y1 y2 y3
    have z29 := (hR 29 _ rfl).2 ⟨29, g1, 10, .slice B m d, .slice B mb d⟩ (by simp) rfl
    dsimp only at z29
    rw [hb.cb] at z29
    injection z29 with z29
    injection z29 with y1 y2 y3
    replace y1 := y1.symm
    replace y2 := y2.symm
    replace y3 := y3.symm
    subst y1 y2 y3
    have z31 := (hR 31 _ rfl).2 ⟨31, g2, 4, .slice C p r, .slice C mu r⟩ (by simp) rfl
    dsimp only at z31
    rw [hu.cb] at z31
    injection z31 with z31
    injection z31 with y1 y2 y3
    replace y1 := y1.symm
    replace y2 := y2.symm
    replace y3 := y3.symm
    subst y1 y2 y3
    have e19 : a.tmps.getD 19 undef = pAt g1 9 := (hR 0 _ rfl).1
    have e20 : a.tmps.getD 20 undef = .slice A n c := (hR 1 _ rfl).1
    have e21 : a.tmps.getD 21 undef = pAt g1 9 := (hR 2 _ rfl).1
    have e22 : a.tmps.getD 22 undef = .slice A n c := (hR 3 _ rfl).1
    have e23 : a.tmps.getD 23 undef = .int .i64 (n : Int) := (hR 4 _ rfl).1
    have e24 : a.tmps.getD 24 undef = .int .i64 (mn : Int) := (hR 5 _ rfl).1
    have e25 : a.tmps.getD 25 undef = .slice A mn c := (hR 6 _ rfl).1
    have e26 : a.tmps.getD 26 undef = pAt g1 10 := (hR 7 _ rfl).1
    have e27 : a.tmps.getD 27 undef = .slice B m d := (hR 8 _ rfl).1
    have e28 : a.tmps.getD 28 undef = pAt g1 10 := (hR 9 _ rfl).1
    have e29 : a.tmps.getD 29 undef = .slice B m d := (hR 10 _ rfl).1
    have e30 : a.tmps.getD 30 undef = .int .i64 (m : Int) := (hR 11 _ rfl).1
    have e31 : a.tmps.getD 31 undef = .int .i64 (mb : Int) := (hR 12 _ rfl).1
    have e32 : a.tmps.getD 32 undef = .slice B mb d := (hR 13 _ rfl).1
    have e33 : a.tmps.getD 33 undef = pAt g2 4 := (hR 14 _ rfl).1
    have e34 : a.tmps.getD 34 undef = .slice C p r := (hR 15 _ rfl).1
    have e35 : a.tmps.getD 35 undef = pAt g2 4 := (hR 16 _ rfl).1
    have e36 : a.tmps.getD 36 undef = .slice C p r := (hR 17 _ rfl).1
    have e37 : a.tmps.getD 37 undef = .int .i64 (p : Int) := (hR 18 _ rfl).1
    have e38 : a.tmps.getD 38 undef = .int .i64 (mu : Int) := (hR 19 _ rfl).1
    have e39 : a.tmps.getD 39 undef = .slice C mu r := (hR 20 _ rfl).1
    obtain ⟨z40, e40⟩ : ∃ v, a.tmps.getD 40 undef = v := ⟨_, rfl⟩
    obtain ⟨z41, e41⟩ : ∃ v, a.tmps.getD 41 undef = v := ⟨_, rfl⟩
    obtain ⟨z42, e42⟩ : ∃ v, a.tmps.getD 42 undef = v := ⟨_, rfl⟩
    have e43 : a.tmps.getD 43 undef = .int .i64 (ms : Int) := (hR 24 _ rfl).1
    have e44 : a.tmps.getD 44 undef = .string (s.extract 0 ms) := (hR 25 _ rfl).1
    have e45 : a.tmps.getD 45 undef = pAt g1 9 := (hR 26 _ rfl).1
    have e46 : a.tmps.getD 46 undef = pAt g1 10 := (hR 28 _ rfl).1
    have e47 : a.tmps.getD 47 undef = pAt g2 4 := (hR 30 _ rfl).1
    have e2 : a.tmps.getD 2 undef = .string (s.extract 0 ms) := (hR 32 _ rfl).1
    have ha := act_eq a A0 [(19, pAt g1 9), (20, .slice A n c), (21, pAt g1 9), (22, .slice A n c), (23, .int .i64 (n : Int)), (24, .int .i64 (mn : Int)), (25, .slice A mn c), (26, pAt g1 10), (27, .slice B m d), (28, pAt g1 10), (29, .slice B m d), (30, .int .i64 (m : Int)), (31, .int .i64 (mb : Int)), (32, .slice B mb d), (33, pAt g2 4), (34, .slice C p r), (35, pAt g2 4), (36, .slice C p r), (37, .int .i64 (p : Int)), (38, .int .i64 (mu : Int)), (39, .slice C mu r), (40, z40), (41, z41), (42, z42), (43, .int .i64 (ms : Int)), (44, .string (s.extract 0 ms)), (45, pAt g1 9), (46, pAt g1 10), (47, pAt g2 4), (2, .string (s.extract 0 ms))] hI.size hI.defs (show ([19, 20, 21, 22, 23, 24, 25, 26, 27, 28, 29, 30, 31, 32, 33, 34, 35, 36, 37, 38, 39, 40, 41, 42, 43, 44, 45, 46, 47, 2] : List Nat).Nodup by decide) (fun p hp => by
      rw [HSZ]
      have h1 : p.1 ∈ [19, 20, 21, 22, 23, 24, 25, 26, 27, 28, 29, 30, 31, 32, 33, 34, 35, 36, 37, 38, 39, 40, 41, 42, 43, 44, 45, 46, 47, 2] := List.mem_map_of_mem (f := Prod.fst) hp
      simp at h1
      omega) (fun p hp => by
      simp only [List.mem_cons, List.not_mem_nil, or_false] at hp
      rcases hp with rfl | rfl | rfl | rfl | rfl | rfl | rfl | rfl | rfl | rfl | rfl | rfl | rfl | rfl | rfl | rfl | rfl | rfl | rfl | rfl | rfl | rfl | rfl | rfl | rfl | rfl | rfl | rfl | rfl | rfl
      · exact e19
      · exact e20
      · exact e21
      · exact e22
      · exact e23
      · exact e24
      · exact e25
      · exact e26
      · exact e27
      · exact e28
      · exact e29
      · exact e30
      · exact e31
      · exact e32
      · exact e33
      · exact e34
      · exact e35
      · exact e36
      · exact e37
      · exact e38
      · exact e39
      · exact e40
      · exact e41
      · exact e42
      · exact e43
      · exact e44
      · exact e45
      · exact e46
      · exact e47
      · exact e2
      ) (fun d hd => hI.fr d hd)
    have HT := Lib.hid (show TB u g1 29 { h with x := h.x.take mn, b := h.b.take mb } A mn c B mb d from hb)
    have HU := Lib.hid (show UB u g2 38 { k with b := k.b.take mu } C mu r from hu)
    have HK := Lib.hid hk1
    have HXO := Lib.hid ((HXO.out.pre HN.out.1.1).kept hk1 (fun _ _ hf => hf))
    have HXB := Lib.hid ((HXB.out.pre HN.out.2.1).kept hk1 (fun _ _ hf => hf))
    have HYB := Lib.hid ((HYB.out.pre HN2.out.1.1).kept hk1 (fun _ _ hf => hf))
    have HOK := Lib.hid (show Tc.ok { h with x := h.x.take mn, b := h.b.take mb } from ⟨HOK.out.f, HOK.out.t, HOK.out.s, HOK.out.a, HOK.out.o, HOK.out.g, HOK.out.w, HOK.out.c, HOK.out.u⟩)
    have KOK := Lib.hid (show Ud.ok { k with b := k.b.take mu } from ⟨KOK.out.f, KOK.out.t, KOK.out.n, KOK.out.c⟩)
    have HXX := Lib.hid (show ({ h with x := h.x.take mn, b := h.b.take mb } : Tc).x = h.x.take mn ∧ ({ h with x := h.x.take mn, b := h.b.take mb } : Tc).b = h.b.take mb ∧ ({ k with b := k.b.take mu } : Ud).b = k.b.take mu from ⟨rfl, rfl, rfl⟩)
    generalize ({ h with x := h.x.take mn, b := h.b.take mb } : Tc) = H at HT HOK HXX
    generalize ({ k with b := k.b.take mu } : Ud) = J at HU KOK HXX
    rw [← HXX.out.1] at HXO
    rw [← HXX.out.2.1] at HXB
    rw [← HXX.out.2.2] at HYB
    have HTZ := Lib.hid (cut_size s ms HN2.out.2.1)
    have hm60 := HN2.out.2.2
    generalize s.extract 0 ms = S at *
    clear hI hR hb hu hk1 e19 e20 e21 e22 e23 e24 e25 e26 e27 e28 e29 e30 e31 e32 e33 e34 e35 e36 e37 e38 e39 e40 e41 e42 e43 e44 e45 e46 e47 e2 HS1 HS2 HS3 HS4 HS5 HM1 HM2 HM3 HM4 HM5 HXX a3 a4 HSZ
    subst ha
    have hA := HA0.out
    clear HA0 a2
    subst hA
    unfold pAt
    simp only [List.foldl_cons, List.foldl_nil, Act.put, List.setIfInBounds_toArray, List.set_cons_succ, List.set_cons_zero]
    have CT := Lib.hid (fun w hx hb => tbytes_yes H HOK.out A mn c B mb d w hx hb (by have := HN.out.1.2; omega) (by have := HN.out.2.2; omega))
    have CQ := Lib.hid (fun w hx hb => qtbytes_yes H HOK.out A mn c B mb d w hx hb (by have := HN.out.1.2; omega) (by have := HN.out.2.2; omega))
    have CU := Lib.hid (fun w hb => ubytes_yes J KOK.out C mu r w hb (by have := HN2.out.1.2; omega))
    have CV := Lib.hid (fun w hb => qubytes_yes J KOK.out C mu r w hb (by have := HN2.out.1.2; omega))
    have CP := Lib.hid (fun w hn => tparse_yes S (by have := HTZ.out; omega) w hn)
    have CR := Lib.hid (fun w => qparse_yes S (by have := HTZ.out; omega) w)
    have hfl : (flagP S.data.toList).1 < 256 := by
      have := flagP_len S.data.toList
      by_cases h0 : (flagP S.data.toList).2 = 0
      · exact (this.1 h0).1
      · rw [this.2 h0]; decide
    generalize tellT H = RT at *
    generalize tellU J = RU at *
    generalize flagP S.data.toList = RP at *
    obtain ⟨R1, R2⟩ := RT
    obtain ⟨U1, U2⟩ := RU
    obtain ⟨N1, N2⟩ := RP
    dsimp only at hfl CP CR
    clear hm60
    go_wp2_with (first
      | (refine wpList_ld rfl _ _ rfl g1 0 rfl (tcs H A mn c B mb d) HT.out.all _ Tryd.underlying29 rfl (infTc _ _ _ _ _ _ _) ?_; simp only [Act.put, List.setIfInBounds_toArray, List.set_cons_succ, List.set_cons_zero])
      | fail)
    refine (CT.out _ HXO.out HXB.out).mono ?_
    rintro e u2 ⟨v, rfl, hmd⟩
    obtain ⟨D2, f2, rfl, hy, _⟩ := byt_own hmd
    dsimp only at hy ⊢
    have HT := Lib.hid (HT.out.kept hmd.2 (fun hf => hf))
    have HU := Lib.hid (HU.out.kept hmd.2 (fun hf => hf))
    have HXO := Lib.hid (HXO.out.kept hmd.2 (fun _ _ hf => hf))
    have HXB := Lib.hid (HXB.out.kept hmd.2 (fun _ _ hf => hf))
    have HYB := Lib.hid (HYB.out.kept hmd.2 (fun _ _ hf => hf))
    have HK := Lib.hid (HK.out.then hmd.2)
    have HS2 := Lib.hid hy
    clear hmd hy
    go_wp2_with (first
      | (refine wpList_ld rfl _ _ rfl g1 0 rfl (tcs H A mn c B mb d) HT.out.all _ Tryd.underlying29 rfl (infTc _ _ _ _ _ _ _) ?_; simp only [Act.put, List.setIfInBounds_toArray, List.set_cons_succ, List.set_cons_zero])
      | fail)
    refine (oft_yes H HOK.out A mn c B mb d _).mono ?_
    rintro e u3 ⟨rfl, hk⟩
    dsimp only
    have HT := Lib.hid (HT.out.kept hk (fun hf => hf))
    have HU := Lib.hid (HU.out.kept hk (fun hf => hf))
    have HXO := Lib.hid (HXO.out.kept hk (fun _ _ hf => hf))
    have HXB := Lib.hid (HXB.out.kept hk (fun _ _ hf => hf))
    have HYB := Lib.hid (HYB.out.kept hk (fun _ _ hf => hf))
    have HS2 := Lib.hid (HS2.out.kept hk (fun _ _ hf => hf))
    have HK := Lib.hid (HK.out.then hk)
    clear hk
    go_wp2_with (fail)
    refine (CQ.out _ HXO.out HXB.out).mono ?_
    rintro e u4 ⟨v, rfl, hmd⟩
    obtain ⟨D4, f4, rfl, hy, _⟩ := byt_own hmd
    dsimp only at hy ⊢
    have HT := Lib.hid (HT.out.kept hmd.2 (fun hf => hf))
    have HU := Lib.hid (HU.out.kept hmd.2 (fun hf => hf))
    have HXO := Lib.hid (HXO.out.kept hmd.2 (fun _ _ hf => hf))
    have HXB := Lib.hid (HXB.out.kept hmd.2 (fun _ _ hf => hf))
    have HYB := Lib.hid (HYB.out.kept hmd.2 (fun _ _ hf => hf))
    have HS2 := Lib.hid (HS2.out.kept hmd.2 (fun _ _ hf => hf))
    have HK := Lib.hid (HK.out.then hmd.2)
    have HS4 := Lib.hid hy
    clear hmd hy
    go_wp2_with (first
      | (refine wpList_ld rfl _ _ rfl g2 0 rfl (ucs J C mu r) HU.out.all _ Tryd.underlying38 rfl (infUc _ _ _ _) ?_; simp only [Act.put, List.setIfInBounds_toArray, List.set_cons_succ, List.set_cons_zero])
      | fail)
    refine (CU.out _ HYB.out).mono ?_
    rintro e u5 ⟨v, rfl, hmd⟩
    obtain ⟨D5, f5, rfl, hy, _⟩ := byt_own hmd
    dsimp only at hy ⊢
    have HT := Lib.hid (HT.out.kept hmd.2 (fun hf => hf))
    have HU := Lib.hid (HU.out.kept hmd.2 (fun hf => hf))
    have HXO := Lib.hid (HXO.out.kept hmd.2 (fun _ _ hf => hf))
    have HXB := Lib.hid (HXB.out.kept hmd.2 (fun _ _ hf => hf))
    have HYB := Lib.hid (HYB.out.kept hmd.2 (fun _ _ hf => hf))
    have HS2 := Lib.hid (HS2.out.kept hmd.2 (fun _ _ hf => hf))
    have HS4 := Lib.hid (HS4.out.kept hmd.2 (fun _ _ hf => hf))
    have HK := Lib.hid (HK.out.then hmd.2)
    have HS5 := Lib.hid hy
    clear hmd hy
    go_wp2_with (first
      | (refine wpList_ld rfl _ _ rfl g2 0 rfl (ucs J C mu r) HU.out.all _ Tryd.underlying38 rfl (infUc _ _ _ _) ?_; simp only [Act.put, List.setIfInBounds_toArray, List.set_cons_succ, List.set_cons_zero])
      | fail)
    refine (ofu_yes J KOK.out C mu r _).mono ?_
    rintro e u6 ⟨rfl, hk⟩
    dsimp only
    have HT := Lib.hid (HT.out.kept hk (fun hf => hf))
    have HU := Lib.hid (HU.out.kept hk (fun hf => hf))
    have HXO := Lib.hid (HXO.out.kept hk (fun _ _ hf => hf))
    have HXB := Lib.hid (HXB.out.kept hk (fun _ _ hf => hf))
    have HYB := Lib.hid (HYB.out.kept hk (fun _ _ hf => hf))
    have HS2 := Lib.hid (HS2.out.kept hk (fun _ _ hf => hf))
    have HS4 := Lib.hid (HS4.out.kept hk (fun _ _ hf => hf))
    have HS5 := Lib.hid (HS5.out.kept hk (fun _ _ hf => hf))
    have HK := Lib.hid (HK.out.then hk)
    clear hk
    go_wp2_with (fail)
    refine (CV.out _ HYB.out).mono ?_
    rintro e u7 ⟨v, rfl, hmd⟩
    obtain ⟨D7, f7, rfl, hy, _⟩ := byt_own hmd
    dsimp only at hy ⊢
    have HT := Lib.hid (HT.out.kept hmd.2 (fun hf => hf))
    have HU := Lib.hid (HU.out.kept hmd.2 (fun hf => hf))
    have HXO := Lib.hid (HXO.out.kept hmd.2 (fun _ _ hf => hf))
    have HXB := Lib.hid (HXB.out.kept hmd.2 (fun _ _ hf => hf))
    have HYB := Lib.hid (HYB.out.kept hmd.2 (fun _ _ hf => hf))
    have HS2 := Lib.hid (HS2.out.kept hmd.2 (fun _ _ hf => hf))
    have HS4 := Lib.hid (HS4.out.kept hmd.2 (fun _ _ hf => hf))
    have HS5 := Lib.hid (HS5.out.kept hmd.2 (fun _ _ hf => hf))
    have HK := Lib.hid (HK.out.then hmd.2)
    have HS7 := Lib.hid hy
    clear hmd hy
    go_wp2_with (fail)
    refine (CP.out _ (HGG.out.kept HK.out).nm).mono ?_
    rintro e u8 ⟨rfl, hk⟩
    dsimp only
    have HT := Lib.hid (HT.out.kept hk (fun hf => hf))
    have HU := Lib.hid (HU.out.kept hk (fun hf => hf))
    have HXO := Lib.hid (HXO.out.kept hk (fun _ _ hf => hf))
    have HXB := Lib.hid (HXB.out.kept hk (fun _ _ hf => hf))
    have HYB := Lib.hid (HYB.out.kept hk (fun _ _ hf => hf))
    have HS2 := Lib.hid (HS2.out.kept hk (fun _ _ hf => hf))
    have HS4 := Lib.hid (HS4.out.kept hk (fun _ _ hf => hf))
    have HS5 := Lib.hid (HS5.out.kept hk (fun _ _ hf => hf))
    have HS7 := Lib.hid (HS7.out.kept hk (fun _ _ hf => hf))
    have HK := Lib.hid (HK.out.then hk)
    clear hk
    go_wp2_with (fail)
    refine (CR.out _).mono ?_
    rintro e u9 ⟨rfl, hk⟩
    dsimp only
    have HT := Lib.hid (HT.out.kept hk (fun hf => hf))
    have HU := Lib.hid (HU.out.kept hk (fun hf => hf))
    have HXO := Lib.hid (HXO.out.kept hk (fun _ _ hf => hf))
    have HXB := Lib.hid (HXB.out.kept hk (fun _ _ hf => hf))
    have HYB := Lib.hid (HYB.out.kept hk (fun _ _ hf => hf))
    have HS2 := Lib.hid (HS2.out.kept hk (fun _ _ hf => hf))
    have HS4 := Lib.hid (HS4.out.kept hk (fun _ _ hf => hf))
    have HS5 := Lib.hid (HS5.out.kept hk (fun _ _ hf => hf))
    have HS7 := Lib.hid (HS7.out.kept hk (fun _ _ hf => hf))
    have HK := Lib.hid (HK.out.then hk)
    clear hk
    go_wp2_with (fail)
    have hgl := HOK.out.g
    have cg := fun dr os => cell_regrown HT.out.cg dr os
    have hq1 : ∀ dr os, Calls Tryd.prog 22 #[.slice D2 R1.length f2, .slice D4 R1.length f4] (grow (redrawn u9 dr) os) fun e w' => e = .returned (.bool true) ∧ grow (redrawn u9 dr) os = w' := fun dr os => by
      have := equal _ _ _ _ _ _ _ _ _ (HS2.out.kept (kept_grown' u9 dr os) (fun _ _ hf => hf)) (HS4.out.kept (kept_grown' u9 dr os) (fun _ _ hf => hf))
      rw [beq_self_eq_true] at this
      exact this
    have hq2 : ∀ dr os, Calls Tryd.prog 22 #[.slice D5 U1.length f5, .slice D7 U1.length f7] (grow (redrawn u9 dr) os) fun e w' => e = .returned (.bool true) ∧ grow (redrawn u9 dr) os = w' := fun dr os => by
      have := equal _ _ _ _ _ _ _ _ _ (HS5.out.kept (kept_grown' u9 dr os) (fun _ _ hf => hf)) (HS7.out.kept (kept_grown' u9 dr os) (fun _ _ hf => hf))
      rw [beq_self_eq_true] at this
      exact this
    have ht1 := fun dr os => ttext_yes H.g hgl (grow (redrawn u9 dr) os) (((HGG.out.kept HK.out).kept (kept_grown' u9 dr os)).nm)
    have ht2 := fun w => qtext_yes H.g hgl w
    generalize flagT H.g = FT at *
    have hfe : ((⟨FT.toArray⟩ : ByteArray).toList == (⟨FT.toArray⟩ : ByteArray).toList) = true := beq_self_eq_true _
    refine wp_region_quiet_below (by kernel_rfl) (by kernel_rfl) ?_
    repeat (go_big_quiet_step (first | with_reducible exact quietS (hq1 _ _) | with_reducible exact quietS (hq2 _ _) | with_reducible exact quietK (ht1 _ _) | with_reducible exact quietK (ht2 _) | with_reducible exact quietK (twakes_yes _ ((HGG.out.kept HK.out).kept (kept_grown' _ _ _)).nm)))
    refine wpQuiet_nil ?_
    rintro wz ⟨nq, hw⟩
    have HKz := Lib.hid (HK.out.then (show Kept Nil u9 wz by rw [hw]; exact kept_grown _ _))
    clear hw
    go_wp2
    go_ret
    exact ⟨rfl, HKz.out.below (Nat.le_refl _) (fun _ hf => hf.elim)⟩
end Go.Proofs.YthjbabkmjmfmjaaDoor
