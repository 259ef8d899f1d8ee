/- tolllaw08.IcmpGets: the walk. -/
import Derived.Test.YtkpelaojjfcpfaaIcF
import Derived.Test.YtkpelaojjfcpfaaIcG
import Derived.Test.YtkpelaojjfcpfaaIcI
import Derived.Test.YtkpelaojjfcpfaaIcK
import Derived.Test.YtkpelaojjfcpfaaOwnB
import Derived.Laws.OwnMore
namespace Go.Proofs.Ytkpelaojjfcpfaa
open Go.RowKit Go.Sort
set_option linter.unusedVariables false

/-- A message that was told, and where it stands: all of it at B and above. -/
structure MRes (B : Nat) (w : World) (g : Nat) (F : Ms) (A1 : Option Addr) (n1 c1 : Nat) : Prop where
  h : MB w g 25 F A1 n1 c1
  x : Byt w A1 n1 c1 F.b
  gl : B ≤ g
  xl : ∀ i, Lies A1 n1 i → B ≤ i
theorem MRes.kept {B : Nat} {w w' : World} {g : Nat} {F : Ms} {A1 : Option Addr} {n1 c1 : Nat} (r : MRes B w g F A1 n1 c1) (k : Kept Nil w w') : MRes B w' g F A1 n1 c1 :=
  ⟨r.h.kept k (fun hf => hf), r.x.kept k (fun _ _ hf => hf), r.gl, r.xl⟩
theorem MRes.far {B : Nat} {w w' : World} {g : Nat} {F : Ms} {A1 : Option Addr} {n1 c1 : Nat} {b : Nat} (r : MRes B w g F A1 n1 c1) (k : Kept (One b) w w') (hb : b < B) : MRes B w' g F A1 n1 c1 :=
  ⟨r.h.kept k (fun hf => by have := r.gl; unfold One at hf; omega), r.x.kept k (fun i hi hf => by have := r.xl i hi; unfold One at hf; omega), r.gl, r.xl⟩
theorem MRes.of {B : Nat} {w0 w1 w2 : World} {F : Ms} {A1 : Option Addr} {n1 c1 : Nat} (hB : B ≤ w0.heap.size) (h1 : NewB w0 w1 A1 n1 c1 F.b) (hk : Kept Nil w0 w1) (hb : MB w2 w1.heap.size 25 F A1 n1 c1) (k : Kept Nil w1 w2) : MRes B w2 w1.heap.size F A1 n1 c1 :=
  ⟨hb, h1.1.kept k (fun _ _ hf => hf), Nat.le_trans hB hk.size, fun i hi => Nat.le_trans hB (h1.2 i hi)⟩
set_option maxRecDepth 100000 in
set_option maxHeartbeats 16000000 in
theorem igets_yes (A : Option Addr) (n c : Nat) (bl : List UInt8) (w : World) (h : Byt w A n c bl) :
    Calls Try.prog 3 #[.slice A n c] w fun e w' => e = .returned (.bool true) ∧ Below w.heap.size w w' := by
  have hnc := h.2.1
  obtain ⟨m, hm, hm1, hm2⟩ : ∃ m : Nat, (if (300 : Int) < (n : Int) then (300 : Int) else (n : Int)) = (m : Int) ∧ m ≤ n ∧ m ≤ 300 := ⟨min n 300, by split <;> omega, by omega, by omega⟩
  have hmn : min (n : Int) 300 = (m : Int) := by rw [← hm]; split <;> omega
  have hsl := run_cut_hi (P := Try.prog) Try.underlying22 inf5.1 A n c m (m : Int) rfl (by omega)
  have HBY := Lib.hid (h.pre hm1)
  have HM := Lib.hid (And.intro hm2 (show m ≤ c by omega))
  generalize bl.take m = l at *
  clear h hm1 hm2 hnc
  have CG := Lib.hid (fun B d w hb => icget_yes B m d l w hb (by have := HM.out.1; omega))
  have RG := Lib.hid (fun w hb => icref_yes A m c l w hb (by have := HM.out.1; omega))
  generalize getI l = R at *
  obtain ⟨F, E⟩ := R
  obtain ⟨i0, hi, hz0, hz1, hz2⟩ := info_parts Try.infb
  go_enter Try.func3, Try.ntmps3
  go_wp2_with (at_builtin; refine wpList_any rfl _ _ 22 rfl w.heap.size 5 i0 (.int .u8 0) Try.underlying22 hi hz0 hz1 hz2 rfl (.slice none 0 0) 0 [] rfl (World.ownsRow_nil _ _ _ _) A m c l rfl HBY.out (by have := HM.out.1; omega) (Nat.le_refl _) ?_; intro v1 w1 hown1 hgr1 hob1; clear hob1; rw [Nat.zero_add, List.nil_append] at hown1; have HO1 := Lib.hid hown1; have HG1 := Lib.hid hgr1; obtain ⟨A1, c1, rfl⟩ := own_form hown1; clear hown1 hgr1)
  have hk01 : Kept Nil w w1 := (Kept.refl Nil w).grown HG1.out (fun k hk => by cases hk)
  obtain ⟨A1', c1', e1, hy1, hl1⟩ := Byt.of_own (l := l) HO1.out
  cases e1
  have HY1 := Lib.hid hy1
  have HL2 := Lib.hid hy1.lt
  have HB1 := Lib.hid (HBY.out.kept hk01 (fun _ _ hf => hf))
  have HBLT := Lib.hid HBY.out.lt
  have HK1 := Lib.hid hk01
  obtain ⟨b1, cs1, hA1, hob⟩ := own_B HO1.out
  have HA1 := Lib.hid hA1
  have HOB1 := Lib.hid hob
  clear hk01 hy1 hl1 HO1 HG1 HBY hsl hm hmn hA1 hob
  refine (CG.out A1 c1 w1 HY1.out).mono ?_
  rintro e w2 ⟨B1, n1, d1, rfl, hn1, hk⟩
  dsimp only
  have HZ2 := Lib.hid (MB.new w2 25 Ms.zero none 0 0)
  have HN1 := Lib.hid hn1
  have HK12 := Lib.hid hk
  clear hn1 hk
  go_upto_region 4 with (first
    | (refine wpList_st rfl _ (.tmp 4) _ rfl w2.heap.size 0 rfl (ics F B1 n1 d1) _ rfl rfl (infMs _ _ _ _) 25 _ HZ2.out (by rw [ics_len, ics_len]; omega) (ics_one _ _ _ _) ?_; intro w3 hb3 hk3 hz3; simp only [Act.put])
    | fail)
  have hk23 := ((Kept.refl Nil w2).alloc (.cells (ics Ms.zero none 0 0).toArray 25)).fresh hk3 (fun i hi => by cases hi; exact Nat.le_refl _)
  have hk13 := HK12.out.then hk23
  have HR3 := Lib.hid (MRes.of (Nat.le_refl _) HN1.out HK12.out (show MB w3 w2.heap.size 25 F B1 n1 d1 from hb3) hk23)
  have HB3 := Lib.hid (HB1.out.kept hk13 (fun _ _ hf => hf))
  have HK3 := Lib.hid (HK1.out.then hk13)
  have HOB3 := Lib.hid (HOB1.out.kept hk13)
  obtain ⟨g4, hg4⟩ : ∃ g, w2.heap.size = g := ⟨_, rfl⟩
  rw [hg4] at HR3 ⊢
  clear hb3 hk3 hz3 hk23 hk13 HZ2 HN1 HK12 HY1 HB1 HK1 hg4 HOB1
  go_wp2_with (fail)
  go_loopw [6] (fun i wr => ∃ q : Nat, q ≤ m ∧ i = .int .i64 (q : Int) ∧ ∃ cs, Hid (OwnB wr b1 m cs) ∧ Hid (MRes w1.heap.size wr g4 F B1 n1 d1) ∧ Hid (Byt wr A m c l) ∧ Hid (Kept Nil w wr)) (fun i _ => m - (intOf i).toNat)
  case atStart => exact ⟨0, Nat.zero_le _, rfl, cs1, HOB3, HR3, HB3, HK3⟩
  case round =>
    obtain ⟨q, hq, rfl, cs, HY, HR, HBY, HK⟩ := hrel
    clear HOB3 HR3 HB3 HK3
    by_cases hlt : q < m
    · have hm2 := HM.out.1
      obtain ⟨e1, hlo⟩ := HA1.out (by omega)
      subst e1
      obtain ⟨hblo, hcl, hcu⟩ := HY.out (by omega)
      obtain ⟨x, hx⟩ := hcu q hlt
      have hcell : wr.cell? ⟨b1, 0 + q, none⟩ = some (.int .u8 (x.toNat : Int)) := by rw [hblo.cell]; simpa using hx
      rw [Nat.zero_add] at hcell
      have hxor := xor255 x
      have hhi : b1 < w1.heap.size := HL2.out b1 ⟨by omega, _, rfl, rfl⟩
      have HLO := Lib.hid hlo
      have HHI := Lib.hid hhi
      have HBLO := Lib.hid hblo
      have HCL := Lib.hid hcl
      clear hx hlo hhi hblo hcl hcu
      go_wp2_with (refine wpList_st rfl _ _ _ rfl b1 q rfl [.int .u8 ((x ^^^ 255).toNat : Int)] _ (by first | rfl | simp [Act.eval]) rfl infU' 5 _ HBLO.out (by have := HCL.out; rw [List.length_singleton]; omega) (by intro u hu; simp at hu; subst hu; rfl) ?_; intro w5 hb5 hk5 hz5)
      have HY5 := Lib.hid (HY.out.set q hlt (x ^^^ 255) hb5)
      have HR5 := Lib.hid (HR.out.far hk5 HHI.out)
      have HB5 := Lib.hid (HBY.out.kept hk5 (fun i hi hf => by have := HBLT.out i hi; have := HLO.out; cases hf; omega))
      have HK5 := Lib.hid (HK.out.fresh hk5 (fun i hi => by cases hi; exact HLO.out))
      clear hb5 hk5 hz5 HY HR HBY HK HBLO hcell hxor
      go_wp2
      go_roundw
      case rel => exact ⟨q + 1, by omega, by go_num, _, HY5, HR5, HB5, HK5⟩
      case measure => simp [intOf]; omega
    · obtain rfl : q = m := by omega
      go_wp2_with (fail)
      refine (RG.out wr HBY.out).mono ?_
      rintro e w7 ⟨B5, n5, d5, rfl, hx7, hk⟩
      dsimp only
      have HX7 := Lib.hid hx7
      have HR7 := Lib.hid (HR.out.kept hk)
      have HK7 := Lib.hid (HK.out.then hk)
      have HZ7 := Lib.hid (MB.new w7 29 Ms.zero none 0 0)
      clear hx7 hk HY HR HBY HK
      go_upto_region 9 with (first
        | (refine wpList_st rfl _ (.tmp 7) _ rfl w7.heap.size 0 rfl (ics F B5 n5 d5) _ rfl rfl (infMr _ _ _ _) 29 _ HZ7.out (by rw [ics_len, ics_len]; omega) (ics_one _ _ _ _) ?_; intro w8 hb8 hk8 hz8; simp only [Act.put])
        | fail)
      have hk78 := ((Kept.refl Nil w7).alloc (.cells (ics Ms.zero none 0 0).toArray 29)).fresh hk8 (fun i hi => by cases hi; exact Nat.le_refl _)
      have HT8 := Lib.hid (show MB w8 w7.heap.size 29 F B5 n5 d5 from hb8)
      have HX8 := Lib.hid (HX7.out.kept hk78 (fun _ _ hf => hf))
      have HR8 := Lib.hid (HR7.out.kept hk78)
      have HK8 := Lib.hid (HK7.out.then hk78)
      obtain ⟨g7, hg7⟩ : ∃ g, w7.heap.size = g := ⟨_, rfl⟩
      rw [hg7] at HT8 ⊢
      clear hb8 hk8 hz8 hk78 HX7 HR7 HK7 HZ7 hg7
      go_wp2_with (first
        | (refine wpList_ld rfl _ _ rfl g4 0 rfl (ics F B1 n1 d1) HR8.out.h.all _ Try.underlying25 rfl (infMs _ _ _ _) ?_; simp only [Act.put, List.setIfInBounds_toArray, List.set_cons_succ, List.set_cons_zero])
        | (refine wpList_ld rfl _ _ rfl g7 0 rfl (ics F B5 n5 d5) HT8.out.all _ Try.underlying29 rfl (infMr _ _ _ _) ?_; simp only [Act.put, List.setIfInBounds_toArray, List.set_cons_succ, List.set_cons_zero])
        | fail)
      refine (alike_yes F B1 n1 d1 B5 n5 d5 _ HR8.out.x HX8.out).mono ?_
      rintro e w9 ⟨rfl, hk⟩
      have HK9 := Lib.hid (HK8.out.then hk)
      clear hk HK8 HR8 HT8 HX8
      go_wp2_with (fail)
      refine (itells_yes _).mono ?_
      rintro e w10 ⟨rfl, hk⟩
      have HK10 := Lib.hid (HK9.out.then hk)
      clear hk HK9
      go_wp2
      go_ret
      exact ⟨rfl, HK10.out.below (Nat.le_refl _) (fun _ hf => hf.elim)⟩
end Go.Proofs.Ytkpelaojjfcpfaa
