/- tolllaw06.InetGets: the walk. -/
import Derived.Test.YtflhbidmjlfjkaaDoorInDf
import Derived.Test.YtflhbidmjlfjkaaDoorInO
import Derived.Test.YtflhbidmjlfjkaaDoorRgH
import Derived.Test.YtflhbidmjlfjkaaDoorOwnB
namespace Go.Proofs.YtflhbidmjlfjkaaDoor
open Go.RowKit Go.Sort
set_option linter.unusedVariables false

/-- What a reader told, and where it stands: all of it at B and above. -/
structure GRes (B : Nat) (w : World) (g : Nat) (F : Hd) (X : List UInt8) (A1 : Option Addr) (n1 c1 : Nat) (A2 : Option Addr) (n2 c2 : Nat) : Prop where
  h : HB w g 27 F A1 n1 c1
  x : Byt w A1 n1 c1 F.x
  b : Byt w A2 n2 c2 X
  gl : B ≤ g
  xl : ∀ i, Lies A1 n1 i → B ≤ i
  bl : ∀ i, Lies A2 n2 i → B ≤ i
theorem GRes.kept {B : Nat} {w w' : World} {g : Nat} {F : Hd} {X : List UInt8} {A1 : Option Addr} {n1 c1 : Nat} {A2 : Option Addr} {n2 c2 : Nat} (r : GRes B w g F X A1 n1 c1 A2 n2 c2) (k : Kept Nil w w') : GRes B w' g F X A1 n1 c1 A2 n2 c2 :=
  ⟨r.h.kept k (fun hf => hf), r.x.kept k (fun _ _ hf => hf), r.b.kept k (fun _ _ hf => hf), r.gl, r.xl, r.bl⟩
theorem GRes.far {B : Nat} {w w' : World} {g : Nat} {F : Hd} {X : List UInt8} {A1 : Option Addr} {n1 c1 : Nat} {A2 : Option Addr} {n2 c2 b : Nat} (r : GRes B w g F X A1 n1 c1 A2 n2 c2) (k : Kept (One b) w w') (hb : b < B) : GRes B w' g F X A1 n1 c1 A2 n2 c2 :=
  ⟨r.h.kept k (fun hf => by have := r.gl; unfold One at hf; omega), r.x.kept k (fun i hi hf => by have := r.xl i hi; unfold One at hf; omega), r.b.kept k (fun i hi hf => by have := r.bl i hi; unfold One at hf; omega), r.gl, r.xl, r.bl⟩
theorem GRes.of {B : Nat} {w0 w1 w2 : World} {F : Hd} {X : List UInt8} {A1 : Option Addr} {n1 c1 : Nat} {A2 : Option Addr} {n2 c2 : Nat} (hB : B ≤ w0.heap.size) (h1 : NewB w0 w1 A1 n1 c1 F.x) (h2 : NewB w0 w1 A2 n2 c2 X) (hk : Kept Nil w0 w1) (hb : HB w2 w1.heap.size 27 F A1 n1 c1) (k : Kept Nil w1 w2) : GRes B w2 w1.heap.size F X A1 n1 c1 A2 n2 c2 :=
  ⟨hb, h1.1.kept k (fun _ _ hf => hf), h2.1.kept k (fun _ _ hf => hf), Nat.le_trans hB hk.size, fun i hi => Nat.le_trans hB (h1.2 i hi), fun i hi => Nat.le_trans hB (h2.2 i hi)⟩
set_option maxRecDepth 100000 in
set_option maxHeartbeats 16000000 in
theorem gets_yes (A : Option Addr) (n c : Nat) (bl : List UInt8) (w : World) (h : Byt w A n c bl) (hG : Gl w) :
    Calls Tryd.prog 4 #[.slice A n c] w fun e w' => e = .returned (.bool true) ∧ Below w.heap.size w w' := by
  have hnc := h.2.1
  obtain ⟨m, hm, hm1, hm2⟩ : ∃ m : Nat, (if (400 : Int) < (n : Int) then (400 : Int) else (n : Int)) = (m : Int) ∧ m ≤ n ∧ m ≤ 400 := ⟨min n 400, by split <;> omega, by omega, by omega⟩
  have hmn : min (n : Int) 400 = (m : Int) := by rw [← hm]; split <;> omega
  have hsl := run_cut_hi (P := Tryd.prog) Tryd.underlying25 inf5.1 A n c m (m : Int) rfl (by omega)
  have HBY := Lib.hid (h.pre hm1)
  have HM := Lib.hid (And.intro hm2 (show m ≤ c by omega))
  generalize bl.take m = l at *
  clear h hm1 hm2 hnc
  have HRC := Lib.hid (read_cases l true)
  have HRD := Lib.hid (read_cases l false)
  have CG := Lib.hid (fun B d w hb => iget_yes B m d l w hb (by have := HM.out.1; omega))
  have CC := Lib.hid (fun B d w hb => icut_yes B m d l w hb (by have := HM.out.1; omega))
  have RG := Lib.hid (fun w hb => gread_yes A m c l true w hb (by have := HM.out.1; omega))
  have RC := Lib.hid (fun w hb => gread_yes A m c l false w hb (by have := HM.out.1; omega))
  generalize readHM l true = R at *
  generalize readHM l false = R' at *
  obtain ⟨F, X, E⟩ := R
  obtain ⟨F', X', E'⟩ := R'
  obtain ⟨i0, hi, hz0, hz1, hz2⟩ := info_parts Tryd.infb
  have HGG := Lib.hid hG
  go_enter Tryd.func4, Tryd.ntmps4
  go_wp2_with (at_builtin; refine wpList_any rfl _ _ 25 rfl w.heap.size 5 i0 (.int .u8 0) Tryd.underlying25 hi hz0 hz1 hz2 rfl (.slice none 0 0) 0 [] rfl (World.ownsRow_nil _ _ _ _) A m c l rfl HBY.out (by have := HM.out.1; omega) (Nat.le_refl _) ?_; intro v1 w1 hown1 hgr1 hob1; clear hob1; rw [Nat.zero_add, List.nil_append] at hown1; have HO1 := Lib.hid hown1; have HG1 := Lib.hid hgr1; obtain ⟨A1, c1, rfl⟩ := own_form hown1; clear hown1 hgr1)
  have hk01 : Kept Nil w w1 := (Kept.refl Nil w).grown HG1.out (fun k hk => by cases hk)
  obtain ⟨A1', c1', e1, hy1, hl1⟩ := Byt.of_own (l := l) HO1.out
  cases e1
  have HY1 := Lib.hid hy1
  have HL2 := Lib.hid hy1.lt
  have HB1 := Lib.hid (HBY.out.kept hk01 (fun _ _ hf => hf))
  have HBLT := Lib.hid HBY.out.lt
  have HK1 := Lib.hid hk01
  obtain ⟨b1, cs1, hA1, hob⟩ := own_B HO1.out
  have HA1 := Lib.hid hA1
  have HOB1 := Lib.hid hob
  clear hk01 hy1 hl1 HO1 HG1 HBY hsl hm hmn hA1 hob
  refine (CG.out A1 c1 w1 HY1.out).mono ?_
  rintro e w2 ⟨B1, n1, d1, B2, n2, d2, rfl, hn1, hn2, hk⟩
  dsimp only
  have HZ2 := Lib.hid (HB.new w2 27 Hd.zero none 0 0)
  have HN1 := Lib.hid hn1
  have HN2 := Lib.hid hn2
  have HK12 := Lib.hid hk
  clear hn1 hn2 hk
  go_upto_region 4 with (first
    | (refine wpList_st rfl _ (.tmp 4) _ rfl w2.heap.size 0 rfl (hcs F B1 n1 d1) _ rfl rfl (infI _ _ _ _) 27 _ HZ2.out (by rw [hcs_len, hcs_len]; omega) (hcs_one _ _ _ _) ?_; intro w3 hb3 hk3 hz3; simp only [Act.put])
    | fail)
  have hk23 := ((Kept.refl Nil w2).alloc (.cells (hcs Hd.zero none 0 0).toArray 27)).fresh hk3 (fun i hi => by cases hi; exact Nat.le_refl _)
  have hk13 := HK12.out.then hk23
  have HR3 := Lib.hid (GRes.of (X := X) (Nat.le_refl _) HN1.out HN2.out HK12.out (show HB w3 w2.heap.size 27 F B1 n1 d1 from HB.of_all hb3) hk23)
  have HG3 := Lib.hid (show w1.heap.size ≤ w3.heap.size from hk13.size)
  have HY3 := Lib.hid (HY1.out.kept hk13 (fun _ _ hf => hf))
  have HB3 := Lib.hid (HB1.out.kept hk13 (fun _ _ hf => hf))
  have HK3 := Lib.hid (HK1.out.then hk13)
  have HOB3 := Lib.hid (HOB1.out.kept hk13)
  obtain ⟨g4, hg4⟩ : ∃ g, w2.heap.size = g := ⟨_, rfl⟩
  rw [hg4] at HR3 ⊢
  clear hb3 hk3 hz3 hk23 hk13 HZ2 HN1 HN2 HK12 HY1 HB1 HK1 hg4 HOB1
  go_wp2_with (fail)
  refine (CC.out A1 c1 w3 HY3.out).mono ?_
  rintro e w4 ⟨B3, n3, d3, B4, n4, d4, rfl, hn1, hn2, hk⟩
  dsimp only
  have HZ4 := Lib.hid (HB.new w4 27 Hd.zero none 0 0)
  have HN1 := Lib.hid hn1
  have HN2 := Lib.hid hn2
  have HK34 := Lib.hid hk
  clear hn1 hn2 hk
  go_upto_region 5 with (first
    | (refine wpList_st rfl _ (.tmp 7) _ rfl w4.heap.size 0 rfl (hcs F' B3 n3 d3) _ rfl rfl (infI _ _ _ _) 27 _ HZ4.out (by rw [hcs_len, hcs_len]; omega) (hcs_one _ _ _ _) ?_; intro w5 hb5 hk5 hz5; simp only [Act.put])
    | fail)
  have hk45 := ((Kept.refl Nil w4).alloc (.cells (hcs Hd.zero none 0 0).toArray 27)).fresh hk5 (fun i hi => by cases hi; exact Nat.le_refl _)
  have hk35 := HK34.out.then hk45
  have HS5 := Lib.hid (GRes.of (X := X') HG3.out HN1.out HN2.out HK34.out (show HB w5 w4.heap.size 27 F' B3 n3 d3 from HB.of_all hb5) hk45)
  have HR5 := Lib.hid (HR3.out.kept hk35)
  have HB5 := Lib.hid (HB3.out.kept hk35 (fun _ _ hf => hf))
  have HK5 := Lib.hid (HK3.out.then hk35)
  have HOB5 := Lib.hid (HOB3.out.kept hk35)
  obtain ⟨g7, hg7⟩ : ∃ g, w4.heap.size = g := ⟨_, rfl⟩
  rw [hg7] at HS5 ⊢
  clear hb5 hk5 hz5 hk45 hk35 HZ4 HN1 HN2 HK34 HY3 HB3 HK3 hg7 HOB3 HR3 HG3
  go_wp2_with (fail)
  go_loopw [10] (fun i wr => ∃ q : Nat, q ≤ m ∧ i = .int .i64 (q : Int) ∧ ∃ cs, Hid (OwnB wr b1 m cs) ∧ Hid (GRes w1.heap.size wr g4 F X B1 n1 d1 B2 n2 d2) ∧ Hid (GRes w1.heap.size wr g7 F' X' B3 n3 d3 B4 n4 d4) ∧ Hid (Byt wr A m c l) ∧ Hid (Kept Nil w wr)) (fun i _ => m - (intOf i).toNat)
  case atStart => exact ⟨0, Nat.zero_le _, rfl, cs1, HOB5, HR5, HS5, HB5, HK5⟩
  case round =>
    obtain ⟨q, hq, rfl, cs, HY, HR, HS, HBY, HK⟩ := hrel
    clear HOB5 HR5 HS5 HB5 HK5
    by_cases hlt : q < m
    · have hm2 := HM.out.1
      obtain ⟨e1, hlo⟩ := HA1.out (by omega)
      subst e1
      obtain ⟨hblo, hcl, hcu⟩ := HY.out (by omega)
      obtain ⟨x, hx⟩ := hcu q hlt
      have hcell : wr.cell? ⟨b1, 0 + q, none⟩ = some (.int .u8 (x.toNat : Int)) := by rw [hblo.cell]; simpa using hx
      rw [Nat.zero_add] at hcell
      have hxor := xor255 x
      have hhi : b1 < w1.heap.size := HL2.out b1 ⟨by omega, _, rfl, rfl⟩
      have HLO := Lib.hid hlo
      have HHI := Lib.hid hhi
      have HBLO := Lib.hid hblo
      have HCL := Lib.hid hcl
      clear hx hlo hhi hblo hcl hcu
      go_wp2_with (refine wpList_st rfl _ _ _ rfl b1 q rfl [.int .u8 ((x ^^^ 255).toNat : Int)] _ (by first | rfl | simp [Act.eval]) rfl infU' 5 _ HBLO.out (by have := HCL.out; rw [List.length_singleton]; omega) (by intro u hu; simp at hu; subst hu; rfl) ?_; intro w5 hb5 hk5 hz5)
      have HY5 := Lib.hid (HY.out.set q hlt (x ^^^ 255) hb5)
      have HR5 := Lib.hid (HR.out.far hk5 HHI.out)
      have HS5 := Lib.hid (HS.out.far hk5 HHI.out)
      have HB5 := Lib.hid (HBY.out.kept hk5 (fun i hi hf => by have := HBLT.out i hi; have := HLO.out; cases hf; omega))
      have HK5 := Lib.hid (HK.out.fresh hk5 (fun i hi => by cases hi; exact HLO.out))
      clear hb5 hk5 hz5 HY HR HS HBY HK HBLO hcell hxor
      go_wp2
      go_roundw
      case rel => exact ⟨q + 1, by omega, by go_num, _, HY5, HR5, HS5, HB5, HK5⟩
      case measure => simp [intOf]; omega
    · obtain rfl : q = m := by omega
      go_wp2_with (fail)
      refine (RG.out wr HBY.out).mono ?_
      rintro e w7 ⟨⟨B5, n5, d5, B6, n6, d6, rfl, hx7, hb7⟩, hk⟩
      dsimp only
      have HX7 := Lib.hid hx7
      have HX8 := Lib.hid hb7
      have HR7 := Lib.hid (HR.out.kept hk)
      have HS7 := Lib.hid (HS.out.kept hk)
      have HB7 := Lib.hid (HBY.out.kept hk (fun _ _ hf => hf))
      have HK7 := Lib.hid (HK.out.then hk)
      have HZ7 := Lib.hid (HB.new w7 34 Hd.zero none 0 0)
      clear hx7 hb7 hk HY HR HS HBY HK
      go_upto_region 10 with (first
        | (refine wpList_st rfl _ (.tmp 11) _ rfl w7.heap.size 0 rfl (hcs F B5 n5 d5) _ rfl rfl (infH _ _ _ _) 34 _ HZ7.out (by rw [hcs_len, hcs_len]; omega) (hcs_one _ _ _ _) ?_; intro w8 hb8 hk8 hz8; simp only [Act.put])
        | fail)
      have hk78 := ((Kept.refl Nil w7).alloc (.cells (hcs Hd.zero none 0 0).toArray 34)).fresh hk8 (fun i hi => by cases hi; exact Nat.le_refl _)
      have HT8 := Lib.hid (show HB w8 w7.heap.size 34 F B5 n5 d5 from HB.of_all hb8)
      have HX78 := Lib.hid (HX7.out.kept hk78 (fun _ _ hf => hf))
      have HX88 := Lib.hid (HX8.out.kept hk78 (fun _ _ hf => hf))
      have HR8 := Lib.hid (HR7.out.kept hk78)
      have HS8 := Lib.hid (HS7.out.kept hk78)
      have HB8 := Lib.hid (HB7.out.kept hk78 (fun _ _ hf => hf))
      have HK8 := Lib.hid (HK7.out.then hk78)
      obtain ⟨g11, hg11⟩ : ∃ g, w7.heap.size = g := ⟨_, rfl⟩
      rw [hg11] at HT8 ⊢
      clear hb8 hk8 hz8 hk78 HX7 HX8 HR7 HS7 HB7 HK7 HZ7 hg11
      go_wp2_with (fail)
      refine (RC.out w8 HB8.out).mono ?_
      rintro e w9 ⟨⟨B7, n7, d7, B8, n8, d8, rfl, hx7, hb7⟩, hk⟩
      dsimp only
      have HX9 := Lib.hid hx7
      have HX10 := Lib.hid hb7
      have HT9 := Lib.hid (HT8.out.kept hk (fun hf => hf))
      have HX79 := Lib.hid (HX78.out.kept hk (fun _ _ hf => hf))
      have HX89 := Lib.hid (HX88.out.kept hk (fun _ _ hf => hf))
      have HR9 := Lib.hid (HR8.out.kept hk)
      have HS9 := Lib.hid (HS8.out.kept hk)
      have HK9 := Lib.hid (HK8.out.then hk)
      have HZ9 := Lib.hid (HB.new w9 34 Hd.zero none 0 0)
      clear hx7 hb7 hk HT8 HX78 HX88 HR8 HS8 HB8 HK8
      go_upto_region 11 with (first
        | (refine wpList_st rfl _ (.tmp 14) _ rfl w9.heap.size 0 rfl (hcs F' B7 n7 d7) _ rfl rfl (infH _ _ _ _) 34 _ HZ9.out (by rw [hcs_len, hcs_len]; omega) (hcs_one _ _ _ _) ?_; intro w10 hb10 hk10 hz10; simp only [Act.put])
        | fail)
      have hk90 := ((Kept.refl Nil w9).alloc (.cells (hcs Hd.zero none 0 0).toArray 34)).fresh hk10 (fun i hi => by cases hi; exact Nat.le_refl _)
      have HU := Lib.hid (show HB w10 w9.heap.size 34 F' B7 n7 d7 from HB.of_all hb10)
      have HX3 := Lib.hid (HX9.out.kept hk90 (fun _ _ hf => hf))
      have HX4 := Lib.hid (HX10.out.kept hk90 (fun _ _ hf => hf))
      have HT := Lib.hid (HT9.out.kept hk90 (fun hf => hf))
      have HX1 := Lib.hid (HX79.out.kept hk90 (fun _ _ hf => hf))
      have HX2 := Lib.hid (HX89.out.kept hk90 (fun _ _ hf => hf))
      have HR := Lib.hid (HR9.out.kept hk90)
      have HS := Lib.hid (HS9.out.kept hk90)
      have HK := Lib.hid (HK9.out.then hk90)
      obtain ⟨g14, hg14⟩ : ∃ g, w9.heap.size = g := ⟨_, rfl⟩
      rw [hg14] at HU ⊢
      clear hb10 hk10 hz10 hk90 HX9 HX10 HT9 HX79 HX89 HR9 HS9 HK9 HZ9 hg14
      have hof1 : ∀ u, Calls Tryd.prog 11 #[.agg (hcs F B1 n1 d1).toArray] u fun e w' => e = .returned (.agg (hcs F B1 n1 d1).toArray) ∧ Kept Nil u w' := fun u => of_yes F B1 n1 d1 u
      have hof2 : ∀ u, Calls Tryd.prog 11 #[.agg (hcs F' B3 n3 d3).toArray] u fun e w' => e = .returned (.agg (hcs F' B3 n3 d3).toArray) ∧ Kept Nil u w' := fun u => of_yes F' B3 n3 d3 u
      have hsm1 := fun d os => same_yes F B1 n1 d1 B5 n5 d5 (grow (redrawn w10 d) os) (HR.out.x.kept (kept_grown' w10 d os) (fun _ _ hf => hf)) (HX1.out.kept (kept_grown' w10 d os) (fun _ _ hf => hf))
      have hsm2 := fun d os => same_yes F' B3 n3 d3 B7 n7 d7 (grow (redrawn w10 d) os) (HS.out.x.kept (kept_grown' w10 d os) (fun _ _ hf => hf)) (HX3.out.kept (kept_grown' w10 d os) (fun _ _ hf => hf))
      have tx1 := fun dr os => (HR.out.b.kept (kept_grown' w10 dr os) (fun _ _ hf => hf)).text (P := Tryd.prog) Tryd.underlying25 Tryd.underlying5 Tryd.underlying9
      have tx2 := fun dr os => (HX2.out.kept (kept_grown' w10 dr os) (fun _ _ hf => hf)).text (P := Tryd.prog) Tryd.underlying25 Tryd.underlying5 Tryd.underlying9
      have tx3 := fun dr os => (HS.out.b.kept (kept_grown' w10 dr os) (fun _ _ hf => hf)).text (P := Tryd.prog) Tryd.underlying25 Tryd.underlying5 Tryd.underlying9
      have tx4 := fun dr os => (HX4.out.kept (kept_grown' w10 dr os) (fun _ _ hf => hf)).text (P := Tryd.prog) Tryd.underlying25 Tryd.underlying5 Tryd.underlying9
      simp only at tx1 tx2 tx3 tx4
      go_wp2_with (fail)
      refine wp_region_quiet_below (by kernel_rfl) (by kernel_rfl) ?_
      repeat (first
        | (refine wpQuiet_ld rfl _ _ rfl g4 0 rfl (hcs F B1 n1 d1) (fun w1 hw => row_grown HR.out.h.all hw) _ Tryd.underlying27 rfl (infI _ _ _ _) ?_; simp only [Act.put, List.setIfInBounds_toArray, List.set_cons_succ, List.set_cons_zero])
        | (refine wpQuiet_ld rfl _ _ rfl g7 0 rfl (hcs F' B3 n3 d3) (fun w1 hw => row_grown HS.out.h.all hw) _ Tryd.underlying27 rfl (infI _ _ _ _) ?_; simp only [Act.put, List.setIfInBounds_toArray, List.set_cons_succ, List.set_cons_zero])
        | (refine wpQuiet_ld rfl _ _ rfl g11 0 rfl (hcs F B5 n5 d5) (fun w1 hw => row_grown HT.out.all hw) _ Tryd.underlying34 rfl (infH _ _ _ _) ?_; simp only [Act.put, List.setIfInBounds_toArray, List.set_cons_succ, List.set_cons_zero])
        | (refine wpQuiet_ld rfl _ _ rfl g14 0 rfl (hcs F' B7 n7 d7) (fun w1 hw => row_grown HU.out.all hw) _ Tryd.underlying34 rfl (infH _ _ _ _) ?_; simp only [Act.put, List.setIfInBounds_toArray, List.set_cons_succ, List.set_cons_zero])
        | (go_big_quiet_step (first | with_reducible exact quietK (hof1 _) | with_reducible exact quietK (hof2 _) | with_reducible exact quietK (hsm1 _ _) | with_reducible exact quietK (hsm2 _ _) | with_reducible exact quietK (tells_yes _ (HGG.out.kept (HK.out.then (kept_grown' _ _ _)))))))
      refine wpQuiet_nil ?_
      rintro wz ⟨nq, hw⟩
      have HKz := Lib.hid (HK.out.then (show Kept Nil w10 wz by rw [hw]; exact kept_grown _ _))
      clear hw
      go_wp2
      go_ret
      exact ⟨rfl, HKz.out.below (Nat.le_refl _) (fun _ hf => hf.elim)⟩
end Go.Proofs.YtflhbidmjlfjkaaDoor
