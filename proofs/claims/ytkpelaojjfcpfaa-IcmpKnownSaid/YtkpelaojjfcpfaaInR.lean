/- Package inet: contracts of fields and read. -/
import Derived.Test.YtkpelaojjfcpfaaInE
import Derived.Test.YtkpelaojjfcpfaaInL
import Derived.Test.YtkpelaojjfcpfaaEthT
namespace Go.Proofs.Ytkpelaojjfcpfaa
open Go.RowKit Go.Sort
set_option linter.unusedVariables false

theorem fields_yes (g : Nat) (A : Option Addr) (n c : Nat) (s : Cst) (w : World) (h : Cutr w g A n c s) :
    Calls Try.prog 60 #[.pointer (some ⟨g, 0, none⟩)] w fun e w' => ∃ gl gc gw, e = .returned (fldV gl gc gw) ∧ Fld w' g gl gc gw A n c s 0 32 ∧ Kept Nil w w' ∧ w.heap.size ≤ gl ∧ w.heap.size ≤ gc ∧ w.heap.size ≤ gw := by
  have hlt := h.byt.lt
  have hmf : ∀ (fn : Fn) (first cap : Array Value) (w : World), (Instr.makeFunc fn first cap).run Try.prog w = .ok (.func fn first cap) w := fun _ _ _ _ => rfl
  have HC := Lib.hid h
  have HLT := Lib.hid hlt
  clear h hlt
  go_enter Try.func60, Try.ntmps60
  go_wp2
  go_ret
  refine ⟨w.heap.size + 2, w.heap.size, w.heap.size + 1, rfl, ⟨?_, ?_, ?_, ?_, ?_⟩, ?_, by omega, by omega, by omega⟩
  · exact HC.out.kept (((((Kept.refl (fun i => w.heap.size ≤ i) w).alloc _).alloc _).alloc _)) (by have := HC.out.blo.lt; omega) (fun i hi => by have := HLT.out i hi; omega)
  · have := ((Blo.new w 60 #[.pointer (some ⟨g, 0, none⟩)]).alloc (.cells #[.int .u32 0] 44)).alloc (.cells #[.int .i64 0] 3)
    exact this
  · have := (Blo.new (w.alloc (.cells #[.pointer (some ⟨g, 0, none⟩)] 60)) 44 #[.int .u32 0]).alloc (.cells #[.int .i64 0] 3)
    simpa [wrdM] using this
  · have := Blo.new ((w.alloc (.cells #[.pointer (some ⟨g, 0, none⟩)] 60)).alloc (.cells #[.int .u32 0] 44)) 3 #[.int .i64 0]
    simpa using this
  · intro i hi
    have := HLT.out i hi
    omega
  · exact (((Kept.refl Nil w).alloc _).alloc _).alloc _
/-- Where read stands: the head so far, the closure, and what of memory is as it was. -/
structure RS (w W : World) (gh g gl gc gw : Nat) (A : Option Addr) (m c : Nat) (s : Cst) (V k : Nat) (hd : Hd) : Prop where
  hb : HB W gh 47 hd none 0 0
  fl : Fld W g gl gc gw A m c s V k
  kept : Kept Nil w W
  lo : w.heap.size ≤ gh
  h1 : gh < g
  h2 : gh < gl
  h3 : gh < gc
  h4 : gh < gw
  h5 : ∀ i, Lies A m i → gh < i
section
variable {w W W' : World} {gh g gl gc gw : Nat} {A : Option Addr} {m c : Nat} {s s' : Cst} {V V' k k' : Nat} {hd : Hd}
theorem RS.call (h : RS w W gh g gl gc gw A m c s V k hd) (f : Fld W' g gl gc gw A m c s' V' k') (q : Kept (fldF g gl gw) W W') : RS w W' gh g gl gc gw A m c s' V' k' hd :=
  ⟨h.hb.kept q (fun hf => by have := h.h1; have := h.h2; have := h.h4; rcases hf with hf | hf | hf <;> omega), f, h.kept.fresh q (fun i hf => by have := h.lo; have := h.h1; have := h.h2; have := h.h4; rcases hf with hf | hf | hf <;> omega), h.lo, h.h1, h.h2, h.h3, h.h4, h.h5⟩
theorem RS.st (h : RS w W gh g gl gc gw A m c s V k hd) (f : Nat) (v : Value) (hd' : Hd) (e : hcs hd' none 0 0 = (hcs hd none 0 0).set f v) : RS w (W.setCell ⟨gh, f, none⟩ v) gh g gl gc gw A m c s V k hd' := by
  have q := Kept.one W gh f none v
  refine ⟨?_, h.fl.kept q (fun hf => by have := h.h1; cases hf; omega) (fun hf => by have := h.h2; cases hf; omega) (fun hf => by have := h.h3; cases hf; omega) (fun hf => by have := h.h4; cases hf; omega) (fun i hi hf => by have := h.h5 i hi; cases hf; omega), h.kept.fresh q (fun i hf => by cases hf; exact h.lo), h.lo, h.h1, h.h2, h.h3, h.h4, h.h5⟩
  have := Blo.set (show Blo W gh 47 (hcs hd none 0 0).toArray from h.hb) f v
  rw [List.setIfInBounds_toArray, ← e] at this
  exact this
theorem RS.cell (h : RS w W gh g gl gc gw A m c s V k hd) (f : Nat) : W.cell? ⟨gh, f, none⟩ = (hcs hd none 0 0).toArray[f]? := Blo.cell h.hb f
theorem RS.fz (h : RS w W gh g gl gc gw A m c s V k hd) (f : Nat) : W.frozen? ⟨gh, f, none⟩ = false := Blo.frozen h.hb f
end
theorem u8_nat (x : Nat) (h : x < 256) : ∃ t : UInt8, x = t.toNat := ⟨UInt8.ofNat x, by rw [UInt8.toNat_ofNat']; omega⟩
/-- What read answers. -/
def ReadIs (w : World) (e : Ending) (w' : World) (r : Hd × Nat × Int) : Prop := ∃ A1 n1 c1, e = .returned (.tuple #[.agg (hcs r.1 A1 n1 c1).toArray, .int .i64 (r.2.1 : Int), .int .i64 r.2.2]) ∧ NewB w w' A1 n1 c1 r.1.x ∧ Kept Nil w w'

set_option maxRecDepth 100000 in
set_option maxHeartbeats 16000000 in
theorem iread_yes (A : Option Addr) (n c : Nat) (l : List UInt8) (w : World) (h : Byt w A n c l) (hn : n ≤ 1099511627776) : Calls Try.prog 55 #[.slice A n c] w fun e w' => ReadIs w e w' (readP l) := by
  have hnc := h.2.1
  have hcc := h.2.2.1
  obtain ⟨m, hm, hmn, hm1, hm2, hm3⟩ := min60 n
  have hsl := run_cut_hi (P := Try.prog) Try.underlying22 inf5.1 A n c m (m : Int) rfl (by omega)
  have hL : l.take m = l.take 60 := by rw [hm3, ← h.1]; rw [← List.take_take, List.take_length]
  have HRP := Lib.hid (show readP (l.take m) = readP l by rw [hL, readP_60])
  have HBY := Lib.hid (h.pre hm1)
  have hll : (l.take m).length = m := by rw [List.length_take, h.1]; omega
  generalize readP l = R at *
  generalize l.take m = L at *
  have HLL := Lib.hid hll
  have HMC := Lib.hid (show m ≤ c by omega)
  have HM60 := Lib.hid hm2
  have HB0 := Lib.hid (HB.new w 47 Hd.zero none 0 0)
  have HK0 := Lib.hid ((Kept.refl Nil w).alloc (.cells (hcs Hd.zero none 0 0).toArray 47))
  have HS0 := Lib.hid (show (w.alloc (.cells (hcs Hd.zero none 0 0).toArray 47)).heap.size = w.heap.size + 1 by simp)
  clear h hm3 hL hll hm1
  go_enter Try.func55, Try.ntmps55
  go_wp2_with (fail)
  refine (new_yes A m c L _ (HBY.out.kept HK0.out (fun _ _ hf => hf)) (by have := HM60.out; omega)).mono ?_
  rintro e w1 ⟨g, A', c', rfl, hc, hk, hg, hl⟩
  have HC1 := Lib.hid hc
  have HB1 := Lib.hid (HB0.out.kept hk (fun hf => hf))
  have HK1 := Lib.hid (HK0.out.then hk)
  have HG := Lib.hid (show w.heap.size < g by have := HS0.out; omega)
  have HL := Lib.hid (show ∀ i, Lies A' m i → w.heap.size < i from fun i hi => by have := HS0.out; have := hl i hi; omega)
  have HS1 := Lib.hid (show w.heap.size < w1.heap.size by have := HS0.out; have := hk.size; omega)
  clear hc hk hg hl HB0 HK0 HS0 hsl hm hmn
  go_wp2_with (fail)
  refine (fields_yes g A' m c' _ _ HC1.out).mono ?_
  rintro e w2 ⟨gl, gc, gw, rfl, hf, hk, h1, h2, h3⟩
  have HR0 : Hid (RS w w2 w.heap.size g gl gc gw A' m c' ⟨L, 0, 0⟩ 0 32 Hd.zero) := ⟨HB1.out.kept hk (fun hf => hf), hf, HK1.out.then hk, Nat.le_refl _, HG.out, by have := HS1.out; omega, by have := HS1.out; omega, by have := HS1.out; omega, HL.out⟩
  obtain ⟨gh, hgh⟩ : ∃ gh, w.heap.size = gh := ⟨_, rfl⟩
  rw [hgh] at HR0 ⊢
  have HGH := Lib.hid hgh
  unfold fldV
  clear hf hk h1 h2 h3 HC1 HB1 HK1 HG HL HS1 hgh
  go_wp2_with (fail)
  refine (fld_next g gl gc gw A' m c' _ _ 4 _ HR0.out.fl (by omega)).mono ?_
  rintro e w3 ⟨rfl, hf, hk⟩
  obtain ⟨s1, hs1⟩ : ∃ s, (takeM ⟨L, 0, 0⟩ 4).2 = s := ⟨_, rfl⟩
  obtain ⟨W1, hW1⟩ : ∃ x, numM (takeM ⟨L, 0, 0⟩ 4).1 = x := ⟨_, rfl⟩
  rw [hs1, hW1] at hf
  rw [hW1]
  have HHs1 := Lib.hid hs1
  have HHW1 := Lib.hid hW1
  clear hs1 hW1
  have HR1 : Hid (RS w w3 gh g gl gc gw A' m c' s1 W1 4 Hd.zero) := HR0.out.call hf hk
  clear hf hk HR0
  have hbkd := fld_lt2 W1 0 4 (by omega)
  obtain ⟨kd, hq⟩ : ∃ x, fldM W1 0 4 = x := ⟨_, rfl⟩
  rw [hq] at hbkd ⊢
  have HFkd := Lib.hid hq
  simp only [Nat.reducePow] at hbkd
  clear hq
  go_wp2_with (fail)
  refine (fld_in g gl gc gw A' m c' _ W1 4 4 _ HR1.out.fl (by omega) (by omega)).mono ?_
  rintro e w4 ⟨rfl, hf, hk⟩
  have HR2 : Hid (RS w w4 gh g gl gc gw A' m c' s1 W1 8 Hd.zero) := HR1.out.call hf hk
  clear hf hk HR1
  have hbwd := fld_lt2 W1 4 4 (by omega)
  obtain ⟨wd, hq⟩ : ∃ x, fldM W1 4 4 = x := ⟨_, rfl⟩
  rw [hq] at hbwd ⊢
  have HFwd := Lib.hid hq
  simp only [Nat.reducePow] at hbwd
  clear hq
  go_wp2_with (fail)
  refine (fld_in g gl gc gw A' m c' _ W1 8 8 _ HR2.out.fl (by omega) (by omega)).mono ?_
  rintro e w5 ⟨rfl, hf, hk⟩
  have HR3 : Hid (RS w w5 gh g gl gc gw A' m c' s1 W1 16 Hd.zero) := HR2.out.call hf hk
  clear hf hk HR2
  obtain ⟨tt, hq⟩ := u8_nat (fldM W1 8 8) (fld_lt2 _ _ 8 (by omega))
  rw [hq]
  have HFtt := Lib.hid hq
  have hbtt := tt.toNat_lt
  clear hq
  go_wp2_with (fail)
  refine (fld_in g gl gc gw A' m c' _ W1 16 16 _ HR3.out.fl (by omega) (by omega)).mono ?_
  rintro e w6 ⟨rfl, hf, hk⟩
  have HR4 : Hid (RS w w6 gh g gl gc gw A' m c' s1 W1 32 Hd.zero) := HR3.out.call hf hk
  clear hf hk HR3
  have hbsd := fld_lt2 W1 16 16 (by omega)
  obtain ⟨sd, hq⟩ : ∃ x, fldM W1 16 16 = x := ⟨_, rfl⟩
  rw [hq] at hbsd ⊢
  have HFsd := Lib.hid hq
  simp only [Nat.reducePow] at hbsd
  clear hq
  have cl0 := HR4.out.cell 0
  have cz0 := HR4.out.fz 0
  simp [hcs, Hd.zero] at cl0
  go_upto_region 6 with (fail)
  refine wp_nameE (fun Z => RS w Z gh g gl gc gw A' m c' s1 W1 32 ⟨tt, 0, 0, 0, false, false, false, 0, 0, 0, []⟩) (HR4.out.st 0 (.int .u8 (tt.toNat : Int)) ⟨tt, 0, 0, 0, false, false, false, 0, 0, 0, []⟩ rfl) ?_
  rintro w7 hr
  have HR5 := Lib.hid hr
  clear hr HR4 cl0 cz0
  go_wp2_with (fail)
  refine (fld_next g gl gc gw A' m c' _ _ 16 _ HR5.out.fl (by omega)).mono ?_
  rintro e w8 ⟨rfl, hf, hk⟩
  obtain ⟨s2, hs2⟩ : ∃ s, (takeM s1 4).2 = s := ⟨_, rfl⟩
  obtain ⟨W2, hW2⟩ : ∃ x, numM (takeM s1 4).1 = x := ⟨_, rfl⟩
  rw [hs2, hW2] at hf
  rw [hW2]
  have HHs2 := Lib.hid hs2
  have HHW2 := Lib.hid hW2
  clear hs2 hW2
  have HR6 : Hid (RS w w8 gh g gl gc gw A' m c' s2 W2 16 ⟨tt, 0, 0, 0, false, false, false, 0, 0, 0, []⟩) := HR5.out.call hf hk
  clear hf hk HR5
  have hbid := fld_lt2 W2 0 16 (by omega)
  obtain ⟨id, hq⟩ : ∃ x, fldM W2 0 16 = x := ⟨_, rfl⟩
  rw [hq] at hbid ⊢
  have HFid := Lib.hid hq
  simp only [Nat.reducePow] at hbid
  clear hq
  have cl3 := HR6.out.cell 3
  have cz3 := HR6.out.fz 3
  simp [hcs, Hd.zero] at cl3
  go_upto_region 7 with (fail)
  refine wp_nameE (fun Z => RS w Z gh g gl gc gw A' m c' s2 W2 16 ⟨tt, 0, 0, id, false, false, false, 0, 0, 0, []⟩) (HR6.out.st 3 (.int .u16 (id : Int)) ⟨tt, 0, 0, id, false, false, false, 0, 0, 0, []⟩ rfl) ?_
  rintro w9 hr
  have HR7 := Lib.hid hr
  clear hr HR6 cl3 cz3
  go_wp2_with (fail)
  refine (fld_in g gl gc gw A' m c' _ W2 16 1 _ HR7.out.fl (by omega) (by omega)).mono ?_
  rintro e w10 ⟨rfl, hf, hk⟩
  have HR8 : Hid (RS w w10 gh g gl gc gw A' m c' s2 W2 17 ⟨tt, 0, 0, id, false, false, false, 0, 0, 0, []⟩) := HR7.out.call hf hk
  clear hf hk HR7
  have hbev := fld_lt2 W2 16 1 (by omega)
  obtain ⟨ev, hq⟩ : ∃ x, fldM W2 16 1 = x := ⟨_, rfl⟩
  rw [hq] at hbev ⊢
  have HFev := Lib.hid hq
  simp only [Nat.reducePow] at hbev
  clear hq
  obtain ⟨bev, hqev⟩ : ∃ e, ((ev : Int) == 1) = e := ⟨_, rfl⟩
  go_wp2_with (fail)
  refine (fld_in g gl gc gw A' m c' _ W2 17 1 _ HR8.out.fl (by omega) (by omega)).mono ?_
  rintro e w11 ⟨rfl, hf, hk⟩
  have HR9 : Hid (RS w w11 gh g gl gc gw A' m c' s2 W2 18 ⟨tt, 0, 0, id, false, false, false, 0, 0, 0, []⟩) := HR8.out.call hf hk
  clear hf hk HR8
  have hbdf := fld_lt2 W2 17 1 (by omega)
  obtain ⟨df, hq⟩ : ∃ x, fldM W2 17 1 = x := ⟨_, rfl⟩
  rw [hq] at hbdf ⊢
  have HFdf := Lib.hid hq
  simp only [Nat.reducePow] at hbdf
  clear hq
  obtain ⟨bdf, hqdf⟩ : ∃ e, ((df : Int) == 1) = e := ⟨_, rfl⟩
  go_wp2_with (fail)
  refine (fld_in g gl gc gw A' m c' _ W2 18 1 _ HR9.out.fl (by omega) (by omega)).mono ?_
  rintro e w12 ⟨rfl, hf, hk⟩
  have HR10 : Hid (RS w w12 gh g gl gc gw A' m c' s2 W2 19 ⟨tt, 0, 0, id, false, false, false, 0, 0, 0, []⟩) := HR9.out.call hf hk
  clear hf hk HR9
  have hbmr := fld_lt2 W2 18 1 (by omega)
  obtain ⟨mr, hq⟩ : ∃ x, fldM W2 18 1 = x := ⟨_, rfl⟩
  rw [hq] at hbmr ⊢
  have HFmr := Lib.hid hq
  simp only [Nat.reducePow] at hbmr
  clear hq
  obtain ⟨bmr, hqmr⟩ : ∃ e, ((mr : Int) == 1) = e := ⟨_, rfl⟩
  have HQe := Lib.hid hqev
  have HQd := Lib.hid hqdf
  have HQm := Lib.hid hqmr
  have cl4 := HR10.out.cell 4
  have cz4 := HR10.out.fz 4
  simp [hcs, Hd.zero] at cl4
  have cl5 := HR10.out.cell 5
  have cz5 := HR10.out.fz 5
  simp [hcs, Hd.zero] at cl5
  have cl6 := HR10.out.cell 6
  have cz6 := HR10.out.fz 6
  simp [hcs, Hd.zero] at cl6
  go_upto_region 8 with (fail)
  refine wp_nameE (fun Z => RS w Z gh g gl gc gw A' m c' s2 W2 19 ⟨tt, 0, 0, id, bev, bdf, bmr, 0, 0, 0, []⟩) (((HR10.out.st 4 (.bool bev) ⟨tt, 0, 0, id, bev, false, false, 0, 0, 0, []⟩ rfl).st 5 (.bool bdf) ⟨tt, 0, 0, id, bev, bdf, false, 0, 0, 0, []⟩ rfl).st 6 (.bool bmr) ⟨tt, 0, 0, id, bev, bdf, bmr, 0, 0, 0, []⟩ rfl) ?_
  rintro w13 hr
  have HR11 := Lib.hid hr
  clear hr HR10 cl4 cz4 cl5 cz5 cl6 cz6
  clear hqev hqdf hqmr hbev hbdf hbmr
  go_wp2_with (fail)
  refine (fld_in g gl gc gw A' m c' _ W2 19 13 _ HR11.out.fl (by omega) (by omega)).mono ?_
  rintro e w14 ⟨rfl, hf, hk⟩
  have HR12 : Hid (RS w w14 gh g gl gc gw A' m c' s2 W2 32 ⟨tt, 0, 0, id, bev, bdf, bmr, 0, 0, 0, []⟩) := HR11.out.call hf hk
  clear hf hk HR11
  have hbof := fld_lt2 W2 19 13 (by omega)
  obtain ⟨of, hq⟩ : ∃ x, fldM W2 19 13 = x := ⟨_, rfl⟩
  rw [hq] at hbof ⊢
  have HFof := Lib.hid hq
  simp only [Nat.reducePow] at hbof
  clear hq
  have cl7 := HR12.out.cell 7
  have cz7 := HR12.out.fz 7
  simp [hcs, Hd.zero] at cl7
  go_upto_region 9 with (fail)
  refine wp_nameE (fun Z => RS w Z gh g gl gc gw A' m c' s2 W2 32 ⟨tt, 0, 0, id, bev, bdf, bmr, (of : Int), 0, 0, []⟩) (HR12.out.st 7 (.int .i64 (of : Int)) ⟨tt, 0, 0, id, bev, bdf, bmr, (of : Int), 0, 0, []⟩ rfl) ?_
  rintro w15 hr
  have HR13 := Lib.hid hr
  clear hr HR12 cl7 cz7
  go_wp2_with (fail)
  refine (fld_next g gl gc gw A' m c' _ _ 8 _ HR13.out.fl (by omega)).mono ?_
  rintro e w16 ⟨rfl, hf, hk⟩
  obtain ⟨s3, hs3⟩ : ∃ s, (takeM s2 4).2 = s := ⟨_, rfl⟩
  obtain ⟨W3, hW3⟩ : ∃ x, numM (takeM s2 4).1 = x := ⟨_, rfl⟩
  rw [hs3, hW3] at hf
  rw [hW3]
  have HHs3 := Lib.hid hs3
  have HHW3 := Lib.hid hW3
  clear hs3 hW3
  have HR14 : Hid (RS w w16 gh g gl gc gw A' m c' s3 W3 8 ⟨tt, 0, 0, id, bev, bdf, bmr, (of : Int), 0, 0, []⟩) := HR13.out.call hf hk
  clear hf hk HR13
  obtain ⟨tl, hq⟩ := u8_nat (fldM W3 0 8) (fld_lt2 _ _ 8 (by omega))
  rw [hq]
  have HFtl := Lib.hid hq
  have hbtl := tl.toNat_lt
  clear hq
  go_wp2_with (fail)
  refine (fld_in g gl gc gw A' m c' _ W3 8 8 _ HR14.out.fl (by omega) (by omega)).mono ?_
  rintro e w17 ⟨rfl, hf, hk⟩
  have HR15 : Hid (RS w w17 gh g gl gc gw A' m c' s3 W3 16 ⟨tt, 0, 0, id, bev, bdf, bmr, (of : Int), 0, 0, []⟩) := HR14.out.call hf hk
  clear hf hk HR14
  obtain ⟨pr, hq⟩ := u8_nat (fldM W3 8 8) (fld_lt2 _ _ 8 (by omega))
  rw [hq]
  have HFpr := Lib.hid hq
  have hbpr := pr.toNat_lt
  clear hq
  have cl1 := HR15.out.cell 1
  have cz1 := HR15.out.fz 1
  simp [hcs, Hd.zero] at cl1
  have cl2 := HR15.out.cell 2
  have cz2 := HR15.out.fz 2
  simp [hcs, Hd.zero] at cl2
  go_upto_region 10 with (fail)
  refine wp_nameE (fun Z => RS w Z gh g gl gc gw A' m c' s3 W3 16 ⟨tt, tl, pr, id, bev, bdf, bmr, (of : Int), 0, 0, []⟩) ((HR15.out.st 1 (.int .u8 (tl.toNat : Int)) ⟨tt, tl, 0, id, bev, bdf, bmr, (of : Int), 0, 0, []⟩ rfl).st 2 (.int .u8 (pr.toNat : Int)) ⟨tt, tl, pr, id, bev, bdf, bmr, (of : Int), 0, 0, []⟩ rfl) ?_
  rintro w18 hr
  have HR16 := Lib.hid hr
  clear hr HR15 cl1 cz1 cl2 cz2
  go_wp2_with (fail)
  refine (fld_in g gl gc gw A' m c' _ W3 16 16 _ HR16.out.fl (by omega) (by omega)).mono ?_
  rintro e w19 ⟨rfl, hf, hk⟩
  have HR17 : Hid (RS w w19 gh g gl gc gw A' m c' s3 W3 32 ⟨tt, tl, pr, id, bev, bdf, bmr, (of : Int), 0, 0, []⟩) := HR16.out.call hf hk
  clear hf hk HR16
  go_wp2_with (fail)
  refine (fld_next g gl gc gw A' m c' _ _ 32 _ HR17.out.fl (by omega)).mono ?_
  rintro e w20 ⟨rfl, hf, hk⟩
  obtain ⟨s4, hs4⟩ : ∃ s, (takeM s3 4).2 = s := ⟨_, rfl⟩
  obtain ⟨W4, hW4⟩ : ∃ x, numM (takeM s3 4).1 = x := ⟨_, rfl⟩
  rw [hs4, hW4] at hf
  rw [hW4]
  have HHs4 := Lib.hid hs4
  have HHW4 := Lib.hid hW4
  clear hs4 hW4
  have HR18 : Hid (RS w w20 gh g gl gc gw A' m c' s4 W4 32 ⟨tt, tl, pr, id, bev, bdf, bmr, (of : Int), 0, 0, []⟩) := HR17.out.call hf hk
  clear hf hk HR17
  have hbsr := fld_lt2 W4 0 32 (by omega)
  obtain ⟨sr, hq⟩ : ∃ x, fldM W4 0 32 = x := ⟨_, rfl⟩
  rw [hq] at hbsr ⊢
  have HFsr := Lib.hid hq
  simp only [Nat.reducePow] at hbsr
  clear hq
  go_wp2_with (fail)
  refine (fld_next g gl gc gw A' m c' _ _ 32 _ HR18.out.fl (by omega)).mono ?_
  rintro e w21 ⟨rfl, hf, hk⟩
  obtain ⟨s5, hs5⟩ : ∃ s, (takeM s4 4).2 = s := ⟨_, rfl⟩
  obtain ⟨W5, hW5⟩ : ∃ x, numM (takeM s4 4).1 = x := ⟨_, rfl⟩
  rw [hs5, hW5] at hf
  rw [hW5]
  have HHs5 := Lib.hid hs5
  have HHW5 := Lib.hid hW5
  clear hs5 hW5
  have HR19 : Hid (RS w w21 gh g gl gc gw A' m c' s5 W5 32 ⟨tt, tl, pr, id, bev, bdf, bmr, (of : Int), 0, 0, []⟩) := HR18.out.call hf hk
  clear hf hk HR18
  have hbds := fld_lt2 W5 0 32 (by omega)
  obtain ⟨ds, hq⟩ : ∃ x, fldM W5 0 32 = x := ⟨_, rfl⟩
  rw [hq] at hbds ⊢
  have HFds := Lib.hid hq
  simp only [Nat.reducePow] at hbds
  clear hq
  have cl8 := HR19.out.cell 8
  have cz8 := HR19.out.fz 8
  simp [hcs, Hd.zero] at cl8
  have cl9 := HR19.out.cell 9
  have cz9 := HR19.out.fz 9
  simp [hcs, Hd.zero] at cl9
  go_upto_region 12 with (fail)
  refine wp_nameE (fun Z => RS w Z gh g gl gc gw A' m c' s5 W5 32 ⟨tt, tl, pr, id, bev, bdf, bmr, (of : Int), sr, ds, []⟩) ((HR19.out.st 8 (.int .u32 (sr : Int)) ⟨tt, tl, pr, id, bev, bdf, bmr, (of : Int), sr, 0, []⟩ rfl).st 9 (.int .u32 (ds : Int)) ⟨tt, tl, pr, id, bev, bdf, bmr, (of : Int), sr, ds, []⟩ rfl) ?_
  rintro w22 hr
  have HR20 := Lib.hid hr
  clear hr HR19 cl8 cz8 cl9 cz9
  have HWD := Lib.hid (words_of L HHs1.out HHW1.out HHs2.out HHW2.out HHs3.out HHW3.out HHs4.out HHW4.out HHs5.out HHW5.out)
  clear HHs1 HHW1 HHs2 HHW2 HHs3 HHW3 HHs4 HHW4 HHs5 HHW5
  have c0 := HR20.out.fl.cut.c0
  have HLO := Lib.hid HR20.out.lo
  rcases Nat.lt_or_ge L.length 20 with hlt | hge
  · have c3 := HR20.out.fl.cut.c3
    rw [HWD.out.no hlt] at c3
    have HRR := Lib.hid (show R = (Hd.zero, 0, 4) by rw [← HRP.out]; unfold readP; rw [if_pos hlt])
    clear hlt
    go_wp2_with (first
      | (go_at_call 59; refine (err_yes g _ _ (by assumption) (by assumption)).mono ?_; rintro e w' ⟨rfl, rfl⟩)
      | (refine wpList_st rfl _ (.tmp 2) _ rfl gh 0 rfl (hcs Hd.zero none 0 0) _ rfl rfl (infHi _ _ _ _) 47 _ HR20.out.hb (by rw [hcs_len, hcs_len]; omega) (hcs_one _ _ _ _) ?_; intro w40 hb9 hk9 hz9; simp only [Act.put])
      | fail)
    have h2 : HB w40 gh 47 Hd.zero none 0 0 := HB.of_all hb9
    refine bodyPost_ret (res_cell2 Try.results55 rfl rfl rfl h2.all Try.underlying47 rfl (infHi _ _ _ _)) rfl ?_
    rw [HRR.out]
    exact ⟨none, 0, 0, rfl, newB_none _ _, (HR20.out.kept).fresh hk9 (fun i hi => by cases hi; exact HLO.out)⟩
  · obtain ⟨hs5, e1, e2, e3, e4, e5⟩ := HWD.out.yes hge
    subst hs5
    obtain ⟨f1, f2, f3, f4⟩ := fields_of (e := bev) (d := bdf) (m := bmr) L hge e1 e2 e3 e4 e5 HFtt.out HFtl.out HFpr.out (by rw [HFev.out]; exact HQe.out) (by rw [HFdf.out]; exact HQd.out) (by rw [HFmr.out]; exact HQm.out)
    rw [HFkd.out] at f1
    rw [HFwd.out] at f2
    rw [HFsd.out] at f3
    rw [HFid.out, HFof.out, HFsr.out, HFds.out] at f4
    clear e1 e2 e3 e4 e5 HFtt HFtl HFpr HFev HQe HFdf HQd HFmr HQm HFkd HFwd HFsd HFid HFof HFsr HFds HWD
    have c3 : w22.cell? ⟨g, 3, none⟩ = some (.int .i64 0) := HR20.out.fl.cut.c3
    have HF1 := Lib.hid f1
    have HF2 := Lib.hid f2
    have HF3 := Lib.hid f3
    have HF4 := Lib.hid f4
    have HGE := Lib.hid hge
    clear f1 f2 f3 f4 hge
    by_cases h4 : kd = 4
    · have h4' : ((kd : Int) != 4) = false := by simp; omega
      by_cases h20 : 4 * wd < 20
      · have h20' : (4 : Int) * (wd : Int) < 20 := by omega
        have HRR := Lib.hid (show R = (Hd.zero, 0, 5) by rw [← HRP.out]; unfold readP; rw [if_neg (by have := HGE.out; omega), if_pos (.inr (by rw [← HF2.out]; exact h20))])
        clear h4 h20
        go_wp2_with (first
          | (go_at_call 59; refine (err_yes g _ _ (by assumption) (by assumption)).mono ?_; rintro e w' ⟨rfl, rfl⟩)
          | (refine wpList_st rfl _ (.tmp 2) _ rfl gh 0 rfl (hcs Hd.zero none 0 0) _ rfl rfl (infHi _ _ _ _) 47 _ HR20.out.hb (by rw [hcs_len, hcs_len]; omega) (hcs_one _ _ _ _) ?_; intro w40 hb9 hk9 hz9; simp only [Act.put])
          | fail)
        have h2 : HB w40 gh 47 Hd.zero none 0 0 := HB.of_all hb9
        refine bodyPost_ret (res_cell2 Try.results55 rfl rfl rfl h2.all Try.underlying47 rfl (infHi _ _ _ _)) rfl ?_
        rw [HRR.out]
        exact ⟨none, 0, 0, rfl, newB_none _ _, (HR20.out.kept).fresh hk9 (fun i hi => by cases hi; exact HLO.out)⟩
      · have h20' : ¬ (4 : Int) * (wd : Int) < 20 := by omega
        obtain ⟨N, hN⟩ : ∃ N, 4 * wd = N := ⟨_, rfl⟩
        have hNI : (4 : Int) * (wd : Int) = (N : Int) := by omega
        have hN60 : N ≤ 60 := by omega
        obtain ⟨M, hM⟩ : ∃ M, N = 20 + M := ⟨N - 20, by omega⟩
        have hMI : (N : Int) - 20 = (M : Int) := by omega
        have HHL := Lib.hid (show hlenM L = N by rw [← HF2.out, hN])
        have HNM := Lib.hid hM
        have H416 := Lib.hid (show ¬ ((L.headD 0).toNat / 16 ≠ 4 ∨ hlenM L < 20) by rw [HHL.out, ← HF1.out]; omega)
        rw [hNI] at h20'
        have hN20 : ¬ (N : Int) < 20 := h20'
        obtain ⟨X, S6, hT, hcase⟩ : ∃ X S6, takeM ⟨L, 20, 0⟩ (M : Int) = (X, S6) ∧ ((S6.er = 4 ∧ X = [] ∧ L.length < N) ∨ (S6.er = 0 ∧ X = (L.take N).drop 20 ∧ X.length = M ∧ N ≤ L.length)) := by
          rcases Nat.lt_or_ge L.length (20 + M) with hs | hs
          · exact ⟨[], ⟨L, 20, 4⟩, takeM_short L 20 M HGE.out hs, .inl ⟨rfl, rfl, by omega⟩⟩
          · refine ⟨(L.drop 20).take M, ⟨L, 20 + M, 0⟩, takeM_ok L 20 M hs, .inr ⟨rfl, ?_, ?_, by omega⟩⟩
            · rw [hM, List.drop_take, Nat.add_sub_cancel_left]
            · rw [List.length_take, List.length_drop]; omega
        have HT := Lib.hid hT
        have HCS := Lib.hid hcase
        clear hT hcase h4 h20 hN hM HF1 HF2
        have hMb : (M : Int) ≤ 9223372036854775807 := by omega
        go_wp2_with (first
          | (go_at_call 59; refine (err_yes g _ _ (by assumption) (by assumption)).mono ?_; rintro e w' ⟨rfl, rfl⟩)
          | fail)
        refine (Take_yes g A' m c' _ (M : Int) _ HR20.out.fl.cut hMb (by have := HM60.out; omega)).mono ?_
        rintro e w30 ⟨v, rfl, ho, hc, hk⟩
        rw [HT.out] at ho hc
        obtain ⟨A1, c1, rfl, hx, hxl⟩ := Byt.of_own ho
        simp only at hx hxl hc ⊢
        obtain ⟨n1, hn1⟩ : ∃ n1, X.length = n1 := ⟨_, rfl⟩
        rw [hn1] at hx hxl ⊢
        have hghg : gh ≠ g := by have := HR20.out.h1; omega
        have hbT : HB w30 gh 47 ⟨tt, tl, pr, id, bev, bdf, bmr, (of : Int), sr, ds, []⟩ none 0 0 := HR20.out.hb.kept hk hghg
        have hkT : Kept Nil w w30 := HR20.out.kept.fresh hk (fun i hi => by cases hi; have := HR20.out.h1; have := HLO.out; omega)
        have cl10 := Blo.cell hbT 10
        have cz10 := Blo.frozen hbT 10
        simp [hcs] at cl10
        have hltg := HR20.out.hb.lt
        have HX := Lib.hid hx
        have HXL := Lib.hid (show (∀ i, Lies A1 n1 i → w.heap.size ≤ i ∧ i ≠ gh) from fun i hi => by have := hxl i hi; have := HR20.out.kept.size; omega)
        have HC := Lib.hid hc
        have HBT := Lib.hid hbT
        have HKT := Lib.hid hkT
        have HN1 := Lib.hid hn1
        have HGG := Lib.hid hghg
        have HH5 := Lib.hid HR20.out.h5
        clear ho hx hxl hc hk hbT hkT hltg hn1 hghg c0 c3 HR20 HT
        go_upto_region 17 with (fail)
        refine wp_nameE (fun Z => HB Z gh 47 ⟨tt, tl, pr, id, bev, bdf, bmr, (of : Int), sr, ds, X⟩ A1 n1 c1 ∧ Cutr Z g A' m c' S6 ∧ Byt Z A1 n1 c1 X ∧ Kept Nil w Z) (by
          have q := Kept.one w30 gh 10 none (.slice A1 n1 c1)
          refine ⟨?_, HC.out.kept q (fun hf => HGG.out hf.symm) (fun i hi hf => by have := HH5.out i hi; cases hf; omega), HX.out.kept q (fun i hi hf => (HXL.out i hi).2 hf), HKT.out.fresh q (fun i hi => by cases hi; exact HLO.out)⟩
          have := Blo.set (show Blo w30 gh 47 (hcs ⟨tt, tl, pr, id, bev, bdf, bmr, (of : Int), sr, ds, []⟩ none 0 0).toArray from HBT.out) 10 (.slice A1 n1 c1)
          rw [List.setIfInBounds_toArray] at this
          exact this) ?_
        rintro w31 ⟨hb, hc, hx, hk⟩
        have c0 := hc.c0
        have c3 := hc.c3
        have HB31 := Lib.hid hb
        have HX31 := Lib.hid hx
        have HK31 := Lib.hid hk
        clear hb hc hx hk cl10 cz10 HC HX HBT HKT
        rcases HCS.out with ⟨her, hX, hsh⟩ | ⟨her, hX, hXM, hNL⟩
        · rw [her] at c3
          have HRR := Lib.hid (show R = (Hd.zero, 0, 4) by rw [← HRP.out]; unfold readP; rw [if_neg (by have := HGE.out; omega), if_neg H416.out, if_pos (by rw [HHL.out]; exact hsh)])
          clear her hX hsh HCS
          go_wp2_with (first
            | (go_at_call 59; refine (err_yes g _ _ (by assumption) (by assumption)).mono ?_; rintro e w' ⟨rfl, rfl⟩)
            | (refine wpList_st rfl _ (.tmp 2) _ rfl gh 0 rfl (hcs Hd.zero none 0 0) _ rfl rfl (infHi _ _ _ _) 47 _ HB31.out (by rw [hcs_len, hcs_len]; omega) (hcs_one _ _ _ _) ?_; intro w40 hb9 hk9 hz9; simp only [Act.put])
            | fail)
          have h2 : HB w40 gh 47 Hd.zero none 0 0 := HB.of_all hb9
          refine bodyPost_ret (res_cell2 Try.results55 rfl rfl rfl h2.all Try.underlying47 rfl (infHi _ _ _ _)) rfl ?_
          rw [HRR.out]
          exact ⟨none, 0, 0, rfl, newB_none _ _, (HK31.out).fresh hk9 (fun i hi => by cases hi; exact HLO.out)⟩
        · rw [her] at c3
          have hNm : N ≤ m := by have := HLL.out; omega
          have hslN := run_cut_hi (P := Try.prog) Try.underlying22 inf5.1 A m c N (N : Int) rfl (by have := HMC.out; omega)
          have HSZ := Lib.hid (show ∀ u, Calls Try.prog 37 #[.agg (hcs ⟨tt, tl, pr, id, bev, bdf, bmr, (of : Int), sr, ds, X⟩ A1 n1 c1).toArray] u fun e u' => e = .returned (.int .i64 (N : Int)) ∧ Kept Nil u u' from fun u => by
            have := isize_yes ⟨tt, tl, pr, id, bev, bdf, bmr, (of : Int), sr, ds, X⟩ A1 n1 c1 (by have := HN1.out; omega) u
            rw [show 20 + n1 = N by have := HN1.out; have := HNM.out; omega] at this
            exact this)
          have HSU := Lib.hid (fun u (hu : Kept Nil w u) => isum_yes A N c (L.take N) u ((HBY.out.pre hNm).kept hu (fun _ _ hf => hf)) (by omega))
          have HOP := Lib.hid (fun u (hu : Byt u A1 n1 c1 X) => imay_yes A1 n1 c1 X u hu (by have := HN1.out; omega))
          have HRB := Lib.hid (show R = if sd < N then (Hd.zero, 0, 5) else if sumM (L.take N) ≠ 0 then (Hd.zero, 0, 21) else if optsM X = false then (Hd.zero, 0, 5) else ((⟨tt, tl, pr, id, bev, bdf, bmr, (of : Int), sr, ds, X⟩ : Hd), sd, 0) by
            rw [← HRP.out]
            unfold readP
            have e4 := HF4.out
            rw [HHL.out, ← hX] at e4
            rw [if_neg (by have := HGE.out; omega), if_neg H416.out, HHL.out, if_neg (by omega), ← HF3.out, ← hX, ← e4])
          clear her hX hXM hNL HCS hNm
          go_wp2_with (first
            | (go_at_call 59; refine (err_yes g _ _ (by assumption) (by assumption)).mono ?_; rintro e w' ⟨rfl, rfl⟩)
            | (refine wpList_ld rfl _ _ rfl gh 0 rfl (hcs ⟨tt, tl, pr, id, bev, bdf, bmr, (of : Int), sr, ds, X⟩ A1 n1 c1) HB31.out.all _ Try.underlying47 rfl (infHi _ _ _ _) ?_; simp only [Act.put, List.setIfInBounds_toArray, List.set_cons_succ, List.set_cons_zero])
            | fail)
          refine (HSZ.out _).mono ?_
          rintro e w32 ⟨rfl, hk⟩
          have HB32 := Lib.hid (HB31.out.kept hk (fun hf => hf))
          have HX32 := Lib.hid (HX31.out.kept hk (fun _ _ hf => hf))
          have HK32 := Lib.hid (HK31.out.then hk)
          clear hk c0 c3 HB31 HX31 HK31
          by_cases hsN : sd < N
          · have hsN' : (sd : Int) < (N : Int) := by omega
            have HRR := Lib.hid (show R = (Hd.zero, 0, 5) by rw [HRB.out, if_pos hsN])
            clear hsN
            go_wp2_with (first
              | (go_at_call 59; refine (err_yes g _ _ (by assumption) (by assumption)).mono ?_; rintro e w' ⟨rfl, rfl⟩)
              | (refine wpList_st rfl _ (.tmp 2) _ rfl gh 0 rfl (hcs Hd.zero none 0 0) _ rfl rfl (infHi _ _ _ _) 47 _ HB32.out (by rw [hcs_len, hcs_len]; omega) (hcs_one _ _ _ _) ?_; intro w40 hb9 hk9 hz9; simp only [Act.put])
              | fail)
            have h2 : HB w40 gh 47 Hd.zero none 0 0 := HB.of_all hb9
            refine bodyPost_ret (res_cell2 Try.results55 rfl rfl rfl h2.all Try.underlying47 rfl (infHi _ _ _ _)) rfl ?_
            rw [HRR.out]
            exact ⟨none, 0, 0, rfl, newB_none _ _, (HK32.out).fresh hk9 (fun i hi => by cases hi; exact HLO.out)⟩
          · have hsN' : ¬ (sd : Int) < (N : Int) := by omega
            have HRC := Lib.hid (show R = if sumM (L.take N) ≠ 0 then (Hd.zero, 0, 21) else if optsM X = false then (Hd.zero, 0, 5) else ((⟨tt, tl, pr, id, bev, bdf, bmr, (of : Int), sr, ds, X⟩ : Hd), sd, 0) by rw [HRB.out, if_neg hsN])
            clear hsN HRB
            go_wp2_with (first
              | (refine wpList_ld rfl _ _ rfl gh 0 rfl (hcs ⟨tt, tl, pr, id, bev, bdf, bmr, (of : Int), sr, ds, X⟩ A1 n1 c1) HB32.out.all _ Try.underlying47 rfl (infHi _ _ _ _) ?_; simp only [Act.put, List.setIfInBounds_toArray, List.set_cons_succ, List.set_cons_zero])
              | fail)
            refine (HSZ.out _).mono ?_
            rintro e w33 ⟨rfl, hk⟩
            have HB33 := Lib.hid (HB32.out.kept hk (fun hf => hf))
            have HX33 := Lib.hid (HX32.out.kept hk (fun _ _ hf => hf))
            have HK33 := Lib.hid (HK32.out.then hk)
            clear hk HB32 HX32 HK32
            go_wp2_with (fail)
            refine (HSU.out _ HK33.out).mono ?_
            rintro e w34 ⟨rfl, hk⟩
            have HB34 := Lib.hid (HB33.out.kept hk (fun hf => hf))
            have HX34 := Lib.hid (HX33.out.kept hk (fun _ _ hf => hf))
            have HK34 := Lib.hid (HK33.out.then hk)
            clear hk HB33 HX33 HK33 HSU
            obtain ⟨sm, hsm⟩ : ∃ x, sumM (L.take N) = x := ⟨_, rfl⟩
            rw [hsm] at HRC ⊢
            clear hsm
            by_cases h0 : sm = 0
            · have h0' : ((sm : Int) != 0) = false := by simp [h0]
              have HRD := Lib.hid (show R = if optsM X = false then (Hd.zero, 0, 5) else ((⟨tt, tl, pr, id, bev, bdf, bmr, (of : Int), sr, ds, X⟩ : Hd), sd, 0) by rw [HRC.out, if_neg (by simp [h0])])
              have d10 := HB34.out.cx
              clear h0 HRC
              go_wp2_with (fail)
              refine (HOP.out _ HX34.out).mono ?_
              rintro e w35 ⟨rfl, rfl⟩
              clear HOP
              cases hop : optsM X
              · have HRR := Lib.hid (show R = (Hd.zero, 0, 5) by rw [HRD.out, if_pos hop])
                clear hop HRD
                go_wp2_with (first
                  | (go_at_call 59; refine (err_yes g _ _ (by assumption) (by assumption)).mono ?_; rintro e w' ⟨rfl, rfl⟩)
                  | (refine wpList_st rfl _ (.tmp 2) _ rfl gh 0 rfl (hcs Hd.zero none 0 0) _ rfl rfl (infHi _ _ _ _) 47 _ HB34.out (by rw [hcs_len, hcs_len]; omega) (hcs_one _ _ _ _) ?_; intro w40 hb9 hk9 hz9; simp only [Act.put])
                  | fail)
                have h2 : HB w40 gh 47 Hd.zero none 0 0 := HB.of_all hb9
                refine bodyPost_ret (res_cell2 Try.results55 rfl rfl rfl h2.all Try.underlying47 rfl (infHi _ _ _ _)) rfl ?_
                rw [HRR.out]
                exact ⟨none, 0, 0, rfl, newB_none _ _, (HK34.out).fresh hk9 (fun i hi => by cases hi; exact HLO.out)⟩
              · have HRR := Lib.hid (show R = ((⟨tt, tl, pr, id, bev, bdf, bmr, (of : Int), sr, ds, X⟩ : Hd), sd, 0) by rw [HRD.out, if_neg (by rw [hop]; decide)])
                clear hop HRD
                go_wp2_with (first
                  | (refine wpList_ld rfl _ _ rfl gh 0 rfl (hcs ⟨tt, tl, pr, id, bev, bdf, bmr, (of : Int), sr, ds, X⟩ A1 n1 c1) HB34.out.all _ Try.underlying47 rfl (infHi _ _ _ _) ?_; simp only [Act.put, List.setIfInBounds_toArray, List.set_cons_succ, List.set_cons_zero])
                  | (refine wpList_st rfl _ (.tmp 2) _ rfl gh 0 rfl (hcs ⟨tt, tl, pr, id, bev, bdf, bmr, (of : Int), sr, ds, X⟩ A1 n1 c1) _ rfl rfl (infHi _ _ _ _) 47 _ HB34.out (by rw [hcs_len]; omega) (hcs_one _ _ _ _) ?_; intro w40 hb9 hk9 hz9; simp only [Act.put])
                  | fail)
                have h2 : HB w40 gh 47 ⟨tt, tl, pr, id, bev, bdf, bmr, (of : Int), sr, ds, X⟩ A1 n1 c1 := HB.of_all hb9
                refine bodyPost_ret (res_cell2 Try.results55 rfl rfl rfl h2.all Try.underlying47 rfl (infHi _ _ _ _)) rfl ?_
                rw [HRR.out]
                exact ⟨A1, n1, c1, rfl, ⟨HX34.out.kept hk9 (fun i hi hf => (HXL.out i hi).2 hf), fun i hi => (HXL.out i hi).1⟩, HK34.out.fresh hk9 (fun i hi => by cases hi; exact HLO.out)⟩
            · have h0' : ((sm : Int) != 0) = true := by simp [h0]
              have HRR := Lib.hid (show R = (Hd.zero, 0, 21) by rw [HRC.out, if_pos h0])
              clear h0 HRC
              go_wp2_with (first
                | (go_at_call 59; refine (err_yes g _ _ (by assumption) (by assumption)).mono ?_; rintro e w' ⟨rfl, rfl⟩)
                | (refine wpList_st rfl _ (.tmp 2) _ rfl gh 0 rfl (hcs Hd.zero none 0 0) _ rfl rfl (infHi _ _ _ _) 47 _ HB34.out (by rw [hcs_len, hcs_len]; omega) (hcs_one _ _ _ _) ?_; intro w40 hb9 hk9 hz9; simp only [Act.put])
                | fail)
              have h2 : HB w40 gh 47 Hd.zero none 0 0 := HB.of_all hb9
              refine bodyPost_ret (res_cell2 Try.results55 rfl rfl rfl h2.all Try.underlying47 rfl (infHi _ _ _ _)) rfl ?_
              rw [HRR.out]
              exact ⟨none, 0, 0, rfl, newB_none _ _, (HK34.out).fresh hk9 (fun i hi => by cases hi; exact HLO.out)⟩
    · have h4' : ((kd : Int) != 4) = true := by simp; omega
      have HRR := Lib.hid (show R = (Hd.zero, 0, 5) by rw [← HRP.out]; unfold readP; rw [if_neg (by have := HGE.out; omega), if_pos (.inl (by rw [← HF1.out]; exact h4))])
      clear h4
      go_wp2_with (first
        | (go_at_call 59; refine (err_yes g _ _ (by assumption) (by assumption)).mono ?_; rintro e w' ⟨rfl, rfl⟩)
        | (refine wpList_st rfl _ (.tmp 2) _ rfl gh 0 rfl (hcs Hd.zero none 0 0) _ rfl rfl (infHi _ _ _ _) 47 _ HR20.out.hb (by rw [hcs_len, hcs_len]; omega) (hcs_one _ _ _ _) ?_; intro w40 hb9 hk9 hz9; simp only [Act.put])
        | fail)
      have h2 : HB w40 gh 47 Hd.zero none 0 0 := HB.of_all hb9
      refine bodyPost_ret (res_cell2 Try.results55 rfl rfl rfl h2.all Try.underlying47 rfl (infHi _ _ _ _)) rfl ?_
      rw [HRR.out]
      exact ⟨none, 0, 0, rfl, newB_none _ _, (HR20.out.kept).fresh hk9 (fun i hi => by cases hi; exact HLO.out)⟩
end Go.Proofs.Ytkpelaojjfcpfaa
