/- tollref05: contract of Bytes. -/
import Derived.Test.YtddpdopccejmbaaArpD
import Derived.Test.YtddpdopccejmbaaArpE
namespace Go.Proofs.Ytddpdopccejmbaa
open Go.RowKit Go.Sort
set_option linter.unusedVariables false

theorem ofNat_in (n : Nat) (h : n < 256) : ((UInt8.ofNat n).toNat : Int) = (n : Int) := by rw [UInt8.toNat_ofNat']; omega
theorem be4_cells (x : Nat) (h : x < 4294967296) : (#[.int .u8 ((x : Int) / 16777216), .int .u8 ((x : Int) / 65536 % 256), .int .u8 ((x : Int) / 256 % 256), .int .u8 ((x : Int) % 256)] : Array Value) = (bys (beAll 4 [x])).toArray := by
  have e : beAll 4 [x] = [UInt8.ofNat (x / 16777216), UInt8.ofNat (x / 65536), UInt8.ofNat (x / 256), UInt8.ofNat x] := by simp [beAll, beM, List.range_succ]
  rw [e]
  have e1 : ((UInt8.ofNat (x / 16777216)).toNat : Int) = (x : Int) / 16777216 := by rw [UInt8.toNat_ofNat']; omega
  have e2 : ((UInt8.ofNat (x / 65536)).toNat : Int) = (x : Int) / 65536 % 256 := by rw [UInt8.toNat_ofNat']; omega
  have e3 : ((UInt8.ofNat (x / 256)).toNat : Int) = (x : Int) / 256 % 256 := by rw [UInt8.toNat_ofNat']; omega
  have e4 : ((UInt8.ofNat x).toNat : Int) = (x : Int) % 256 := by rw [UInt8.toNat_ofNat']; omega
  simp only [bys, List.map_cons, List.map_nil, e1, e2, e3, e4]
theorem be4_wrap (x : Nat) (h : x < 4294967296) : IntKind.wrap .u8 ((x : Int) / 16777216) = (x : Int) / 16777216 ∧ IntKind.wrap .u8 ((x : Int) / 65536 % 256) = (x : Int) / 65536 % 256 ∧ IntKind.wrap .u8 ((x : Int) / 256 % 256) = (x : Int) / 256 % 256 ∧ IntKind.wrap .u8 ((x : Int) % 256) = (x : Int) % 256 :=
  ⟨IntWalk.u8_in _ (by omega), IntWalk.u8_in _ (by omega), IntWalk.u8_in _ (by omega), IntWalk.u8_in _ (by omega)⟩
theorem be4_len (x : Nat) : (beAll 4 [x]).length = 4 := by simp [beAll_len]
def hd8 (u : UInt8) : List UInt8 := [0, 1, 8, 0, 6, 4, 0, u]
theorem hd8_form (u : UInt8) (h : u.toNat = 1 ∨ u.toNat = 2) : headL ++ beAll 2 [u.toNat] = hd8 u := by
  rw [beAll_two]
  rcases h with h | h
  · obtain rfl : u = 1 := UInt8.toNat_inj.1 h
    rfl
  · obtain rfl : u = 2 := UInt8.toNat_inj.1 h
    rfl
set_option maxRecDepth 100000 in
set_option maxHeartbeats 4000000 in
theorem rbytes_yes (p : Pk) (hp : p.ok) (w : World) : Calls Try.prog 25 #[qkv p] w fun e w' => ∃ v, e = .returned v ∧ Made w w' v (bytesP p) := by
  have hP := QB.new w 53 p
  have hk := (Kept.refl Nil w).alloc (.cells (qcs p).toArray 53)
  go_enter Try.func25, Try.ntmps25
  go_upto_region 1 with (fail)
  refine wp_nameE (fun W => QB W w.heap.size 53 p ∧ Kept Nil w W ∧ W.heap.size = w.heap.size + 1) ⟨hP, hk, by simp⟩ ?_
  clear hP hk
  rintro W ⟨hP, hk, hz⟩
  have HK := Lib.hid hk
  have HP := Lib.hid hP
  have HZ := Lib.hid hz
  have HOK := Lib.hid hp
  have c0 := hP.co
  clear hP hk hz hp
  obtain ⟨i0, hi, hz0, hz1, hz2⟩ := info_parts Try.infb
  cases hm : mayP p
  · have HM := Lib.hid (show bytesP p = [] by unfold bytesP; rw [hm]; rfl)
    have h12 : ¬ (p.o = 1 ∨ p.o = 2) := of_decide_eq_false hm
    have b1 : ((p.o : Int) != 1) = true := by simp; omega
    have b2 : ((p.o : Int) != 2) = true := by simp; omega
    clear hm h12
    go_wp2
    go_ret
    refine ⟨_, rfl, ?_, HK.out⟩
    rw [HM.out]
    exact World.ownsRow_nil _ _ _ _
  · have h12 : p.o = 1 ∨ p.o = 2 := of_decide_eq_true hm
    have HM := Lib.hid (show bytesP p = formP p by unfold bytesP; rw [hm]; rfl)
    obtain ⟨u, hu⟩ : ∃ u : UInt8, p.o = u.toNat := ⟨UInt8.ofNat p.o, by rw [UInt8.toNat_ofNat']; omega⟩
    rw [hu] at c0 h12
    have hw8 : IntKind.wrap .u8 (u.toNat : Int) = (u.toNat : Int) := IntWalk.u8_in _ (by have := u.toNat_lt; omega)
    have H12 := Lib.hid h12
    have HU := Lib.hid hu
    clear hm hu
    rcases h12 with h1 | h1
    · have b1 : ((u.toNat : Int) != 1) = false := by simp; omega
      clear h1
      have hk1 := (Kept.refl Nil W).alloc (.cells #[.int .u8 0, .int .u8 1, .int .u8 8, .int .u8 0, .int .u8 6, .int .u8 4, .int .u8 0, .int .u8 (u.toNat : Int)] 5)
      go_upto_region 5 with (first
        | (at_builtin; refine wpList_any rfl _ _ 26 rfl (w.heap.size + 1) 5 i0 (.int .u8 0) Try.underlying26 hi hz0 hz1 hz2 rfl (.slice none 0 0) 0 [] rfl (World.ownsRow_nil _ _ _ _) _ 8 8 (hd8 u) rfl (byt_lit _ (hd8 u) _ _ rfl 8 rfl _ rfl (by show 8 ≤ _; decide)) (by decide) (by have := HZ.out; simp; omega) ?_; intro v1 w1 hown hgr _)
        | fail)
      rw [Nat.zero_add, List.nil_append] at hown
      have hkg : Kept Nil W w1 := hk1.then ((Kept.refl Nil _).grown hgr (fun k hk => by cases hk))
      have HO1 := Lib.hid hown
      have HP1 := Lib.hid (HP.out.kept hkg (fun hf => hf))
      have HK1 := Lib.hid (HK.out.then hkg)
      clear hown hgr hkg hk1 c0 hw8
      have HY1 := Lib.hid (byt_row (HP1.out.rf) (by rw [HOK.out.f]; decide) 6 HOK.out.f)
      have HSZ1 := Lib.hid (show w.heap.size + 1 ≤ w1.heap.size by have := HP1.out.lt; omega)
      go_upto_region 6 with (first
        | (at_builtin; refine wpList_any rfl _ _ 26 rfl (w.heap.size + 1) 5 i0 (.int .u8 0) Try.underlying26 hi hz0 hz1 hz2 rfl v1 8 (bys (hd8 u)) rfl HO1.out (some ⟨w.heap.size, 1, none⟩) 6 6 p.f rfl HY1.out (by decide) (by have := HSZ1.out; simp; omega) ?_; intro v2 w2 hown hgr _)
        | fail)
      have hkg : Kept (fun k => v1.ownBlock = some k) w1 w2 := (Kept.refl _ w1).grown hgr (fun k hk _ => hk)
      rw [← bys_app, show 8 + 6 = 14 from rfl] at hown
      have HO2 := Lib.hid hown
      have hlo : ∀ k, v1.ownBlock = some k → w.heap.size + 1 ≤ k := fun k hk => (HO1.out.lt k hk).1
      have HP2 := Lib.hid (HP1.out.kept hkg (fun hf => by have := hlo _ hf; omega))
      have HK2 := Lib.hid (HK1.out.fresh hkg (fun k hk => by have := hlo _ hk; omega))
      clear hown hgr hkg hlo
      have c2 := HP2.out.cx HOK.out
      have hx2 := HOK.out.x
      obtain ⟨ww21, ww22, ww23, ww24⟩ := be4_wrap p.x hx2
      have hka2 := (Kept.refl (fun k => v2.ownBlock = some k) w2).alloc (.cells #[.int .u8 ((p.x : Int) / 16777216), .int .u8 ((p.x : Int) / 65536 % 256), .int .u8 ((p.x : Int) / 256 % 256), .int .u8 ((p.x : Int) % 256)] 5)
      have HOA2 := Lib.hid (own_kept HO2.out ((Kept.refl Nil w2).alloc (.cells #[.int .u8 ((p.x : Int) / 16777216), .int .u8 ((p.x : Int) / 65536 % 256), .int .u8 ((p.x : Int) / 256 % 256), .int .u8 ((p.x : Int) % 256)] 5)) (fun _ _ hf => hf))
      have HSZ2 := Lib.hid (show w.heap.size + 1 ≤ w2.heap.size by have := HP2.out.lt; omega)
      go_upto_region 7 with (first
        | (at_builtin; refine wpList_any rfl _ _ 26 rfl (w.heap.size + 1) 5 i0 (.int .u8 0) Try.underlying26 hi hz0 hz1 hz2 rfl v2 14 (bys (hd8 u ++ p.f)) rfl HOA2.out _ 4 4 (beAll 4 [p.x]) rfl (byt_lit _ (beAll 4 [p.x]) _ _ (be4_cells p.x HOK.out.x) 4 (be4_len _) _ rfl (by rw [be4_len]; decide)) (by decide) (by have := HSZ2.out; simp; omega) ?_; intro v3 w3 hown hgr _)
        | fail)
      have hkg : Kept (fun k => v2.ownBlock = some k) w2 w3 := (hka2).grown hgr (fun k hk _ => hk)
      rw [← bys_app, show 14 + 4 = 18 from rfl] at hown
      have HO3 := Lib.hid hown
      have hlo : ∀ k, v2.ownBlock = some k → w.heap.size + 1 ≤ k := fun k hk => (HO2.out.lt k hk).1
      have HP3 := Lib.hid (HP2.out.kept hkg (fun hf => by have := hlo _ hf; omega))
      have HK3 := Lib.hid (HK2.out.fresh hkg (fun k hk => by have := hlo _ hk; omega))
      clear hown hgr hkg hlo c2 hx2 ww21 ww22 ww23 ww24 hka2
      have HY3 := Lib.hid (byt_row (HP3.out.rt HOK.out) (by rw [HOK.out.t]; decide) 6 HOK.out.t)
      have HSZ3 := Lib.hid (show w.heap.size + 1 ≤ w3.heap.size by have := HP3.out.lt; omega)
      go_upto_region 8 with (first
        | (at_builtin; refine wpList_any rfl _ _ 26 rfl (w.heap.size + 1) 5 i0 (.int .u8 0) Try.underlying26 hi hz0 hz1 hz2 rfl v3 18 (bys (hd8 u ++ p.f ++ beAll 4 [p.x])) rfl HO3.out (some ⟨w.heap.size, 7, none⟩) 6 6 p.t rfl HY3.out (by decide) (by have := HSZ3.out; simp; omega) ?_; intro v4 w4 hown hgr _)
        | fail)
      have hkg : Kept (fun k => v3.ownBlock = some k) w3 w4 := (Kept.refl _ w3).grown hgr (fun k hk _ => hk)
      rw [← bys_app, show 18 + 6 = 24 from rfl] at hown
      have HO4 := Lib.hid hown
      have hlo : ∀ k, v3.ownBlock = some k → w.heap.size + 1 ≤ k := fun k hk => (HO3.out.lt k hk).1
      have HP4 := Lib.hid (HP3.out.kept hkg (fun hf => by have := hlo _ hf; omega))
      have HK4 := Lib.hid (HK3.out.fresh hkg (fun k hk => by have := hlo _ hk; omega))
      clear hown hgr hkg hlo
      have c4 := HP4.out.cy HOK.out
      have hx4 := HOK.out.y
      obtain ⟨ww41, ww42, ww43, ww44⟩ := be4_wrap p.y hx4
      have hka4 := (Kept.refl (fun k => v4.ownBlock = some k) w4).alloc (.cells #[.int .u8 ((p.y : Int) / 16777216), .int .u8 ((p.y : Int) / 65536 % 256), .int .u8 ((p.y : Int) / 256 % 256), .int .u8 ((p.y : Int) % 256)] 5)
      have HOA4 := Lib.hid (own_kept HO4.out ((Kept.refl Nil w4).alloc (.cells #[.int .u8 ((p.y : Int) / 16777216), .int .u8 ((p.y : Int) / 65536 % 256), .int .u8 ((p.y : Int) / 256 % 256), .int .u8 ((p.y : Int) % 256)] 5)) (fun _ _ hf => hf))
      have HSZ4 := Lib.hid (show w.heap.size + 1 ≤ w4.heap.size by have := HP4.out.lt; omega)
      go_wp2_with (first
        | (at_builtin; refine wpList_any rfl _ _ 26 rfl (w.heap.size + 1) 5 i0 (.int .u8 0) Try.underlying26 hi hz0 hz1 hz2 rfl v4 24 (bys (hd8 u ++ p.f ++ beAll 4 [p.x] ++ p.t)) rfl HOA4.out _ 4 4 (beAll 4 [p.y]) rfl (byt_lit _ (beAll 4 [p.y]) _ _ (be4_cells p.y HOK.out.y) 4 (be4_len _) _ rfl (by rw [be4_len]; decide)) (by decide) (by have := HSZ4.out; simp; omega) ?_; intro v5 w5 hown hgr _)
        | fail)
      have hkg : Kept (fun k => v4.ownBlock = some k) w4 w5 := (hka4).grown hgr (fun k hk _ => hk)
      rw [← bys_app, show 24 + 4 = 28 from rfl] at hown
      have HO5 := Lib.hid hown
      have hlo : ∀ k, v4.ownBlock = some k → w.heap.size + 1 ≤ k := fun k hk => (HO4.out.lt k hk).1
      have HP5 := Lib.hid (HP4.out.kept hkg (fun hf => by have := hlo _ hf; omega))
      have HK5 := Lib.hid (HK4.out.fresh hkg (fun k hk => by have := hlo _ hk; omega))
      clear hown hgr hkg hlo c4 hx4 ww41 ww42 ww43 ww44 hka4
      have HF := Lib.hid (show bytesP p = hd8 u ++ p.f ++ beAll 4 [p.x] ++ p.t ++ beAll 4 [p.y] by rw [HM.out]; unfold formP; rw [HU.out, hd8_form u H12.out])
      have HL := Lib.hid (show (hd8 u ++ p.f ++ beAll 4 [p.x] ++ p.t ++ beAll 4 [p.y]).length = 28 by simp [hd8, HOK.out.f, HOK.out.t, beAll_len])
      go_wp2
      go_ret
      refine ⟨_, rfl, ?_, HK5.out⟩
      rw [HF.out, HL.out]
      exact own_mono HO5.out (by omega)
    · have b1 : ((u.toNat : Int) != 1) = true := by simp; omega
      have b2 : ((u.toNat : Int) != 2) = false := by simp; omega
      clear h1
      have hk1 := (Kept.refl Nil W).alloc (.cells #[.int .u8 0, .int .u8 1, .int .u8 8, .int .u8 0, .int .u8 6, .int .u8 4, .int .u8 0, .int .u8 (u.toNat : Int)] 5)
      go_upto_region 5 with (first
        | (at_builtin; refine wpList_any rfl _ _ 26 rfl (w.heap.size + 1) 5 i0 (.int .u8 0) Try.underlying26 hi hz0 hz1 hz2 rfl (.slice none 0 0) 0 [] rfl (World.ownsRow_nil _ _ _ _) _ 8 8 (hd8 u) rfl (byt_lit _ (hd8 u) _ _ rfl 8 rfl _ rfl (by show 8 ≤ _; decide)) (by decide) (by have := HZ.out; simp; omega) ?_; intro v1 w1 hown hgr _)
        | fail)
      rw [Nat.zero_add, List.nil_append] at hown
      have hkg : Kept Nil W w1 := hk1.then ((Kept.refl Nil _).grown hgr (fun k hk => by cases hk))
      have HO1 := Lib.hid hown
      have HP1 := Lib.hid (HP.out.kept hkg (fun hf => hf))
      have HK1 := Lib.hid (HK.out.then hkg)
      clear hown hgr hkg hk1 c0 hw8
      have HY1 := Lib.hid (byt_row (HP1.out.rf) (by rw [HOK.out.f]; decide) 6 HOK.out.f)
      have HSZ1 := Lib.hid (show w.heap.size + 1 ≤ w1.heap.size by have := HP1.out.lt; omega)
      go_upto_region 6 with (first
        | (at_builtin; refine wpList_any rfl _ _ 26 rfl (w.heap.size + 1) 5 i0 (.int .u8 0) Try.underlying26 hi hz0 hz1 hz2 rfl v1 8 (bys (hd8 u)) rfl HO1.out (some ⟨w.heap.size, 1, none⟩) 6 6 p.f rfl HY1.out (by decide) (by have := HSZ1.out; simp; omega) ?_; intro v2 w2 hown hgr _)
        | fail)
      have hkg : Kept (fun k => v1.ownBlock = some k) w1 w2 := (Kept.refl _ w1).grown hgr (fun k hk _ => hk)
      rw [← bys_app, show 8 + 6 = 14 from rfl] at hown
      have HO2 := Lib.hid hown
      have hlo : ∀ k, v1.ownBlock = some k → w.heap.size + 1 ≤ k := fun k hk => (HO1.out.lt k hk).1
      have HP2 := Lib.hid (HP1.out.kept hkg (fun hf => by have := hlo _ hf; omega))
      have HK2 := Lib.hid (HK1.out.fresh hkg (fun k hk => by have := hlo _ hk; omega))
      clear hown hgr hkg hlo
      have c2 := HP2.out.cx HOK.out
      have hx2 := HOK.out.x
      obtain ⟨ww21, ww22, ww23, ww24⟩ := be4_wrap p.x hx2
      have hka2 := (Kept.refl (fun k => v2.ownBlock = some k) w2).alloc (.cells #[.int .u8 ((p.x : Int) / 16777216), .int .u8 ((p.x : Int) / 65536 % 256), .int .u8 ((p.x : Int) / 256 % 256), .int .u8 ((p.x : Int) % 256)] 5)
      have HOA2 := Lib.hid (own_kept HO2.out ((Kept.refl Nil w2).alloc (.cells #[.int .u8 ((p.x : Int) / 16777216), .int .u8 ((p.x : Int) / 65536 % 256), .int .u8 ((p.x : Int) / 256 % 256), .int .u8 ((p.x : Int) % 256)] 5)) (fun _ _ hf => hf))
      have HSZ2 := Lib.hid (show w.heap.size + 1 ≤ w2.heap.size by have := HP2.out.lt; omega)
      go_upto_region 7 with (first
        | (at_builtin; refine wpList_any rfl _ _ 26 rfl (w.heap.size + 1) 5 i0 (.int .u8 0) Try.underlying26 hi hz0 hz1 hz2 rfl v2 14 (bys (hd8 u ++ p.f)) rfl HOA2.out _ 4 4 (beAll 4 [p.x]) rfl (byt_lit _ (beAll 4 [p.x]) _ _ (be4_cells p.x HOK.out.x) 4 (be4_len _) _ rfl (by rw [be4_len]; decide)) (by decide) (by have := HSZ2.out; simp; omega) ?_; intro v3 w3 hown hgr _)
        | fail)
      have hkg : Kept (fun k => v2.ownBlock = some k) w2 w3 := (hka2).grown hgr (fun k hk _ => hk)
      rw [← bys_app, show 14 + 4 = 18 from rfl] at hown
      have HO3 := Lib.hid hown
      have hlo : ∀ k, v2.ownBlock = some k → w.heap.size + 1 ≤ k := fun k hk => (HO2.out.lt k hk).1
      have HP3 := Lib.hid (HP2.out.kept hkg (fun hf => by have := hlo _ hf; omega))
      have HK3 := Lib.hid (HK2.out.fresh hkg (fun k hk => by have := hlo _ hk; omega))
      clear hown hgr hkg hlo c2 hx2 ww21 ww22 ww23 ww24 hka2
      have HY3 := Lib.hid (byt_row (HP3.out.rt HOK.out) (by rw [HOK.out.t]; decide) 6 HOK.out.t)
      have HSZ3 := Lib.hid (show w.heap.size + 1 ≤ w3.heap.size by have := HP3.out.lt; omega)
      go_upto_region 8 with (first
        | (at_builtin; refine wpList_any rfl _ _ 26 rfl (w.heap.size + 1) 5 i0 (.int .u8 0) Try.underlying26 hi hz0 hz1 hz2 rfl v3 18 (bys (hd8 u ++ p.f ++ beAll 4 [p.x])) rfl HO3.out (some ⟨w.heap.size, 7, none⟩) 6 6 p.t rfl HY3.out (by decide) (by have := HSZ3.out; simp; omega) ?_; intro v4 w4 hown hgr _)
        | fail)
      have hkg : Kept (fun k => v3.ownBlock = some k) w3 w4 := (Kept.refl _ w3).grown hgr (fun k hk _ => hk)
      rw [← bys_app, show 18 + 6 = 24 from rfl] at hown
      have HO4 := Lib.hid hown
      have hlo : ∀ k, v3.ownBlock = some k → w.heap.size + 1 ≤ k := fun k hk => (HO3.out.lt k hk).1
      have HP4 := Lib.hid (HP3.out.kept hkg (fun hf => by have := hlo _ hf; omega))
      have HK4 := Lib.hid (HK3.out.fresh hkg (fun k hk => by have := hlo _ hk; omega))
      clear hown hgr hkg hlo
      have c4 := HP4.out.cy HOK.out
      have hx4 := HOK.out.y
      obtain ⟨ww41, ww42, ww43, ww44⟩ := be4_wrap p.y hx4
      have hka4 := (Kept.refl (fun k => v4.ownBlock = some k) w4).alloc (.cells #[.int .u8 ((p.y : Int) / 16777216), .int .u8 ((p.y : Int) / 65536 % 256), .int .u8 ((p.y : Int) / 256 % 256), .int .u8 ((p.y : Int) % 256)] 5)
      have HOA4 := Lib.hid (own_kept HO4.out ((Kept.refl Nil w4).alloc (.cells #[.int .u8 ((p.y : Int) / 16777216), .int .u8 ((p.y : Int) / 65536 % 256), .int .u8 ((p.y : Int) / 256 % 256), .int .u8 ((p.y : Int) % 256)] 5)) (fun _ _ hf => hf))
      have HSZ4 := Lib.hid (show w.heap.size + 1 ≤ w4.heap.size by have := HP4.out.lt; omega)
      go_wp2_with (first
        | (at_builtin; refine wpList_any rfl _ _ 26 rfl (w.heap.size + 1) 5 i0 (.int .u8 0) Try.underlying26 hi hz0 hz1 hz2 rfl v4 24 (bys (hd8 u ++ p.f ++ beAll 4 [p.x] ++ p.t)) rfl HOA4.out _ 4 4 (beAll 4 [p.y]) rfl (byt_lit _ (beAll 4 [p.y]) _ _ (be4_cells p.y HOK.out.y) 4 (be4_len _) _ rfl (by rw [be4_len]; decide)) (by decide) (by have := HSZ4.out; simp; omega) ?_; intro v5 w5 hown hgr _)
        | fail)
      have hkg : Kept (fun k => v4.ownBlock = some k) w4 w5 := (hka4).grown hgr (fun k hk _ => hk)
      rw [← bys_app, show 24 + 4 = 28 from rfl] at hown
      have HO5 := Lib.hid hown
      have hlo : ∀ k, v4.ownBlock = some k → w.heap.size + 1 ≤ k := fun k hk => (HO4.out.lt k hk).1
      have HP5 := Lib.hid (HP4.out.kept hkg (fun hf => by have := hlo _ hf; omega))
      have HK5 := Lib.hid (HK4.out.fresh hkg (fun k hk => by have := hlo _ hk; omega))
      clear hown hgr hkg hlo c4 hx4 ww41 ww42 ww43 ww44 hka4
      have HF := Lib.hid (show bytesP p = hd8 u ++ p.f ++ beAll 4 [p.x] ++ p.t ++ beAll 4 [p.y] by rw [HM.out]; unfold formP; rw [HU.out, hd8_form u H12.out])
      have HL := Lib.hid (show (hd8 u ++ p.f ++ beAll 4 [p.x] ++ p.t ++ beAll 4 [p.y]).length = 28 by simp [hd8, HOK.out.f, HOK.out.t, beAll_len])
      go_wp2
      go_ret
      refine ⟨_, rfl, ?_, HK5.out⟩
      rw [HF.out, HL.out]
      exact own_mono HO5.out (by omega)
end Go.Proofs.Ytddpdopccejmbaa
