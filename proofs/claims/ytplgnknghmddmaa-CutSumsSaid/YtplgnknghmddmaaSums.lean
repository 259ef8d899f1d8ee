/- tolllaw01.CutSums: the walk. -/
import Derived.Test.YtplgnknghmddmaaPadC
import Derived.Test.YtplgnknghmddmaaStays
import Derived.Test.YtplgnknghmddmaaSumM2
import Derived.Test.YtplgnknghmddmaaMem3
namespace Go.Proofs.Ytplgnknghmddmaa
open Go.RowKit

theorem rowz1 (w : World) (A : Option Addr) (n c : Nat) (l : List UInt8) (h : Byt w A n c l) (s : Nat) (hs : s = w.heap.size) : Rowz (w.alloc (.cells #[.slice A n c] 22)) (some ⟨s, 0, none⟩) 1 1 [l] := by
  subst hs
  refine ⟨rfl, Nat.le_refl _, by omega, fun _ => ⟨w.heap.size, 0, rfl, fun i hi => ?_⟩⟩
  have : i = 0 := by simp at hi; omega
  subst this
  exact ⟨A, n, c, (Blo.new w 22 _).cell 0, h.kept ((Kept.refl Nil _).alloc _) (fun _ _ hf => hf)⟩
theorem rowz1d (w : World) (A : Option Addr) (n c : Nat) (l : List UInt8) (h : Byt w A n c l) (s : Nat) (hs : s = w.heap.size) : Rowz (w.alloc (.cells #[.slice A n c] 22)).drew (some ⟨s, 0, none⟩) 1 1 [l] := by
  have := rowz1 w A n c l h s hs
  exact this
theorem rowz2 (w : World) (A A' : Option Addr) (n c n' c' : Nat) (l l' : List UInt8) (h : Byt w A n c l) (h' : Byt w A' n' c' l') (s : Nat) (hs : s = w.heap.size) : Rowz (w.alloc (.cells #[.slice A n c, .slice A' n' c'] 22)) (some ⟨s, 0, none⟩) 2 2 [l, l'] := by
  subst hs
  refine ⟨rfl, Nat.le_refl _, by omega, fun _ => ⟨w.heap.size, 0, rfl, fun i hi => ?_⟩⟩
  rcases (show i = 0 ∨ i = 1 by simp at hi; omega) with rfl | rfl
  · exact ⟨A, n, c, (Blo.new w 22 _).cell 0, h.kept ((Kept.refl Nil _).alloc _) (fun _ _ hf => hf)⟩
  · exact ⟨A', n', c', (Blo.new w 22 _).cell 1, h'.kept ((Kept.refl Nil _).alloc _) (fun _ _ hf => hf)⟩

theorem even_i64 (a : Nat) (ha : a < 9223372036854775808) : bits .andNot .i64 (a : Int) 1 = ((a / 2 * 2 : Nat) : Int) := by
  show IntKind.i64.wrap ((BitVec.ofInt 64 (a : Int) &&& ~~~BitVec.ofInt 64 1).toNat : Int) = _
  have h1 : (~~~BitVec.ofInt 64 1).toNat = 18446744073709551614 := by decide
  rw [BitVec.toNat_and, h1, ofInt_u64 a (by omega), nat_hi64_1, IntKind.wrap_i64]
  omega
theorem Rowz.heap {w w' : World} {A : Option Addr} {n c : Nat} {ls : List (List UInt8)} (h : Rowz w A n c ls) (e : w'.heap = w.heap) : Rowz w' A n c ls := by
  refine ⟨h.1, h.2.1, h.2.2.1, fun hn => ?_⟩
  obtain ⟨b, o, rfl, hc⟩ := h.2.2.2 hn
  refine ⟨b, o, rfl, fun i hi => ?_⟩
  obtain ⟨A', n', c', h1, h2⟩ := hc i hi
  exact ⟨A', n', c', by unfold World.cell? at h1 ⊢; rw [e]; exact h1, h2.heap e⟩

set_option maxRecDepth 100000 in
set_option maxHeartbeats 1000000 in
theorem sums_small (A : Option Addr) (n c : Nat) (l : List UInt8) (x : Nat) (w : World) (hnc : n ≤ c) (hcc : c ≤ 9223372036854775807) (h : Byt w A n c l) (hx : x ≤ 65535) (hs : n ≤ 500) :
    Calls Try.prog 6 #[.slice A n c, .int .u16 (x : Int)] w fun e w' => e = .returned (.bool true) ∧ Below w.heap.size w w' := by
  have hlen := h.1
  have HL := Lib.hid hlen
  clear hlen
  go_enter Try.func6, Try.ntmps6
  go_wp2_with fail
  refine (Sum_yes _ 1 1 [l] _ (by exact rowz1 w A n c l h _ rfl) (by have := HL.out; simp; omega)).mono ?_
  rintro e w' ⟨rfl, rfl⟩
  go_wp2_with fail
  obtain ⟨k, hk, hkn⟩ : ∃ k : Nat, ((x : Int) % ((n : Int) + 1)) = (k : Int) ∧ k ≤ n := ⟨x % (n + 1), by simp, by have := Nat.mod_lt x (show 0 < (n + 1) by omega); omega⟩
  simp only [hk]
  have HK := Lib.hid hk
  clear hk
  have hsl1 := run_cut_hi (P := Try.prog) Try.underlying22 inf5.1 A n c k (k : Int) rfl (by omega)
  have hsl2 := run_cut_lo (P := Try.prog) Try.underlying22 inf5.1 inf5.2 A n c k (k : Int) rfl (by omega)
  have HB := Lib.hid h
  clear h
  obtain ⟨W, hW⟩ : ∃ W, W = w.alloc (.cells #[.slice A n c] 22) := ⟨_, rfl⟩
  have hW2 := hW.symm
  have hb0 : Byt W A n c l := by rw [hW]; exact HB.out.kept ((Kept.refl Nil w).alloc _) (fun _ _ hf => hf)
  have K0 : Hid (Kept Nil w W) := by unfold Hid; rw [hW]; exact (Kept.refl Nil w).alloc _
  rw [hW2]
  clear hW hW2 HB
  have hb1 : Byt W A k c (l.take k) := hb0.pre hkn
  have hb2 : Byt W (cutA A c k) (n - k) (c - k) (l.drop k) := by have := hb0.cut (lo := k) (hi := n) hkn (Nat.le_refl _); rw [List.take_of_length_le (by have := HL.out; omega)] at this; exact this
  have HR1 := Lib.hid (rowz2 W A (cutA A c k) k c (n - k) (c - k) _ _ hb1 hb2 W.heap.size rfl)
  have HR2 := Lib.hid (rowz2 (W.alloc (.cells #[.slice A k c, .slice (cutA A c k) (n - k) (c - k)] 22)) A none n c 0 0 _ _ (hb0.kept ((Kept.refl Nil _).alloc _) (fun _ _ hf => hf)) (Byt.none _) (W.heap.size + 1) (by simp))
  have HR3 := Lib.hid (rowz2 (((W.alloc (.cells #[.slice A k c, .slice (cutA A c k) (n - k) (c - k)] 22)).alloc (.cells #[.slice A n c, .slice none 0 0] 22)).alloc (.cells (bys [0]).toArray 5)) A (some ⟨W.heap.size + 1 + 1, 0, none⟩) n c 1 1 _ [0] (hb0.kept ((((Kept.refl Nil _).alloc _).alloc _).alloc _) (fun _ _ hf => hf)) (by have := Byt.lit ((W.alloc (.cells #[.slice A k c, .slice (cutA A c k) (n - k) (c - k)] 22)).alloc (.cells #[.slice A n c, .slice none 0 0] 22)) [0] 5 (by decide); simpa using this) (W.heap.size + 3) (by simp))
  have hz0 := sumM_zero l
  have HB0 := Lib.hid hb0
  clear hb1 hb2 hb0
  go_region_law (first
    | (go_simp; go_at_call 38; refine Calls.mono (Sum_yes _ 2 2 [l.take k, l.drop k] _ ?_ (by have := HL.out; simp; omega)) ?_; exact HR1.out.heap rfl; rintro e w' ⟨rfl, rfl⟩)
    | (go_simp; go_at_call 38; refine Calls.mono (Sum_yes _ 2 2 [l, []] _ ?_ (by have := HL.out; simp; omega)) ?_; exact HR2.out.heap rfl; rintro e w' ⟨rfl, rfl⟩)
    | (go_simp; go_at_call 38; refine Calls.mono (Sum_yes _ 2 2 [l, [0]] _ ?_ (by have := HL.out; simp; omega)) ?_; exact HR3.out.heap rfl; rintro e w' ⟨rfl, rfl⟩))
  clear hz0 hsl1 hsl2
  obtain ⟨m, hm, hmn, hm2, hmm⟩ : ∃ m : Nat, bits .andNot .i64 (n : Int) 1 = (m : Int) ∧ m ≤ n ∧ m % 2 = 0 ∧ m = n / 2 * 2 := ⟨n / 2 * 2, even_i64 n (by omega), by omega, by omega, rfl⟩
  have HMM := Lib.hid hmm
  clear hmm
  have hsl3 := run_cut_hi (P := Try.prog) Try.underlying22 inf5.1 A n c m (m : Int) rfl (by omega)
  go_wp2_with fail
  refine Calls.mono (Sum_yes _ 1 1 [l.take m] _ ?_ (by have := HL.out; simp; omega)) ?_
  exact rowz1d _ A m c (l.take m) ((HB0.out.kept (((((Kept.refl Nil W).alloc _).alloc _).alloc _).alloc _) (fun _ _ hf => hf)).pre hmn) _ (by simp)
  rintro e w4 ⟨rfl, hw4⟩
  have K4 : Hid (Kept Nil w w4) := by rw [← hw4]; exact (((((K0.out.alloc _).alloc _).alloc _).alloc _).alloc _).drew
  have hb4 : Byt w4 A m c (l.take m) := by rw [← hw4]; exact (HB0.out.kept ((((((Kept.refl Nil W).alloc _).alloc _).alloc _).alloc _).alloc _).drew (fun _ _ hf => hf)).pre hmn
  have HB4 := Lib.hid hb4
  have HLA : Hid (∀ i, Lies A m i → i < w4.heap.size) := fun i hi => hb4.lt i hi
  clear hw4 hb4 HB0 HR1 HR2 HR3
  have hl' : (l.take m).length = m := by have := HL.out; simp; omega
  rw [show ([l.take m] : List (List UInt8)).flatten = l.take m from by simp]
  obtain ⟨l', he⟩ : ∃ l', l' = l.take m := ⟨_, rfl⟩
  rw [← he] at HB4 hl' ⊢
  have HL' := Lib.hid hl'
  clear he hl' hsl3
  go_wp2_with fail
  refine (Lay_yes _).mono ?_
  rintro e w5 ⟨rfl, hp5, hk5⟩
  obtain ⟨s4, hs4⟩ : ∃ s4, s4 = w4.heap.size := ⟨_, rfl⟩
  rw [← hs4] at hp5 HLA ⊢
  have hsz5 : s4 ≤ w5.heap.size := by rw [hs4]; exact hk5.size
  have HS4 : Hid (w.heap.size ≤ s4) := by unfold Hid; rw [hs4]; exact K4.out.size
  have K5 := Lib.hid (K4.out.then hk5)
  have hb5 := HB4.out.kept hk5 (fun _ _ hf => hf)
  clear hk5 hs4
  go_wp2_with fail
  refine (PByte_yes s4 s4 _ [] A m c _ _ hp5 hb5.nums hsz5 (fun i hi hf => by have := hp5.foot_ge _ hf; have := HLA.out i hi; omega) (by simp; omega) (fun z hz => by simp only [List.mem_map] at hz; obtain ⟨b', _, rfl⟩ := hz; have := b'.toNat_lt; omega)).mono ?_
  rintro e w6 ⟨v6, rfl, hp6, hk6, hn6⟩
  rw [beAll_bytes, List.nil_append] at hp6
  have hf5 := hp5.foot_ge
  have hb6 := hb5.kept hk6 (fun i hi hf => by have := hf5 _ hf; have := HLA.out i hi; omega)
  have K6 := Lib.hid (K5.out.fresh hk6 (fun i hi => by have := hf5 _ hi; have := HS4.out; omega))
  have hsz6 : s4 ≤ w6.heap.size := Nat.le_trans hsz5 hk6.size
  have hse := sumM_le l'
  have HB6 := Lib.hid hb6
  clear hp5 hk6 hn6 hf5 hb5 hb6
  go_wp2_with fail
  refine (PTwo_lit s4 s4 v6 l' [sumM l'] w6 _ hp6 hsz6 (by have := HL'.out; simp; omega) (by simp; omega)).mono ?_
  rintro e w7 ⟨v7, rfl, hp7, hk7, hn7⟩
  rw [beAll_two] at hp7
  have hf6 := hp6.foot_ge
  have hb7 := HB6.out.kept hk7 (fun i hi hf => by have := hf6 _ hf; have := HLA.out i hi; omega)
  have K7 := Lib.hid (K6.out.fresh hk7 (fun i hi => by have := hf6 _ hi; have := HS4.out; omega))
  have HB7 := Lib.hid hb7
  clear hp6 hk7 hn7 hf6 hb7
  go_wp2_with fail
  refine (Done_yes s4 s4 v7 _ _ hp7 (by have := HL'.out; simp; omega)).mono ?_
  rintro e w8 ⟨v8, rfl, hm8⟩
  obtain ⟨A8, c8, rfl, hb8, hl8⟩ := Byt.of_own hm8.1
  have HE := Lib.hid (HB7.out.kept hm8.2 (fun _ _ hf => hf))
  have K8 := Lib.hid (K7.out.then hm8.2)
  have HB8 := Lib.hid hb8
  clear hm8 hb8 hl8 hp7 HB7 HB6 hsz6 hsz5
  obtain ⟨j0, hj0, hj1, hj2⟩ : ∃ j0 : Nat, bits .andNot .i64 (k : Int) 1 = (j0 : Int) ∧ j0 ≤ m ∧ j0 % 2 = 0 := ⟨k / 2 * 2, even_i64 k (by omega), by have := HMM.out; omega, by omega⟩
  have hj3 : (j0 : Int) % ((m : Int) + 1) = (j0 : Int) := Int.emod_eq_of_lt (by omega) (by omega)
  have hsl4 := run_cut_lo (P := Try.prog) Try.underlying22 inf5.1 inf5.2 A m c j0 (j0 : Int) rfl (by omega)
  have hsl5 := run_cut_hi (P := Try.prog) Try.underlying22 inf5.1 A m c j0 (j0 : Int) rfl (by omega)
  go_wp2_with fail
  simp only [hj3]
  have HJ2 := Lib.hid hj2
  have HM2 := Lib.hid hm2
  have hbA : Byt w8 (cutA A c j0) (m - j0) (c - j0) (l'.drop j0) := by
    have := HE.out.cut (lo := j0) (hi := m) hj1 (Nat.le_refl _)
    rw [List.take_of_length_le (by have := HL'.out; omega)] at this
    exact this
  have HBA := Lib.hid hbA
  obtain ⟨i0, hi, hz0, hz1, hz2⟩ := info_parts Try.infb
  clear hbA hj3 hj2 hm2 hj0 hm
  have hlb : (l'.drop j0).length = m - j0 := by have := HL'.out; simp; omega
  have HLB := Lib.hid hlb
  have HLT : Hid ((l'.take j0).length = j0) := by unfold Hid; have := HL'.out; simp; omega
  clear hlb
  go_region_law (first
    | (refine step_any rfl (.tmp 75) (.tmp 78) 22 rfl w8.heap.size 5 i0 (.int .u8 0) Try.underlying22 hi hz0 hz1 hz2 rfl (.slice A9 (m - j0) c9) (m - j0) _ rfl HO9.out A j0 c (l'.take j0) rfl HB9.out (by omega) HK9.out.size ?_; intro v10 w10 ho10 hg10 hn10; obtain ⟨A10, c10, rfl⟩ := own_form ho10)
    | (go_simp; go_at_call 9; refine (bclone (cutA A c j0) (m - j0) (c - j0) (l'.drop j0) _ (by exact HBA.out.heap rfl) (by omega)).mono ?_; rintro e w9 ⟨v9, rfl, hm9⟩; obtain ⟨ho9, hk9⟩ := hm9; rw [HLB.out] at ho9; obtain ⟨A9, c9, rfl⟩ := own_form ho9; have HO9 : Hid (w9.ownsRow w8.heap.size 5 1 (.slice A9 (m - j0) c9) (m - j0) (bys (l'.drop j0))) := ho9; have HK9 : Hid (Kept Nil w8 w9) := (Kept.refl Nil w8).drew.then hk9; have HB9 := Lib.hid ((HE.out.pre hj1).kept HK9.out (fun _ _ hf => hf)); have HB8' := Lib.hid (HB8.out.kept HK9.out (fun _ _ hf => hf)); clear ho9 hk9))
  have hrl := HO9.out.lt
  have K10 : Hid (Kept (fun k => w8.heap.size ≤ k) w8 w10) := (HK9.out.nil).grown hg10 (fun k hk _ => (hrl k hk).1)
  have K10w : Hid (Kept Nil w w10) := K8.out.fresh K10.out (fun i hi => Nat.le_trans K8.out.size hi)
  have hb10 : Byt w10 A8 (l'.length + 2) c8 (l' ++ [UInt8.ofNat (sumM l' / 256), UInt8.ofNat (sumM l')]) := by
    have := HB8.out.kept K10.out (fun i hi hf => by have := HB8.out.lt i hi; omega)
    simpa using this
  rw [← bys_app] at ho10
  have hlt10 : (l'.drop j0 ++ l'.take j0).length = m - j0 + j0 := by have := HLB.out; have := HLT.out; rw [List.length_append]; omega
  have ht10 : ∃ A c, Value.slice A10 (m - j0 + j0) c10 = .slice A (m - j0 + j0) c ∧ Byt w10 A (m - j0 + j0) c (l'.drop j0 ++ l'.take j0) := by
    have ho := ho10
    rw [← hlt10] at ho ⊢
    obtain ⟨A', c', e, hb, _⟩ := Byt.of_own ho
    exact ⟨A', c', e, hb⟩
  obtain ⟨A', c', e, ht⟩ := ht10
  cases e
  rw [Nat.sub_add_cancel hj1] at ht
  have hsum1 : sumM (l' ++ [UInt8.ofNat (sumM l' / 256), UInt8.ofNat (sumM l')]) = 0 := sumM_sealed l' (by have := HM2.out; have := HL'.out; omega)
  have hsum2 : sumM (l'.drop j0 ++ l'.take j0) = sumM l' := sumM_turn l' j0 HJ2.out (by have := HM2.out; have := HL'.out; omega) (by have := HL'.out; omega)
  have hbl : (l' ++ [UInt8.ofNat (sumM l' / 256), UInt8.ofNat (sumM l')]).length ≤ 1000 := by have := HL'.out; simp; omega
  generalize l' ++ [UInt8.ofNat (sumM l' / 256), UInt8.ofNat (sumM l')] = lw at *
  have hbt : (l'.drop j0 ++ l'.take j0).length ≤ 1000 := by omega
  generalize l'.drop j0 ++ l'.take j0 = lt at *
  have HS1 := Lib.hid hsum1
  have HS2 := Lib.hid hsum2
  have HBw := Lib.hid hb10
  have HBt := Lib.hid ht
  have Hbl := Lib.hid hbl
  have Hbt := Lib.hid hbt
  clear hsum1 hsum2 hb10 ht hbl hbt ho10 hg10 hn10 hlt10 hrl HO9 HB9 HB8' HK9 HBA
  go_wp2_with fail
  refine Calls.mono (Sum_yes _ 1 1 [lw] _ ?_ (by have := Hbl.out; simp; omega)) ?_
  exact rowz1d _ A8 _ c8 lw HBw.out _ (by simp)
  rintro e w11 ⟨rfl, hw11⟩
  have K11 : Hid (Kept Nil w10 w11) := by rw [← hw11]; exact (Kept.refl Nil w10).alloc _
  clear hw11
  rw [show ([lw] : List (List UInt8)).flatten = lw from by simp, HS1.out]
  have HBt2 := Lib.hid (HBt.out.kept K11.out (fun _ _ hf => hf))
  go_wp2_with fail
  refine Calls.mono (Sum_yes _ 1 1 [lt] _ ?_ (by have := Hbt.out; simp; omega)) ?_
  exact rowz1 _ A10 m c10 lt HBt2.out _ rfl
  rintro e w12 ⟨rfl, hw12⟩
  have K12 : Hid (Kept Nil w11 w12) := by rw [← hw12]; exact (Kept.refl Nil w11).alloc _
  clear hw12
  rw [show ([lt] : List (List UInt8)).flatten = lt from by simp, HS2.out]
  go_wp2_with fail
  refine (wakes_yes _).mono ?_
  rintro e w13 ⟨rfl, hk13⟩
  go_wp2
  go_ret
  exact ⟨rfl, (((K10w.out.then K11.out).then K12.out).then hk13).below (Nat.le_refl _) (fun k hf => hf.elim)⟩
set_option maxRecDepth 100000 in
set_option maxHeartbeats 1000000 in
theorem sums_great (A : Option Addr) (n c : Nat) (l : List UInt8) (x : Nat) (w : World) (hnc : n ≤ c) (hcc : c ≤ 9223372036854775807) (h : Byt w A 500 c l) (hx : x ≤ 65535) (hs : 500 < n) :
    Calls Try.prog 6 #[.slice A n c, .int .u16 (x : Int)] w fun e w' => e = .returned (.bool true) ∧ Below w.heap.size w w' := by
  have hlen := h.1
  have HL := Lib.hid hlen
  clear hlen
  go_enter Try.func6, Try.ntmps6
  go_wp2_with fail
  refine (Sum_yes _ 1 1 [l] _ (by exact rowz1 w A 500 c l h _ rfl) (by have := HL.out; simp; omega)).mono ?_
  rintro e w' ⟨rfl, rfl⟩
  go_wp2_with fail
  obtain ⟨k, hk, hkn⟩ : ∃ k : Nat, ((x : Int) % (501 : Int)) = (k : Int) ∧ k ≤ 500 := ⟨x % 501, by simp, by have := Nat.mod_lt x (show 0 < 501 by omega); omega⟩
  simp only [hk]
  have HK := Lib.hid hk
  clear hk
  have hsl1 := run_cut_hi (P := Try.prog) Try.underlying22 inf5.1 A 500 c k (k : Int) rfl (by omega)
  have hsl2 := run_cut_lo (P := Try.prog) Try.underlying22 inf5.1 inf5.2 A 500 c k (k : Int) rfl (by omega)
  have HB := Lib.hid h
  clear h
  obtain ⟨W, hW⟩ : ∃ W, W = w.alloc (.cells #[.slice A 500 c] 22) := ⟨_, rfl⟩
  have hW2 := hW.symm
  have hb0 : Byt W A 500 c l := by rw [hW]; exact HB.out.kept ((Kept.refl Nil w).alloc _) (fun _ _ hf => hf)
  have K0 : Hid (Kept Nil w W) := by unfold Hid; rw [hW]; exact (Kept.refl Nil w).alloc _
  rw [hW2]
  clear hW hW2 HB
  have hb1 : Byt W A k c (l.take k) := hb0.pre hkn
  have hb2 : Byt W (cutA A c k) (500 - k) (c - k) (l.drop k) := by have := hb0.cut (lo := k) (hi := 500) hkn (Nat.le_refl _); rw [List.take_of_length_le (by have := HL.out; omega)] at this; exact this
  have HR1 := Lib.hid (rowz2 W A (cutA A c k) k c (500 - k) (c - k) _ _ hb1 hb2 W.heap.size rfl)
  have HR2 := Lib.hid (rowz2 (W.alloc (.cells #[.slice A k c, .slice (cutA A c k) (500 - k) (c - k)] 22)) A none 500 c 0 0 _ _ (hb0.kept ((Kept.refl Nil _).alloc _) (fun _ _ hf => hf)) (Byt.none _) (W.heap.size + 1) (by simp))
  have HR3 := Lib.hid (rowz2 (((W.alloc (.cells #[.slice A k c, .slice (cutA A c k) (500 - k) (c - k)] 22)).alloc (.cells #[.slice A 500 c, .slice none 0 0] 22)).alloc (.cells (bys [0]).toArray 5)) A (some ⟨W.heap.size + 1 + 1, 0, none⟩) 500 c 1 1 _ [0] (hb0.kept ((((Kept.refl Nil _).alloc _).alloc _).alloc _) (fun _ _ hf => hf)) (by have := Byt.lit ((W.alloc (.cells #[.slice A k c, .slice (cutA A c k) (500 - k) (c - k)] 22)).alloc (.cells #[.slice A 500 c, .slice none 0 0] 22)) [0] 5 (by decide); simpa using this) (W.heap.size + 3) (by simp))
  have hz0 := sumM_zero l
  have HB0 := Lib.hid hb0
  clear hb1 hb2 hb0
  go_region_law (first
    | (go_simp; go_at_call 38; refine Calls.mono (Sum_yes _ 2 2 [l.take k, l.drop k] _ ?_ (by have := HL.out; simp; omega)) ?_; exact HR1.out.heap rfl; rintro e w' ⟨rfl, rfl⟩)
    | (go_simp; go_at_call 38; refine Calls.mono (Sum_yes _ 2 2 [l, []] _ ?_ (by have := HL.out; simp; omega)) ?_; exact HR2.out.heap rfl; rintro e w' ⟨rfl, rfl⟩)
    | (go_simp; go_at_call 38; refine Calls.mono (Sum_yes _ 2 2 [l, [0]] _ ?_ (by have := HL.out; simp; omega)) ?_; exact HR3.out.heap rfl; rintro e w' ⟨rfl, rfl⟩))
  clear hz0 hsl1 hsl2
  obtain ⟨m, hm, hmn, hm2, hmm⟩ : ∃ m : Nat, bits .andNot .i64 (500 : Int) 1 = (m : Int) ∧ m ≤ 500 ∧ m % 2 = 0 ∧ m = 500 / 2 * 2 := ⟨500 / 2 * 2, even_i64 500 (by omega), by omega, by omega, rfl⟩
  have HMM := Lib.hid hmm
  clear hmm
  have hsl3 := run_cut_hi (P := Try.prog) Try.underlying22 inf5.1 A 500 c m (m : Int) rfl (by omega)
  go_wp2_with fail
  refine Calls.mono (Sum_yes _ 1 1 [l.take m] _ ?_ (by have := HL.out; simp; omega)) ?_
  exact rowz1d _ A m c (l.take m) ((HB0.out.kept (((((Kept.refl Nil W).alloc _).alloc _).alloc _).alloc _) (fun _ _ hf => hf)).pre hmn) _ (by simp)
  rintro e w4 ⟨rfl, hw4⟩
  have K4 : Hid (Kept Nil w w4) := by rw [← hw4]; exact (((((K0.out.alloc _).alloc _).alloc _).alloc _).alloc _).drew
  have hb4 : Byt w4 A m c (l.take m) := by rw [← hw4]; exact (HB0.out.kept ((((((Kept.refl Nil W).alloc _).alloc _).alloc _).alloc _).alloc _).drew (fun _ _ hf => hf)).pre hmn
  have HB4 := Lib.hid hb4
  have HLA : Hid (∀ i, Lies A m i → i < w4.heap.size) := fun i hi => hb4.lt i hi
  clear hw4 hb4 HB0 HR1 HR2 HR3
  have hl' : (l.take m).length = m := by have := HL.out; simp; omega
  rw [show ([l.take m] : List (List UInt8)).flatten = l.take m from by simp]
  obtain ⟨l', he⟩ : ∃ l', l' = l.take m := ⟨_, rfl⟩
  rw [← he] at HB4 hl' ⊢
  have HL' := Lib.hid hl'
  clear he hl' hsl3
  go_wp2_with fail
  refine (Lay_yes _).mono ?_
  rintro e w5 ⟨rfl, hp5, hk5⟩
  obtain ⟨s4, hs4⟩ : ∃ s4, s4 = w4.heap.size := ⟨_, rfl⟩
  rw [← hs4] at hp5 HLA ⊢
  have hsz5 : s4 ≤ w5.heap.size := by rw [hs4]; exact hk5.size
  have HS4 : Hid (w.heap.size ≤ s4) := by unfold Hid; rw [hs4]; exact K4.out.size
  have K5 := Lib.hid (K4.out.then hk5)
  have hb5 := HB4.out.kept hk5 (fun _ _ hf => hf)
  clear hk5 hs4
  go_wp2_with fail
  refine (PByte_yes s4 s4 _ [] A m c _ _ hp5 hb5.nums hsz5 (fun i hi hf => by have := hp5.foot_ge _ hf; have := HLA.out i hi; omega) (by simp; omega) (fun z hz => by simp only [List.mem_map] at hz; obtain ⟨b', _, rfl⟩ := hz; have := b'.toNat_lt; omega)).mono ?_
  rintro e w6 ⟨v6, rfl, hp6, hk6, hn6⟩
  rw [beAll_bytes, List.nil_append] at hp6
  have hf5 := hp5.foot_ge
  have hb6 := hb5.kept hk6 (fun i hi hf => by have := hf5 _ hf; have := HLA.out i hi; omega)
  have K6 := Lib.hid (K5.out.fresh hk6 (fun i hi => by have := hf5 _ hi; have := HS4.out; omega))
  have hsz6 : s4 ≤ w6.heap.size := Nat.le_trans hsz5 hk6.size
  have hse := sumM_le l'
  have HB6 := Lib.hid hb6
  clear hp5 hk6 hn6 hf5 hb5 hb6
  go_wp2_with fail
  refine (PTwo_lit s4 s4 v6 l' [sumM l'] w6 _ hp6 hsz6 (by have := HL'.out; simp; omega) (by simp; omega)).mono ?_
  rintro e w7 ⟨v7, rfl, hp7, hk7, hn7⟩
  rw [beAll_two] at hp7
  have hf6 := hp6.foot_ge
  have hb7 := HB6.out.kept hk7 (fun i hi hf => by have := hf6 _ hf; have := HLA.out i hi; omega)
  have K7 := Lib.hid (K6.out.fresh hk7 (fun i hi => by have := hf6 _ hi; have := HS4.out; omega))
  have HB7 := Lib.hid hb7
  clear hp6 hk7 hn7 hf6 hb7
  go_wp2_with fail
  refine (Done_yes s4 s4 v7 _ _ hp7 (by have := HL'.out; simp; omega)).mono ?_
  rintro e w8 ⟨v8, rfl, hm8⟩
  obtain ⟨A8, c8, rfl, hb8, hl8⟩ := Byt.of_own hm8.1
  have HE := Lib.hid (HB7.out.kept hm8.2 (fun _ _ hf => hf))
  have K8 := Lib.hid (K7.out.then hm8.2)
  have HB8 := Lib.hid hb8
  clear hm8 hb8 hl8 hp7 HB7 HB6 hsz6 hsz5
  obtain ⟨j0, hj0, hj1, hj2⟩ : ∃ j0 : Nat, bits .andNot .i64 (k : Int) 1 = (j0 : Int) ∧ j0 ≤ m ∧ j0 % 2 = 0 := ⟨k / 2 * 2, even_i64 k (by omega), by have := HMM.out; omega, by omega⟩
  have hj3 : (j0 : Int) % ((m : Int) + 1) = (j0 : Int) := Int.emod_eq_of_lt (by omega) (by omega)
  have hsl4 := run_cut_lo (P := Try.prog) Try.underlying22 inf5.1 inf5.2 A m c j0 (j0 : Int) rfl (by omega)
  have hsl5 := run_cut_hi (P := Try.prog) Try.underlying22 inf5.1 A m c j0 (j0 : Int) rfl (by omega)
  go_wp2_with fail
  simp only [hj3]
  have HJ2 := Lib.hid hj2
  have HM2 := Lib.hid hm2
  have hbA : Byt w8 (cutA A c j0) (m - j0) (c - j0) (l'.drop j0) := by
    have := HE.out.cut (lo := j0) (hi := m) hj1 (Nat.le_refl _)
    rw [List.take_of_length_le (by have := HL'.out; omega)] at this
    exact this
  have HBA := Lib.hid hbA
  obtain ⟨i0, hi, hz0, hz1, hz2⟩ := info_parts Try.infb
  clear hbA hj3 hj2 hm2 hj0 hm
  have hlb : (l'.drop j0).length = m - j0 := by have := HL'.out; simp; omega
  have HLB := Lib.hid hlb
  have HLT : Hid ((l'.take j0).length = j0) := by unfold Hid; have := HL'.out; simp; omega
  clear hlb
  go_region_law (first
    | (refine step_any rfl (.tmp 75) (.tmp 78) 22 rfl w8.heap.size 5 i0 (.int .u8 0) Try.underlying22 hi hz0 hz1 hz2 rfl (.slice A9 (m - j0) c9) (m - j0) _ rfl HO9.out A j0 c (l'.take j0) rfl HB9.out (by omega) HK9.out.size ?_; intro v10 w10 ho10 hg10 hn10; obtain ⟨A10, c10, rfl⟩ := own_form ho10)
    | (go_simp; go_at_call 9; refine (bclone (cutA A c j0) (m - j0) (c - j0) (l'.drop j0) _ (by exact HBA.out.heap rfl) (by omega)).mono ?_; rintro e w9 ⟨v9, rfl, hm9⟩; obtain ⟨ho9, hk9⟩ := hm9; rw [HLB.out] at ho9; obtain ⟨A9, c9, rfl⟩ := own_form ho9; have HO9 : Hid (w9.ownsRow w8.heap.size 5 1 (.slice A9 (m - j0) c9) (m - j0) (bys (l'.drop j0))) := ho9; have HK9 : Hid (Kept Nil w8 w9) := (Kept.refl Nil w8).drew.then hk9; have HB9 := Lib.hid ((HE.out.pre hj1).kept HK9.out (fun _ _ hf => hf)); have HB8' := Lib.hid (HB8.out.kept HK9.out (fun _ _ hf => hf)); clear ho9 hk9))
  have hrl := HO9.out.lt
  have K10 : Hid (Kept (fun k => w8.heap.size ≤ k) w8 w10) := (HK9.out.nil).grown hg10 (fun k hk _ => (hrl k hk).1)
  have K10w : Hid (Kept Nil w w10) := K8.out.fresh K10.out (fun i hi => Nat.le_trans K8.out.size hi)
  have hb10 : Byt w10 A8 (l'.length + 2) c8 (l' ++ [UInt8.ofNat (sumM l' / 256), UInt8.ofNat (sumM l')]) := by
    have := HB8.out.kept K10.out (fun i hi hf => by have := HB8.out.lt i hi; omega)
    simpa using this
  rw [← bys_app] at ho10
  have hlt10 : (l'.drop j0 ++ l'.take j0).length = m - j0 + j0 := by have := HLB.out; have := HLT.out; rw [List.length_append]; omega
  have ht10 : ∃ A c, Value.slice A10 (m - j0 + j0) c10 = .slice A (m - j0 + j0) c ∧ Byt w10 A (m - j0 + j0) c (l'.drop j0 ++ l'.take j0) := by
    have ho := ho10
    rw [← hlt10] at ho ⊢
    obtain ⟨A', c', e, hb, _⟩ := Byt.of_own ho
    exact ⟨A', c', e, hb⟩
  obtain ⟨A', c', e, ht⟩ := ht10
  cases e
  rw [Nat.sub_add_cancel hj1] at ht
  have hsum1 : sumM (l' ++ [UInt8.ofNat (sumM l' / 256), UInt8.ofNat (sumM l')]) = 0 := sumM_sealed l' (by have := HM2.out; have := HL'.out; omega)
  have hsum2 : sumM (l'.drop j0 ++ l'.take j0) = sumM l' := sumM_turn l' j0 HJ2.out (by have := HM2.out; have := HL'.out; omega) (by have := HL'.out; omega)
  have hbl : (l' ++ [UInt8.ofNat (sumM l' / 256), UInt8.ofNat (sumM l')]).length ≤ 1000 := by have := HL'.out; simp; omega
  generalize l' ++ [UInt8.ofNat (sumM l' / 256), UInt8.ofNat (sumM l')] = lw at *
  have hbt : (l'.drop j0 ++ l'.take j0).length ≤ 1000 := by omega
  generalize l'.drop j0 ++ l'.take j0 = lt at *
  have HS1 := Lib.hid hsum1
  have HS2 := Lib.hid hsum2
  have HBw := Lib.hid hb10
  have HBt := Lib.hid ht
  have Hbl := Lib.hid hbl
  have Hbt := Lib.hid hbt
  clear hsum1 hsum2 hb10 ht hbl hbt ho10 hg10 hn10 hlt10 hrl HO9 HB9 HB8' HK9 HBA
  go_wp2_with fail
  refine Calls.mono (Sum_yes _ 1 1 [lw] _ ?_ (by have := Hbl.out; simp; omega)) ?_
  exact rowz1d _ A8 _ c8 lw HBw.out _ (by simp)
  rintro e w11 ⟨rfl, hw11⟩
  have K11 : Hid (Kept Nil w10 w11) := by rw [← hw11]; exact (Kept.refl Nil w10).alloc _
  clear hw11
  rw [show ([lw] : List (List UInt8)).flatten = lw from by simp, HS1.out]
  have HBt2 := Lib.hid (HBt.out.kept K11.out (fun _ _ hf => hf))
  go_wp2_with fail
  refine Calls.mono (Sum_yes _ 1 1 [lt] _ ?_ (by have := Hbt.out; simp; omega)) ?_
  exact rowz1 _ A10 m c10 lt HBt2.out _ rfl
  rintro e w12 ⟨rfl, hw12⟩
  have K12 : Hid (Kept Nil w11 w12) := by rw [← hw12]; exact (Kept.refl Nil w11).alloc _
  clear hw12
  rw [show ([lt] : List (List UInt8)).flatten = lt from by simp, HS2.out]
  go_wp2_with fail
  refine (wakes_yes _).mono ?_
  rintro e w13 ⟨rfl, hk13⟩
  go_wp2
  go_ret
  exact ⟨rfl, (((K10w.out.then K11.out).then K12.out).then hk13).below (Nat.le_refl _) (fun k hf => hf.elim)⟩
theorem sums_all (A : Option Addr) (n c : Nat) (l : List UInt8) (x : Int) (w : World) (h : Byt w A n c l) (hx : (Lit.int .u16 x).wf = true) :
    Calls Try.prog 6 #[.slice A n c, .int .u16 x] w fun e w' => e = .returned (.bool true) ∧ Below w.heap.size w w' := by
  have hb : 0 ≤ x ∧ x ≤ 65535 := by
    simp [Lit.wf, IntKind.min, IntKind.max, IntKind.signed, IntKind.bits] at hx
    omega
  obtain ⟨k, rfl⟩ := Int.eq_ofNat_of_zero_le hb.1
  rcases Nat.lt_or_ge 500 n with hn | hn
  · exact sums_great A n c _ k w h.2.1 h.2.2.1 (h.pre (Nat.le_of_lt hn)) (by omega) hn
  · exact sums_small A n c l k w h.2.1 h.2.2.1 h (by omega) hn
end Go.Proofs.Ytplgnknghmddmaa
