/- Texts that belong together, one behind the other: PadC, TrI. Conditions: those of each. -/
import Derived.Test.YthjbabkmjmfmjaaDoorMg22
import Derived.Test.YthjbabkmjmfmjaaDoorMg19
import Derived.Test.YthjbabkmjmfmjaaDoorMg20
import Derived.Test.YthjbabkmjmfmjaaDoorMg21
import Derived.Test.YthjbabkmjmfmjaaDoorCutD
import Derived.Test.YthjbabkmjmfmjaaDoorMg6
/- Contracts of package cut's pad, third part: calls whose values are written out where they are laid. -/
namespace Go.Proofs.YthjbabkmjmfmjaaDoor
open Go.RowKit
set_option linter.unusedVariables false

theorem Padd.foot_lt {w : World} {B g : Nat} {v : Value} {l : List UInt8} (h : Padd w B g v l) : ∀ i, foot g v i → i < w.heap.size := by
  rintro i (rfl | hf)
  · exact h.blo.lt
  · exact (h.own.lt _ hf).2
theorem Padd.lit_apart {w : World} {B g n : Nat} {v : Value} {l : List UInt8} (h : Padd w B g v l) : ∀ i, Lies (some ⟨w.heap.size, 0, none⟩) n i → ¬ foot g v i := by
  rintro i ⟨_, ad, e, rfl⟩ hf
  cases e
  have := h.foot_lt _ hf
  simp at this

theorem beAll_bytes (l : List UInt8) : beAll 1 (l.map UInt8.toNat) = l := by
  induction l with
  | nil => rfl
  | cons b l ih =>
    have : beAll 1 ((b :: l).map UInt8.toNat) = beM 1 b.toNat ++ beAll 1 (l.map UInt8.toNat) := rfl
    rw [this, ih]
    simp [beM, List.range_succ]
theorem beAll_two (x : Nat) : beAll 2 [x] = [UInt8.ofNat (x / 256), UInt8.ofNat x] := by simp [beAll, beM, List.range_succ]

theorem PByte_lit (B g : Nat) (v : Value) (l : List UInt8) (xs : List Nat) (w : World) (t : TypeId) (h : Padd w B g v l) (hB : B ≤ w.heap.size) (hbd : l.length + xs.length * 1 ≤ 1099511627776) (hx : ∀ x ∈ xs, x < 256 ^ 1) :
    Calls Tryd.prog 47 #[.pointer (some ⟨g, 0, none⟩), .slice (some ⟨w.heap.size, 0, none⟩) xs.length xs.length] (w.alloc (.cells (xs.map fun x : Nat => Value.int .u8 (x : Int)).toArray t)) fun e w' =>
      ∃ v', e = .returned (.pointer (some ⟨g, 0, none⟩)) ∧ Padd w' B g v' (l ++ beAll 1 xs) ∧ Kept (foot g v) w w' ∧ Newer w.heap.size v v' := by
  refine (PByte_yes B g v l _ _ _ xs _ (h.kept ((Kept.refl Nil w).alloc _) (fun _ _ hf => hf)) (Nums.lit .u8 w xs t (by omega)) (by simp; omega) h.lit_apart hbd hx).mono ?_
  rintro e w' ⟨v', rfl, hp, hk, hn⟩
  exact ⟨v', rfl, hp, ((Kept.refl (foot g v) w).alloc _).same hk, (Newer.refl w.heap.size v).trans hn (by simp)⟩
theorem PTwo_lit (B g : Nat) (v : Value) (l : List UInt8) (xs : List Nat) (w : World) (t : TypeId) (h : Padd w B g v l) (hB : B ≤ w.heap.size) (hbd : l.length + xs.length * 2 ≤ 1099511627776) (hx : ∀ x ∈ xs, x < 256 ^ 2) :
    Calls Tryd.prog 54 #[.pointer (some ⟨g, 0, none⟩), .slice (some ⟨w.heap.size, 0, none⟩) xs.length xs.length] (w.alloc (.cells (xs.map fun x : Nat => Value.int .u16 (x : Int)).toArray t)) fun e w' =>
      ∃ v', e = .returned (.pointer (some ⟨g, 0, none⟩)) ∧ Padd w' B g v' (l ++ beAll 2 xs) ∧ Kept (foot g v) w w' ∧ Newer w.heap.size v v' := by
  refine (PTwo_yes B g v l _ _ _ xs _ (h.kept ((Kept.refl Nil w).alloc _) (fun _ _ hf => hf)) (Nums.lit .u16 w xs t (by omega)) (by simp; omega) h.lit_apart hbd hx).mono ?_
  rintro e w' ⟨v', rfl, hp, hk, hn⟩
  exact ⟨v', rfl, hp, ((Kept.refl (foot g v) w).alloc _).same hk, (Newer.refl w.heap.size v).trans hn (by simp)⟩
theorem PFour_lit (B g : Nat) (v : Value) (l : List UInt8) (xs : List Nat) (w : World) (t : TypeId) (h : Padd w B g v l) (hB : B ≤ w.heap.size) (hbd : l.length + xs.length * 4 ≤ 1099511627776) (hx : ∀ x ∈ xs, x < 256 ^ 4) :
    Calls Tryd.prog 55 #[.pointer (some ⟨g, 0, none⟩), .slice (some ⟨w.heap.size, 0, none⟩) xs.length xs.length] (w.alloc (.cells (xs.map fun x : Nat => Value.int .u32 (x : Int)).toArray t)) fun e w' =>
      ∃ v', e = .returned (.pointer (some ⟨g, 0, none⟩)) ∧ Padd w' B g v' (l ++ beAll 4 xs) ∧ Kept (foot g v) w w' ∧ Newer w.heap.size v v' := by
  refine (PFour_yes B g v l _ _ _ xs _ (h.kept ((Kept.refl Nil w).alloc _) (fun _ _ hf => hf)) (Nums.lit .u32 w xs t (by omega)) (by simp; omega) h.lit_apart hbd hx).mono ?_
  rintro e w' ⟨v', rfl, hp, hk, hn⟩
  exact ⟨v', rfl, hp, ((Kept.refl (foot g v) w).alloc _).same hk, (Newer.refl w.heap.size v).trans hn (by simp)⟩

end Go.Proofs.YthjbabkmjmfmjaaDoor
/- Package trans: contracts of sum, unsummed. -/
namespace Go.Proofs.YthjbabkmjmfmjaaDoor
open Go.RowKit
open Go.Maps (Keyed int_keyed keyOf_int_mk)
set_option linter.unusedVariables false

theorem rowz2 (w : World) (A : Option Addr) (n c : Nat) (a : List UInt8) (B : Option Addr) (m d : Nat) (b : List UInt8) (ha : Byt w A n c a) (hb : Byt w B m d b) (s : Nat) (hs : s = w.heap.size) : Rowz (w.alloc (.cells #[.slice A n c, .slice B m d] 22)) (some ⟨s, 0, none⟩) 2 2 [a, b] := by
  subst hs
  have hB := Blo.new w 22 #[.slice A n c, .slice B m d]
  have hk := (Kept.refl Nil w).alloc (.cells #[.slice A n c, .slice B m d] 22)
  refine ⟨rfl, Nat.le_refl _, by decide, fun _ => ⟨_, _, rfl, fun i hi => ?_⟩⟩
  match i, hi with
  | 0, _ => exact ⟨A, n, c, by rw [hB.cell]; rfl, ha.kept hk (fun _ _ hf => hf)⟩
  | 1, _ => exact ⟨B, m, d, by rw [hB.cell]; rfl, hb.kept hk (fun _ _ hf => hf)⟩
theorem pseu_is (s d p n : Nat) : (([] ++ beAll 4 [s, d]) ++ beAll 1 [0, p]) ++ beAll 2 [n] = pseuM s d p n := by
  unfold pseuM
  simp only [beAll, List.map_cons, List.map_nil, List.flatten_cons, List.flatten_nil, show ∀ x, beM 1 x = [UInt8.ofNat x] from fun x => by simp [beM, List.range_succ], List.append_nil, List.append_assoc, List.cons_append, List.nil_append]
  rfl
set_option maxRecDepth 100000 in
set_option maxHeartbeats 4000000 in
theorem tsum_yes (s d p : Nat) (hs : s < 4294967296) (hd : d < 4294967296) (hp : p < 256) (A : Option Addr) (n c : Nat) (l : List UInt8) (w : World) (h : Byt w A n c l) (hn : n ≤ 65535) :
    Calls Tryd.prog 49 #[.int .u32 (s : Int), .int .u32 (d : Int), .int .u8 (p : Int), .slice A n c] w fun e w' => e = .returned (.int .u16 (sumM (allB s d p l) : Int)) ∧ Kept Nil w w' := by
  have hwn : IntKind.wrap .u16 (n : Int) = (n : Int) := IntWalk.u16_in _ (by omega)
  have HL := Lib.hid h.1
  have HB := Lib.hid h
  clear h
  go_enter Tryd.func49, Tryd.ntmps49
  go_wp2_with (fail)
  refine (Lay_yes _).mono ?_
  rintro e w1 ⟨rfl, hp1, hk1⟩
  obtain ⟨g, hg⟩ : ∃ g, w.heap.size = g := ⟨_, rfl⟩
  rw [hg] at hp1 ⊢
  have HP1 := Lib.hid hp1
  have HK1 := Lib.hid hk1
  have HG := Lib.hid (show g ≤ w1.heap.size by rw [← hg]; exact hk1.size)
  have HGW := Lib.hid hg
  clear hp1 hk1 hg
  go_wp2_with (fail)
  refine (PFour_lit g g _ [] [s, d] w1 23 HP1.out HG.out (by simp) (by intro x hx; simp only [List.mem_cons, List.not_mem_nil, or_false] at hx; rcases hx with rfl | rfl <;> assumption)).mono ?_
  rintro e w2 ⟨v2, rfl, hp2, hk2, hn2⟩
  have HP2 := Lib.hid hp2
  have HK2 := Lib.hid (HK1.out.fresh hk2 (fun i hi => by have := HP1.out.foot_ge i hi; have := HGW.out; omega))
  have HG2 := Lib.hid (Nat.le_trans HG.out hk2.size)
  clear hp2 hk2 hn2 HP1 HK1 HG
  go_wp2_with (fail)
  refine (PByte_lit g g _ _ [0, p] w2 5 HP2.out HG2.out (by simp [beAll_len]) (by intro x hx; simp only [List.mem_cons, List.not_mem_nil, or_false] at hx; rcases hx with rfl | rfl; decide; exact hp)).mono ?_
  rintro e w3 ⟨v3, rfl, hp3, hk3, hn3⟩
  have HP3 := Lib.hid hp3
  have HK3 := Lib.hid (HK2.out.fresh hk3 (fun i hi => by have := HP2.out.foot_ge i hi; have := HGW.out; omega))
  have HG3 := Lib.hid (Nat.le_trans HG2.out hk3.size)
  clear hp3 hk3 hn3 HP2 HK2 HG2
  go_wp2_with (fail)
  refine (PTwo_lit g g _ _ [n] w3 27 HP3.out HG3.out (by simp [beAll_len]) (by intro x hx; simp only [List.mem_cons, List.not_mem_nil, or_false] at hx; rcases hx with rfl; show x < 65536; omega)).mono ?_
  rintro e w4 ⟨v4, rfl, hp4, hk4, hn4⟩
  rw [pseu_is] at hp4
  have HP4 := Lib.hid hp4
  have HK4 := Lib.hid (HK3.out.fresh hk4 (fun i hi => by have := HP3.out.foot_ge i hi; have := HGW.out; omega))
  clear hp4 hk4 hn4 HP3 HK3 HG3
  go_wp2_with (fail)
  refine (Done_yes _ g v4 _ _ HP4.out (by rw [pseu_len]; decide)).mono ?_
  rintro e w5 ⟨v5, rfl, hm5⟩
  obtain ⟨A5, c5, rfl, hb5, -⟩ := Byt.of_own hm5.1
  have HB5 := Lib.hid hb5
  have HK5 := Lib.hid (HK4.out.then hm5.2)
  have HBB := Lib.hid (HB.out.kept HK5.out (fun _ _ hf => hf))
  clear hm5 hb5 HP4 HK4
  go_wp2_with (fail)
  refine (Sum_yes _ 2 2 [pseuM s d p n, l] _ (rowz2 _ _ _ _ _ _ _ _ _ HB5.out HBB.out _ rfl) (by have := HL.out; simp [pseu_len]; omega)).mono ?_
  rintro e w6 ⟨rfl, rfl⟩
  have HE := Lib.hid (show csumM [pseuM s d p n, l].flatten = sumM (allB s d p l) by rw [csum_eq]; unfold allB; rw [HL.out]; simp)
  rw [HE.out]
  go_wp2
  go_ret
  exact ⟨rfl, HK5.out.alloc _⟩
end Go.Proofs.YthjbabkmjmfmjaaDoor
