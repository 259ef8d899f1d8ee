/- Contracts of package cut's pad, third part: calls whose values are written out where they are laid. -/
import Derived.Test.YtbkjobmjapbmpaaPadB
namespace Go.Proofs.Ytbkjobmjapbmpaa
open Go.RowKit
set_option linter.unusedVariables false

theorem Padd.foot_lt {w : World} {B g : Nat} {v : Value} {l : List UInt8} (h : Padd w B g v l) : ∀ i, foot g v i → i < w.heap.size := by
  rintro i (rfl | hf)
  · exact h.blo.lt
  · exact (h.own.lt _ hf).2
theorem Padd.lit_apart {w : World} {B g n : Nat} {v : Value} {l : List UInt8} (h : Padd w B g v l) : ∀ i, Lies (some ⟨w.heap.size, 0, none⟩) n i → ¬ foot g v i := by
  rintro i ⟨_, ad, e, rfl⟩ hf
  cases e
  have := h.foot_lt _ hf
  simp at this

theorem beAll_bytes (l : List UInt8) : beAll 1 (l.map UInt8.toNat) = l := by
  induction l with
  | nil => rfl
  | cons b l ih =>
    have : beAll 1 ((b :: l).map UInt8.toNat) = beM 1 b.toNat ++ beAll 1 (l.map UInt8.toNat) := rfl
    rw [this, ih]
    simp [beM, List.range_succ]
theorem beAll_two (x : Nat) : beAll 2 [x] = [UInt8.ofNat (x / 256), UInt8.ofNat x] := by simp [beAll, beM, List.range_succ]

theorem PByte_lit (B g : Nat) (v : Value) (l : List UInt8) (xs : List Nat) (w : World) (t : TypeId) (h : Padd w B g v l) (hB : B ≤ w.heap.size) (hbd : l.length + xs.length * 1 ≤ 1099511627776) (hx : ∀ x ∈ xs, x < 256 ^ 1) :
    Calls Try.prog 44 #[.pointer (some ⟨g, 0, none⟩), .slice (some ⟨w.heap.size, 0, none⟩) xs.length xs.length] (w.alloc (.cells (xs.map fun x : Nat => Value.int .u8 (x : Int)).toArray t)) fun e w' =>
      ∃ v', e = .returned (.pointer (some ⟨g, 0, none⟩)) ∧ Padd w' B g v' (l ++ beAll 1 xs) ∧ Kept (foot g v) w w' ∧ Newer w.heap.size v v' := by
  refine (PByte_yes B g v l _ _ _ xs _ (h.kept ((Kept.refl Nil w).alloc _) (fun _ _ hf => hf)) (Nums.lit .u8 w xs t (by omega)) (by simp; omega) h.lit_apart hbd hx).mono ?_
  rintro e w' ⟨v', rfl, hp, hk, hn⟩
  exact ⟨v', rfl, hp, ((Kept.refl (foot g v) w).alloc _).same hk, (Newer.refl w.heap.size v).trans hn (by simp)⟩
theorem PTwo_lit (B g : Nat) (v : Value) (l : List UInt8) (xs : List Nat) (w : World) (t : TypeId) (h : Padd w B g v l) (hB : B ≤ w.heap.size) (hbd : l.length + xs.length * 2 ≤ 1099511627776) (hx : ∀ x ∈ xs, x < 256 ^ 2) :
    Calls Try.prog 69 #[.pointer (some ⟨g, 0, none⟩), .slice (some ⟨w.heap.size, 0, none⟩) xs.length xs.length] (w.alloc (.cells (xs.map fun x : Nat => Value.int .u16 (x : Int)).toArray t)) fun e w' =>
      ∃ v', e = .returned (.pointer (some ⟨g, 0, none⟩)) ∧ Padd w' B g v' (l ++ beAll 2 xs) ∧ Kept (foot g v) w w' ∧ Newer w.heap.size v v' := by
  refine (PTwo_yes B g v l _ _ _ xs _ (h.kept ((Kept.refl Nil w).alloc _) (fun _ _ hf => hf)) (Nums.lit .u16 w xs t (by omega)) (by simp; omega) h.lit_apart hbd hx).mono ?_
  rintro e w' ⟨v', rfl, hp, hk, hn⟩
  exact ⟨v', rfl, hp, ((Kept.refl (foot g v) w).alloc _).same hk, (Newer.refl w.heap.size v).trans hn (by simp)⟩
theorem PFour_lit (B g : Nat) (v : Value) (l : List UInt8) (xs : List Nat) (w : World) (t : TypeId) (h : Padd w B g v l) (hB : B ≤ w.heap.size) (hbd : l.length + xs.length * 4 ≤ 1099511627776) (hx : ∀ x ∈ xs, x < 256 ^ 4) :
    Calls Try.prog 43 #[.pointer (some ⟨g, 0, none⟩), .slice (some ⟨w.heap.size, 0, none⟩) xs.length xs.length] (w.alloc (.cells (xs.map fun x : Nat => Value.int .u32 (x : Int)).toArray t)) fun e w' =>
      ∃ v', e = .returned (.pointer (some ⟨g, 0, none⟩)) ∧ Padd w' B g v' (l ++ beAll 4 xs) ∧ Kept (foot g v) w w' ∧ Newer w.heap.size v v' := by
  refine (PFour_yes B g v l _ _ _ xs _ (h.kept ((Kept.refl Nil w).alloc _) (fun _ _ hf => hf)) (Nums.lit .u32 w xs t (by omega)) (by simp; omega) h.lit_apart hbd hx).mono ?_
  rintro e w' ⟨v', rfl, hp, hk, hn⟩
  exact ⟨v', rfl, hp, ((Kept.refl (foot g v) w).alloc _).same hk, (Newer.refl w.heap.size v).trans hn (by simp)⟩

theorem PMac_lit (B g : Nat) (v : Value) (l : List UInt8) (m : List UInt8) (hm : m.length = 6) (w : World) (t : TypeId) (h : Padd w B g v l) (hB : B ≤ w.heap.size) (hbd : l.length + 1 * 6 ≤ 1099511627776) :
    Calls Try.prog 70 #[.pointer (some ⟨g, 0, none⟩), .slice (some ⟨w.heap.size, 0, none⟩) 1 1] (w.alloc (.cells (bys m).toArray t)) fun e w' =>
      ∃ v', e = .returned (.pointer (some ⟨g, 0, none⟩)) ∧ Padd w' B g v' (l ++ m) ∧ Kept (foot g v) w w' ∧ Newer w.heap.size v v' := by
  have hs : Macs (w.alloc (.cells (bys m).toArray t)) (some ⟨w.heap.size, 0, none⟩) 1 1 [m] := by
    refine ⟨rfl, Nat.le_refl _, by omega, by simpa using hm, fun _ => ⟨w.heap.size, 0, rfl, fun i hi j hj => ?_⟩⟩
    have : i = 0 := by simp at hi; omega
    subst this
    have := (Byt.lit w m t (by omega)).2.2.2 (by omega)
    obtain ⟨b, o, e, hc⟩ := this
    cases e
    simpa using hc j (by simpa using hj)
  refine (PMac_yes B g v l _ 1 1 [m] _ (h.kept ((Kept.refl Nil w).alloc _) (fun _ _ hf => hf)) hs (by simp; omega) h.lit_apart hbd).mono ?_
  rintro e w' ⟨v', rfl, hp, hk, hn⟩
  exact ⟨v', rfl, by simpa using hp, ((Kept.refl (foot g v) w).alloc _).same hk, (Newer.refl w.heap.size v).trans hn (by simp)⟩
end Go.Proofs.Ytbkjobmjapbmpaa
