/- tolllaw01.wakes: the document's examples hold. -/
import Derived.Test.YtjfffddaiefggaaSum
import Derived.Test.YtjfffddaiefggaaMem2
namespace Go.Proofs.Ytjfffddaiefggaa
open Go.RowKit
set_option linter.unusedVariables false

theorem wakes_yes (w : World) : Calls Try.prog 28 #[] w fun e w' => e = .returned (.bool true) ∧ Kept Nil w w' := by
  have hb1 := Byt.lit w [1, 2, 3] 5 (by decide)
  go_enter Try.func28, Try.ntmps28
  go_wp2_with fail
  refine (new_yes _ 3 3 [1, 2, 3] _ (by exact hb1) (by omega)).mono ?_
  rintro e w1 ⟨g, A, c, rfl, hc, hk, hg, hl⟩
  have K1 := Lib.hid (((Kept.refl Nil w).alloc _).then hk)
  clear hb1 hk
  go_wp2_with fail
  refine (Two_yes g A 3 c _ _ hc).mono ?_
  rintro e w2 ⟨rfl, hc2, hk2⟩
  rw [show (numM (takeM ⟨[1, 2, 3], 0, 0⟩ 2).1 : Int) = 258 from by decide]
  rw [show (takeM ⟨[1, 2, 3], 0, 0⟩ 2).2 = ⟨[1, 2, 3], 2, 0⟩ from rfl] at hc2
  have K2 := Lib.hid (K1.out.fresh hk2 (fun i hi => by cases hi; simp at hg; omega))
  clear hc hk2
  go_wp2_with fail
  refine (Two_yes g A 3 c _ _ hc2).mono ?_
  rintro e w3 ⟨rfl, hc3, hk3⟩
  rw [show (numM (takeM ⟨[1, 2, 3], 2, 0⟩ 2).1 : Int) = 0 from by decide]
  rw [show (takeM ⟨[1, 2, 3], 2, 0⟩ 2).2 = ⟨[1, 2, 3], 2, 4⟩ from rfl] at hc3
  have K3 := Lib.hid (K2.out.fresh hk3 (fun i hi => by cases hi; simp at hg; omega))
  clear hc2 hk3
  go_wp2_with fail
  refine (Byte_yes g A 3 c _ _ hc3).mono ?_
  rintro e w4 ⟨rfl, hc4, hk4⟩
  rw [show (numM (takeM ⟨[1, 2, 3], 2, 4⟩ 1).1 : Int) = 0 from by decide]
  rw [show (takeM ⟨[1, 2, 3], 2, 4⟩ 1).2 = ⟨[1, 2, 3], 2, 4⟩ from rfl] at hc4
  have K4 := Lib.hid (K3.out.fresh hk4 (fun i hi => by cases hi; simp at hg; omega))
  clear hc3 hk4
  go_wp2_with fail
  refine (err_yes g 4 _ hc4.c0 hc4.c3).mono ?_
  rintro e w5 ⟨rfl, rfl⟩
  clear hc4
  have hb2 := Byt.lit w4 [0, 1, 242, 3, 244, 245, 246, 247] 5 (by decide)
  have hb3 := hb2.kept ((Kept.refl Nil _).alloc (.cells #[.slice (some ⟨w4.heap.size, 0, none⟩) 8 8] 22)) (fun _ _ hf => hf)
  have hrow : Rowz ((w4.alloc (.cells (bys [0, 1, 242, 3, 244, 245, 246, 247]).toArray 5)).alloc (.cells #[.slice (some ⟨w4.heap.size, 0, none⟩) 8 8] 22)) (some ⟨w4.heap.size + 1, 0, none⟩) 1 1 [[0, 1, 242, 3, 244, 245, 246, 247]] := by
    refine ⟨rfl, Nat.le_refl _, by omega, fun _ => ⟨w4.heap.size + 1, 0, rfl, fun i hi => ?_⟩⟩
    have : i = 0 := by simp at hi; omega
    subst this
    refine ⟨_, 8, 8, ?_, hb3⟩
    have := (Blo.new (w4.alloc (.cells (bys [0, 1, 242, 3, 244, 245, 246, 247]).toArray 5)) 22 #[.slice (some ⟨w4.heap.size, 0, none⟩) 8 8]).cell 0
    rw [World.size_alloc] at this
    exact this
  clear hb2 hb3
  go_wp2_with fail
  refine (Sum_yes _ 1 1 [[0, 1, 242, 3, 244, 245, 246, 247]] _ (by exact hrow) (by decide)).mono ?_
  rintro e w6 ⟨rfl, rfl⟩
  rw [show (sumM ([[0, 1, 242, 3, 244, 245, 246, 247]] : List (List UInt8)).flatten : Int) = 8717 from by decide]
  clear hrow
  go_wp2
  go_ret
  exact ⟨rfl, (K4.out.alloc _).alloc _⟩
end Go.Proofs.Ytjfffddaiefggaa
