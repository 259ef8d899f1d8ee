/- tollref06: a head's cells; contract of fits. -/
import Derived.Test.YtflhbidmjlfjkaaDoorInD
import Derived.Test.YtflhbidmjlfjkaaDoorAgg
import Derived.Test.YtflhbidmjlfjkaaDoorRgD
import Derived.Deep.DeepCutAuto
namespace Go.Proofs.YtflhbidmjlfjkaaDoor
open Go.RowKit Go.Sort
set_option linter.unusedVariables false

/-- A head's eleven cells, its options where they stand. -/
def hcs (h : Hd) (A : Option Addr) (n c : Nat) : List Value := [.int .u8 (h.t.toNat : Int), .int .u8 (h.l.toNat : Int), .int .u8 (h.p.toNat : Int), .int .u16 (h.i : Int), .bool h.e, .bool h.d, .bool h.m, .int .i64 h.o, .int .u32 (h.s : Int), .int .u32 (h.g : Int), .slice A n c]
def hdv (h : Hd) (A : Option Addr) (n c : Nat) : Value := .agg (hcs h A n c).toArray
theorem hcs_len (h : Hd) (A : Option Addr) (n c : Nat) : (hcs h A n c).length = 11 := rfl
theorem hcs_one (h : Hd) (A : Option Addr) (n c : Nat) : ∀ u ∈ hcs h A n c, u.oneCell' = true := by
  intro u hu
  simp only [hcs, List.mem_cons, List.not_mem_nil, or_false] at hu
  rcases hu with rfl | rfl | rfl | rfl | rfl | rfl | rfl | rfl | rfl | rfl | rfl <;> rfl
def HB (w : World) (g : Nat) (T : TypeId) (h : Hd) (A : Option Addr) (n c : Nat) : Prop := Blo w g T (hcs h A n c).toArray
section
variable {w w' : World} {g : Nat} {T : TypeId} {h : Hd} {A : Option Addr} {n c : Nat}
theorem HB.all (b : HB w g T h A n c) : Row w g 0 (hcs h A n c) := Blo.row [] _ [] (by rw [List.nil_append, List.append_nil]; exact b)
theorem HB.ct (b : HB w g T h A n c) : w.cell? ⟨g, 0, none⟩ = some (.int .u8 (h.t.toNat : Int)) := b.all 0 _ rfl
theorem HB.cl (b : HB w g T h A n c) : w.cell? ⟨g, 1, none⟩ = some (.int .u8 (h.l.toNat : Int)) := b.all 1 _ rfl
theorem HB.cp (b : HB w g T h A n c) : w.cell? ⟨g, 2, none⟩ = some (.int .u8 (h.p.toNat : Int)) := b.all 2 _ rfl
theorem HB.ci (b : HB w g T h A n c) : w.cell? ⟨g, 3, none⟩ = some (.int .u16 (h.i : Int)) := b.all 3 _ rfl
theorem HB.ce (b : HB w g T h A n c) : w.cell? ⟨g, 4, none⟩ = some (.bool h.e) := b.all 4 _ rfl
theorem HB.cd (b : HB w g T h A n c) : w.cell? ⟨g, 5, none⟩ = some (.bool h.d) := b.all 5 _ rfl
theorem HB.cm (b : HB w g T h A n c) : w.cell? ⟨g, 6, none⟩ = some (.bool h.m) := b.all 6 _ rfl
theorem HB.co (b : HB w g T h A n c) : w.cell? ⟨g, 7, none⟩ = some (.int .i64 h.o) := b.all 7 _ rfl
theorem HB.cs (b : HB w g T h A n c) : w.cell? ⟨g, 8, none⟩ = some (.int .u32 (h.s : Int)) := b.all 8 _ rfl
theorem HB.cg (b : HB w g T h A n c) : w.cell? ⟨g, 9, none⟩ = some (.int .u32 (h.g : Int)) := b.all 9 _ rfl
theorem HB.cx (b : HB w g T h A n c) : w.cell? ⟨g, 10, none⟩ = some (.slice A n c) := b.all 10 _ rfl
theorem HB.kept {F : Nat → Prop} (b : HB w g T h A n c) (k : Kept F w w') (hg : ¬ F g) : HB w' g T h A n c := Blo.kept b k hg
theorem HB.new (w : World) (T : TypeId) (h : Hd) (A : Option Addr) (n c : Nat) : HB (w.alloc (.cells (hcs h A n c).toArray T)) w.heap.size T h A n c := Blo.new w T _
theorem HB.lt (b : HB w g T h A n c) : g < w.heap.size := Blo.lt b
theorem HB.of_all {h' : Hd} {A' : Option Addr} {n' c' : Nat} (b : Blo w g T ((hcs h A n c).take 0 ++ hcs h' A' n' c' ++ (hcs h A n c).drop (0 + (hcs h' A' n' c').length)).toArray) : HB w g T h' A' n' c' := b
end
theorem infH (h : Hd) (A : Option Addr) (n c : Nat) : (Tryd.prog.info? 34).map (·.size) = some (hcs h A n c).length := by rw [hcs_len]; kernel_rfl

set_option maxHeartbeats 2000000 in
theorem gfits_yes (h : Hd) (A : Option Addr) (n c : Nat) (many : Nat) (ho : 0 ≤ h.o ∧ h.o ≤ 8191) (hm : many ≤ 1099511627776) (w : World) : Calls Tryd.prog 45 #[hdv h A n c, .int .i64 (many : Int)] w fun e w' => e = .returned (.bool (fitsM h many)) ∧ Kept Nil w w' := by
  have hP := HB.new w 34 h A n c
  have hk := (Kept.refl Nil w).alloc (.cells (hcs h A n c).toArray 34)
  go_enter Tryd.func45, Tryd.ntmps45
  go_upto_region 1 with (fail)
  refine wp_nameE (fun W => HB W w.heap.size 34 h A n c ∧ Kept Nil w W) ⟨hP, hk⟩ ?_
  clear hP hk
  rintro W ⟨hP, hk⟩
  have c0 := hP.co
  have c1 := hP.cm
  have HK := Lib.hid hk
  clear hP hk
  obtain ⟨ho1, ho2⟩ := ho
  by_cases h1 : h.o * 8 + (many : Int) ≤ 65535
  · cases hmm : h.m with
    | false =>
      have hf : fitsM h many = true := by unfold fitsM; rw [hmm]; simp; exact h1
      have HF := Lib.hid hf
      rw [hmm] at c1
      clear hf hmm
      generalize h.o = o at *
      go_wp2
      go_ret
      exact ⟨by rw [HF.out]; rfl, HK.out⟩
    | true =>
      by_cases h8 : many % 8 = 0
      · have h8' : ((many : Int) % 8 != 0) = false := by simp; omega
        have hf : fitsM h many = true := by unfold fitsM; rw [hmm]; simp; exact ⟨h1, h8⟩
        have HF := Lib.hid hf
        rw [hmm] at c1
        clear hf hmm
        generalize h.o = o at *
        go_wp2
        go_ret
        exact ⟨by rw [HF.out]; rfl, HK.out⟩
      · have h8' : ((many : Int) % 8 != 0) = true := by simp; omega
        have hf : fitsM h many = false := by unfold fitsM; rw [hmm]; simp [h8]
        have HF := Lib.hid hf
        rw [hmm] at c1
        clear hf hmm
        generalize h.o = o at *
        go_wp2
        go_ret
        exact ⟨by rw [HF.out]; rfl, HK.out⟩
  · have hf : fitsM h many = false := by unfold fitsM; simp; intro h2; exact absurd h2 h1
    have HF := Lib.hid hf
    clear hf
    generalize h.o = o at *
    go_wp2
    go_ret
    exact ⟨by rw [HF.out]; rfl, HK.out⟩
end Go.Proofs.YtflhbidmjlfjkaaDoor
