/- Contracts of package cut's pad, second part: Lay, Byte, Two, Four, Mac, Len, Done, Fill. -/
import Derived.Test.YtjdaaelkaeokeaaPadA
namespace Go.Proofs.Ytjdaaelkaeokeaa
open Go.RowKit
set_option linter.unusedVariables false

theorem Lay_yes (w : World) : Calls Try.prog 38 #[] w fun e w' => e = .returned (.pointer (some ⟨w.heap.size, 0, none⟩)) ∧ Padd w' w.heap.size w.heap.size (.slice none 0 0) [] ∧ Kept Nil w w' := by
  go_enter Try.func38, Try.ntmps38
  go_wp2
  go_ret
  exact ⟨rfl, ⟨Blo.new w 92 #[.bool true, .slice none 0 0], World.ownsRow_nil _ _ _ _, Nat.le_refl _⟩, (Kept.refl _ _).alloc _⟩
theorem Padd.mono {w : World} {B B' g : Nat} {v : Value} {l : List UInt8} (h : Padd w B g v l) (hB : B' ≤ B) : Padd w B' g v l := ⟨h.blo, own_mono h.own hB, Nat.le_trans hB h.ge⟩

theorem PByte_yes (B g : Nat) (v : Value) (l : List UInt8) (A : Option Addr) (n c : Nat) (xs : List Nat) (w : World) (h : Padd w B g v l) (hs : Nums .u8 w A n c xs) (hB : B ≤ w.heap.size)
    (hap : ∀ i, Lies A n i → ¬ foot g v i) (hbd : l.length + n * 1 ≤ 1099511627776) (hx : ∀ x ∈ xs, x < 256 ^ 1) :
    Calls Try.prog 40 #[.pointer (some ⟨g, 0, none⟩), .slice A n c] w fun e w' =>
      ∃ v', e = .returned (.pointer (some ⟨g, 0, none⟩)) ∧ Padd w' B g v' (l ++ beAll 1 xs) ∧ Kept (foot g v) w w' ∧ Newer w.heap.size v v' := by
  go_enter Try.func40, Try.ntmps40
  go_wp2_with fail
  refine (lay8 B g v l A n c xs _ h hs hB hap hbd hx).mono ?_
  rintro e w1 ⟨v', rfl, hp, hk, hn⟩
  have HP := Lib.hid hp
  have HK := Lib.hid hk
  have HN := Lib.hid hn
  clear hp hk hn h hs hap
  go_wp2
  go_ret
  exact ⟨_, rfl, HP.out, HK.out, HN.out⟩
theorem PTwo_yes (B g : Nat) (v : Value) (l : List UInt8) (A : Option Addr) (n c : Nat) (xs : List Nat) (w : World) (h : Padd w B g v l) (hs : Nums .u16 w A n c xs) (hB : B ≤ w.heap.size)
    (hap : ∀ i, Lies A n i → ¬ foot g v i) (hbd : l.length + n * 2 ≤ 1099511627776) (hx : ∀ x ∈ xs, x < 256 ^ 2) :
    Calls Try.prog 39 #[.pointer (some ⟨g, 0, none⟩), .slice A n c] w fun e w' =>
      ∃ v', e = .returned (.pointer (some ⟨g, 0, none⟩)) ∧ Padd w' B g v' (l ++ beAll 2 xs) ∧ Kept (foot g v) w w' ∧ Newer w.heap.size v v' := by
  go_enter Try.func39, Try.ntmps39
  go_wp2_with fail
  refine (lay16 B g v l A n c xs _ h hs hB hap hbd hx).mono ?_
  rintro e w1 ⟨v', rfl, hp, hk, hn⟩
  have HP := Lib.hid hp
  have HK := Lib.hid hk
  have HN := Lib.hid hn
  clear hp hk hn h hs hap
  go_wp2
  go_ret
  exact ⟨_, rfl, HP.out, HK.out, HN.out⟩

theorem Done_yes (B g : Nat) (v : Value) (l : List UInt8) (w : World) (h : Padd w B g v l) (hl : l.length ≤ 140737488355328) :
    Calls Try.prog 41 #[.pointer (some ⟨g, 0, none⟩)] w fun e w' => ∃ v', e = .returned v' ∧ Made w w' v' l := by
  obtain ⟨A, c, rfl, hb, _⟩ := Byt.of_own h.own
  have h0 := h.c0
  have h1 := h.c1
  go_enter Try.func41, Try.ntmps41
  go_wp2_with (go_at_call 55; refine (pnone_yes g _ h0).mono ?_; rintro e w' ⟨rfl, rfl⟩)
  refine (sclone A l.length c l _ hb hl).mono ?_
  rintro e w1 ⟨v', rfl, hm⟩
  have HM := Lib.hid hm
  clear hm hb h
  go_wp2
  go_ret
  exact ⟨_, rfl, HM.out⟩

theorem bys_set (l : List UInt8) (i : Nat) (b : UInt8) : (bys l).set i (.int .u8 (b.toNat : Int)) = bys (l.set i b) := by simp [bys, List.map_set]

/-- A slice of stations' addresses reads as ms. -/
def Macs (w : World) (A : Option Addr) (n c : Nat) (ms : List (List UInt8)) : Prop :=
  ms.length = n ∧ n ≤ c ∧ c ≤ 9223372036854775807 ∧ (∀ m ∈ ms, m.length = 6) ∧ (0 < n → ∃ b o, A = some ⟨b, o, none⟩ ∧ ∀ i (h : i < ms.length) j (hj : j < ms[i].length), w.cell? ⟨b, o + i * 6 + j, none⟩ = some (.int .u8 (ms[i][j].toNat : Int)))
theorem Macs.kept {w w' : World} {A : Option Addr} {n c : Nat} {ms : List (List UInt8)} {F : Nat → Prop} (h : Macs w A n c ms) (q : Kept F w w') (hF : ∀ i, Lies A n i → ¬ F i) : Macs w' A n c ms := by
  refine ⟨h.1, h.2.1, h.2.2.1, h.2.2.2.1, fun hn => ?_⟩
  obtain ⟨b, o, rfl, hc⟩ := h.2.2.2.2 hn
  exact ⟨b, o, rfl, fun i hi j hj => q.cell (hc i hi j hj) (hF b ⟨hn, _, rfl, rfl⟩)⟩

end Go.Proofs.Ytjdaaelkaeokeaa
