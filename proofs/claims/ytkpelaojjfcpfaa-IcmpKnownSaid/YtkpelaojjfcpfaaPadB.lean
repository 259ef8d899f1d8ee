/- Contracts of package cut's pad, second part: Lay, Byte, Two, Four, Mac, Len, Done, Fill. -/
import Derived.Test.YtkpelaojjfcpfaaPadA
namespace Go.Proofs.Ytkpelaojjfcpfaa
open Go.RowKit
set_option linter.unusedVariables false

theorem Lay_yes (w : World) : Calls Try.prog 28 #[] w fun e w' => e = .returned (.pointer (some ⟨w.heap.size, 0, none⟩)) ∧ Padd w' w.heap.size w.heap.size (.slice none 0 0) [] ∧ Kept Nil w w' := by
  go_enter Try.func28, Try.ntmps28
  go_wp2
  go_ret
  exact ⟨rfl, ⟨Blo.new w 85 #[.bool true, .slice none 0 0], World.ownsRow_nil _ _ _ _, Nat.le_refl _⟩, (Kept.refl _ _).alloc _⟩
theorem Padd.mono {w : World} {B B' g : Nat} {v : Value} {l : List UInt8} (h : Padd w B g v l) (hB : B' ≤ B) : Padd w B' g v l := ⟨h.blo, own_mono h.own hB, Nat.le_trans hB h.ge⟩

theorem PByte_yes (B g : Nat) (v : Value) (l : List UInt8) (A : Option Addr) (n c : Nat) (xs : List Nat) (w : World) (h : Padd w B g v l) (hs : Nums .u8 w A n c xs) (hB : B ≤ w.heap.size)
    (hap : ∀ i, Lies A n i → ¬ foot g v i) (hbd : l.length + n * 1 ≤ 1099511627776) (hx : ∀ x ∈ xs, x < 256 ^ 1) :
    Calls Try.prog 29 #[.pointer (some ⟨g, 0, none⟩), .slice A n c] w fun e w' =>
      ∃ v', e = .returned (.pointer (some ⟨g, 0, none⟩)) ∧ Padd w' B g v' (l ++ beAll 1 xs) ∧ Kept (foot g v) w w' ∧ Newer w.heap.size v v' := by
  go_enter Try.func29, Try.ntmps29
  go_wp2_with fail
  refine (lay8 B g v l A n c xs _ h hs hB hap hbd hx).mono ?_
  rintro e w1 ⟨v', rfl, hp, hk, hn⟩
  have HP := Lib.hid hp
  have HK := Lib.hid hk
  have HN := Lib.hid hn
  clear hp hk hn h hs hap
  go_wp2
  go_ret
  exact ⟨_, rfl, HP.out, HK.out, HN.out⟩
theorem PTwo_yes (B g : Nat) (v : Value) (l : List UInt8) (A : Option Addr) (n c : Nat) (xs : List Nat) (w : World) (h : Padd w B g v l) (hs : Nums .u16 w A n c xs) (hB : B ≤ w.heap.size)
    (hap : ∀ i, Lies A n i → ¬ foot g v i) (hbd : l.length + n * 2 ≤ 1099511627776) (hx : ∀ x ∈ xs, x < 256 ^ 2) :
    Calls Try.prog 30 #[.pointer (some ⟨g, 0, none⟩), .slice A n c] w fun e w' =>
      ∃ v', e = .returned (.pointer (some ⟨g, 0, none⟩)) ∧ Padd w' B g v' (l ++ beAll 2 xs) ∧ Kept (foot g v) w w' ∧ Newer w.heap.size v v' := by
  go_enter Try.func30, Try.ntmps30
  go_wp2_with fail
  refine (lay16 B g v l A n c xs _ h hs hB hap hbd hx).mono ?_
  rintro e w1 ⟨v', rfl, hp, hk, hn⟩
  have HP := Lib.hid hp
  have HK := Lib.hid hk
  have HN := Lib.hid hn
  clear hp hk hn h hs hap
  go_wp2
  go_ret
  exact ⟨_, rfl, HP.out, HK.out, HN.out⟩
theorem PFour_yes (B g : Nat) (v : Value) (l : List UInt8) (A : Option Addr) (n c : Nat) (xs : List Nat) (w : World) (h : Padd w B g v l) (hs : Nums .u32 w A n c xs) (hB : B ≤ w.heap.size)
    (hap : ∀ i, Lies A n i → ¬ foot g v i) (hbd : l.length + n * 4 ≤ 1099511627776) (hx : ∀ x ∈ xs, x < 256 ^ 4) :
    Calls Try.prog 39 #[.pointer (some ⟨g, 0, none⟩), .slice A n c] w fun e w' =>
      ∃ v', e = .returned (.pointer (some ⟨g, 0, none⟩)) ∧ Padd w' B g v' (l ++ beAll 4 xs) ∧ Kept (foot g v) w w' ∧ Newer w.heap.size v v' := by
  go_enter Try.func39, Try.ntmps39
  go_wp2_with fail
  refine (lay32 B g v l A n c xs _ h hs hB hap hbd hx).mono ?_
  rintro e w1 ⟨v', rfl, hp, hk, hn⟩
  have HP := Lib.hid hp
  have HK := Lib.hid hk
  have HN := Lib.hid hn
  clear hp hk hn h hs hap
  go_wp2
  go_ret
  exact ⟨_, rfl, HP.out, HK.out, HN.out⟩

theorem Done_yes (B g : Nat) (v : Value) (l : List UInt8) (w : World) (h : Padd w B g v l) (hl : l.length ≤ 140737488355328) :
    Calls Try.prog 32 #[.pointer (some ⟨g, 0, none⟩)] w fun e w' => ∃ v', e = .returned v' ∧ Made w w' v' l := by
  obtain ⟨A, c, rfl, hb, _⟩ := Byt.of_own h.own
  have h0 := h.c0
  have h1 := h.c1
  go_enter Try.func32, Try.ntmps32
  go_wp2_with (go_at_call 51; refine (pnone_yes g _ h0).mono ?_; rintro e w' ⟨rfl, rfl⟩)
  refine (sclone A l.length c l _ hb hl).mono ?_
  rintro e w1 ⟨v', rfl, hm⟩
  have HM := Lib.hid hm
  clear hm hb h
  go_wp2
  go_ret
  exact ⟨_, rfl, HM.out⟩

theorem Fill_bad (B g : Nat) (v : Value) (l : List UInt8) (z : Int) (x : Int) (w : World) (h : Padd w B g v l) (hl : l.length ≤ 140737488355328) (hz : z < 0 ∨ (l.length : Int) - 2 < z) :
    Calls Try.prog 31 #[.pointer (some ⟨g, 0, none⟩), .int .i64 z, .int .u16 x] w fun e w' => e = .returned (.int .i64 1) ∧ w = w' := by
  obtain ⟨A, c, rfl⟩ := own_form h.own
  have h0 := h.c0
  have h1 := h.c1
  clear h
  by_cases hn : z < 0
  · go_enter Try.func31, Try.ntmps31
    go_wp2_with (go_at_call 51; refine (pnone_yes g _ h0).mono ?_; rintro e w' ⟨rfl, rfl⟩)
    go_ret
    exact ⟨rfl, rfl⟩
  · have hz2 : (l.length : Int) - 2 < z := by omega
    clear hz
    go_enter Try.func31, Try.ntmps31
    go_wp2_with (go_at_call 51; refine (pnone_yes g _ h0).mono ?_; rintro e w' ⟨rfl, rfl⟩)
    go_ret
    exact ⟨rfl, rfl⟩


theorem Fill_ok (B g : Nat) (v : Value) (l : List UInt8) (k x : Nat) (w : World) (h : Padd w B g v l) (hl : l.length ≤ 140737488355328) (hk : k + 2 ≤ l.length) (hx : x < 65536) :
    Calls Try.prog 31 #[.pointer (some ⟨g, 0, none⟩), .int .i64 (k : Int), .int .u16 (x : Int)] w fun e w' =>
      e = .returned (.int .i64 0) ∧ Padd w' B g v ((l.set k (UInt8.ofNat (x / 256))).set (k + 1) (UInt8.ofNat x)) ∧ Kept (foot g v) w w' := by
  have hown := h.own
  obtain ⟨A, c, rfl⟩ := own_form hown
  obtain ⟨r, rfl⟩ : ∃ r, A = some ⟨r, 0, none⟩ := by
    rcases hown.2 with ⟨e, e'⟩ | ⟨g', cap, cur, e, _⟩
    · omega
    · injection e with e1 e2; exact ⟨g', e1⟩
  have hne : r ≠ g := fun e => h.own_ne (by rw [e]; rfl)
  have h0 := h.c0
  have h1 := h.c1
  have a0 := hown.cellAt k (by omega)
  have f0 := hown.frozenAt k
  have e8 : (x : Int) / 256 = ((UInt8.ofNat (x / 256)).toNat : Int) := by rw [UInt8.toNat_ofNat']; omega
  have e9 : (x : Int) % 256 = ((UInt8.ofNat x).toNat : Int) := by rw [UInt8.toNat_ofNat']; omega
  have s0 := hown.stored k (.int .u8 ((x : Int) / 256))
  have o0 := s0.1
  rw [show (bys l).set k (.int .u8 ((x : Int) / 256)) = bys (l.set k (UInt8.ofNat (x / 256))) from by rw [e8, bys_set]] at o0
  have a1 := o0.cellAt (k + 1) (by omega)
  have f1 := o0.frozenAt (k + 1)
  have s1 := o0.stored (k + 1) (.int .u8 ((x : Int) % 256))
  have o1 := s1.1
  rw [show (bys (l.set k (UInt8.ofNat (x / 256)))).set (k + 1) (.int .u8 ((x : Int) % 256)) = bys ((l.set k (UInt8.ofNat (x / 256))).set (k + 1) (UInt8.ofNat x)) from by rw [e9, bys_set]] at o1
  have e0 : (bys l)[k]? = some (.int .u8 (l[k].toNat : Int)) := by simp [bys, show k < l.length by omega]
  have e1 : (bys (l.set k (UInt8.ofNat (x / 256))))[k + 1]? = some (.int .u8 (l[k + 1].toNat : Int)) := by
    simp [bys, show k + 1 < l.length by omega]
  rw [e0] at a0
  rw [e1] at a1
  have hb1 : Blo (w.setCell ⟨r, k, none⟩ (.int .u8 ((x : Int) / 256))) g 85 #[.bool true, .slice (some ⟨r, 0, none⟩) l.length c] := h.blo.far (Ne.symm hne) _
  have h1' := hb1.cell 1
  have hb2 := hb1.far (p := ⟨r, k + 1, none⟩) (Ne.symm hne) (.int .u8 ((x : Int) % 256))
  have Hfin : Hid (Padd ((w.setCell ⟨r, k, none⟩ (.int .u8 ((x : Int) / 256))).setCell ⟨r, k + 1, none⟩ (.int .u8 ((x : Int) % 256))) B g (.slice (some ⟨r, 0, none⟩) l.length c) ((l.set k (UInt8.ofNat (x / 256))).set (k + 1) (UInt8.ofNat x))) :=
    ⟨hb2, by simpa using o1, h.ge⟩
  have hkk : (k : Int) ≤ (l.length : Int) - 2 := by omega
  clear s0 s1 hb1 hb2 e0 e1 hown h o0 o1 e8 e9
  go_enter Try.func31, Try.ntmps31
  go_wp2_with (go_at_call 51; refine (pnone_yes g _ h0).mono ?_; rintro e w' ⟨rfl, rfl⟩)
  go_ret
  exact ⟨rfl, Hfin.out, ((Kept.refl _ _).put (.inr rfl) _).put (.inr rfl) _⟩

/-- A slice of stations' addresses reads as ms. -/
def Macs (w : World) (A : Option Addr) (n c : Nat) (ms : List (List UInt8)) : Prop :=
  ms.length = n ∧ n ≤ c ∧ c ≤ 9223372036854775807 ∧ (∀ m ∈ ms, m.length = 6) ∧ (0 < n → ∃ b o, A = some ⟨b, o, none⟩ ∧ ∀ i (h : i < ms.length) j (hj : j < ms[i].length), w.cell? ⟨b, o + i * 6 + j, none⟩ = some (.int .u8 (ms[i][j].toNat : Int)))
theorem Macs.kept {w w' : World} {A : Option Addr} {n c : Nat} {ms : List (List UInt8)} {F : Nat → Prop} (h : Macs w A n c ms) (q : Kept F w w') (hF : ∀ i, Lies A n i → ¬ F i) : Macs w' A n c ms := by
  refine ⟨h.1, h.2.1, h.2.2.1, h.2.2.2.1, fun hn => ?_⟩
  obtain ⟨b, o, rfl, hc⟩ := h.2.2.2.2 hn
  exact ⟨b, o, rfl, fun i hi j hj => q.cell (hc i hi j hj) (hF b ⟨hn, _, rfl, rfl⟩)⟩

end Go.Proofs.Ytkpelaojjfcpfaa
