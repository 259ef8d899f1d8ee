/- Texts that belong together, one behind the other: PadB, PadC. Conditions: those of each. -/
import Derived.Test.YthjfeanmgaidcaaMg7
/- Contracts of package cut's pad, second part: Lay, Byte, Two, Four, Mac, Len, Done, Fill. -/
namespace Go.Proofs.Ythjfeanmgaidcaa
open Go.RowKit
set_option linter.unusedVariables false

theorem Lay_yes (w : World) : Calls Try.prog 23 #[] w fun e w' => e = .returned (.pointer (some ⟨w.heap.size, 0, none⟩)) ∧ Padd w' w.heap.size w.heap.size (.slice none 0 0) [] ∧ Kept Nil w w' := by
  go_enter Try.func23, Try.ntmps23
  go_wp2
  go_ret
  exact ⟨rfl, ⟨Blo.new w 104 #[.bool true, .slice none 0 0], World.ownsRow_nil _ _ _ _, Nat.le_refl _⟩, (Kept.refl _ _).alloc _⟩
theorem Padd.mono {w : World} {B B' g : Nat} {v : Value} {l : List UInt8} (h : Padd w B g v l) (hB : B' ≤ B) : Padd w B' g v l := ⟨h.blo, own_mono h.own hB, Nat.le_trans hB h.ge⟩

theorem PByte_yes (B g : Nat) (v : Value) (l : List UInt8) (A : Option Addr) (n c : Nat) (xs : List Nat) (w : World) (h : Padd w B g v l) (hs : Nums .u8 w A n c xs) (hB : B ≤ w.heap.size)
    (hap : ∀ i, Lies A n i → ¬ foot g v i) (hbd : l.length + n * 1 ≤ 1099511627776) (hx : ∀ x ∈ xs, x < 256 ^ 1) :
    Calls Try.prog 24 #[.pointer (some ⟨g, 0, none⟩), .slice A n c] w fun e w' =>
      ∃ v', e = .returned (.pointer (some ⟨g, 0, none⟩)) ∧ Padd w' B g v' (l ++ beAll 1 xs) ∧ Kept (foot g v) w w' ∧ Newer w.heap.size v v' := by
  go_enter Try.func24, Try.ntmps24
  go_wp2_with fail
  refine (lay8 B g v l A n c xs _ h hs hB hap hbd hx).mono ?_
  rintro e w1 ⟨v', rfl, hp, hk, hn⟩
  have HP := Lib.hid hp
  have HK := Lib.hid hk
  have HN := Lib.hid hn
  clear hp hk hn h hs hap
  go_wp2
  go_ret
  exact ⟨_, rfl, HP.out, HK.out, HN.out⟩
theorem PTwo_yes (B g : Nat) (v : Value) (l : List UInt8) (A : Option Addr) (n c : Nat) (xs : List Nat) (w : World) (h : Padd w B g v l) (hs : Nums .u16 w A n c xs) (hB : B ≤ w.heap.size)
    (hap : ∀ i, Lies A n i → ¬ foot g v i) (hbd : l.length + n * 2 ≤ 1099511627776) (hx : ∀ x ∈ xs, x < 256 ^ 2) :
    Calls Try.prog 26 #[.pointer (some ⟨g, 0, none⟩), .slice A n c] w fun e w' =>
      ∃ v', e = .returned (.pointer (some ⟨g, 0, none⟩)) ∧ Padd w' B g v' (l ++ beAll 2 xs) ∧ Kept (foot g v) w w' ∧ Newer w.heap.size v v' := by
  go_enter Try.func26, Try.ntmps26
  go_wp2_with fail
  refine (lay16 B g v l A n c xs _ h hs hB hap hbd hx).mono ?_
  rintro e w1 ⟨v', rfl, hp, hk, hn⟩
  have HP := Lib.hid hp
  have HK := Lib.hid hk
  have HN := Lib.hid hn
  clear hp hk hn h hs hap
  go_wp2
  go_ret
  exact ⟨_, rfl, HP.out, HK.out, HN.out⟩
theorem PFour_yes (B g : Nat) (v : Value) (l : List UInt8) (A : Option Addr) (n c : Nat) (xs : List Nat) (w : World) (h : Padd w B g v l) (hs : Nums .u32 w A n c xs) (hB : B ≤ w.heap.size)
    (hap : ∀ i, Lies A n i → ¬ foot g v i) (hbd : l.length + n * 4 ≤ 1099511627776) (hx : ∀ x ∈ xs, x < 256 ^ 4) :
    Calls Try.prog 25 #[.pointer (some ⟨g, 0, none⟩), .slice A n c] w fun e w' =>
      ∃ v', e = .returned (.pointer (some ⟨g, 0, none⟩)) ∧ Padd w' B g v' (l ++ beAll 4 xs) ∧ Kept (foot g v) w w' ∧ Newer w.heap.size v v' := by
  go_enter Try.func25, Try.ntmps25
  go_wp2_with fail
  refine (lay32 B g v l A n c xs _ h hs hB hap hbd hx).mono ?_
  rintro e w1 ⟨v', rfl, hp, hk, hn⟩
  have HP := Lib.hid hp
  have HK := Lib.hid hk
  have HN := Lib.hid hn
  clear hp hk hn h hs hap
  go_wp2
  go_ret
  exact ⟨_, rfl, HP.out, HK.out, HN.out⟩

theorem Done_yes (B g : Nat) (v : Value) (l : List UInt8) (w : World) (h : Padd w B g v l) (hl : l.length ≤ 140737488355328) :
    Calls Try.prog 28 #[.pointer (some ⟨g, 0, none⟩)] w fun e w' => ∃ v', e = .returned v' ∧ Made w w' v' l := by
  obtain ⟨A, c, rfl, hb, _⟩ := Byt.of_own h.own
  have h0 := h.c0
  have h1 := h.c1
  go_enter Try.func28, Try.ntmps28
  go_wp2_with (go_at_call 57; refine (pnone_yes g _ h0).mono ?_; rintro e w' ⟨rfl, rfl⟩)
  refine (sclone A l.length c l _ hb hl).mono ?_
  rintro e w1 ⟨v', rfl, hm⟩
  have HM := Lib.hid hm
  clear hm hb h
  go_wp2
  go_ret
  exact ⟨_, rfl, HM.out⟩

/-- A slice of stations' addresses reads as ms. -/
def Macs (w : World) (A : Option Addr) (n c : Nat) (ms : List (List UInt8)) : Prop :=
  ms.length = n ∧ n ≤ c ∧ c ≤ 9223372036854775807 ∧ (∀ m ∈ ms, m.length = 6) ∧ (0 < n → ∃ b o, A = some ⟨b, o, none⟩ ∧ ∀ i (h : i < ms.length) j (hj : j < ms[i].length), w.cell? ⟨b, o + i * 6 + j, none⟩ = some (.int .u8 (ms[i][j].toNat : Int)))
theorem Macs.kept {w w' : World} {A : Option Addr} {n c : Nat} {ms : List (List UInt8)} {F : Nat → Prop} (h : Macs w A n c ms) (q : Kept F w w') (hF : ∀ i, Lies A n i → ¬ F i) : Macs w' A n c ms := by
  refine ⟨h.1, h.2.1, h.2.2.1, h.2.2.2.1, fun hn => ?_⟩
  obtain ⟨b, o, rfl, hc⟩ := h.2.2.2.2 hn
  exact ⟨b, o, rfl, fun i hi j hj => q.cell (hc i hi j hj) (hF b ⟨hn, _, rfl, rfl⟩)⟩

theorem PMac_yes (B g : Nat) (v : Value) (l : List UInt8) (A : Option Addr) (n c : Nat) (ms : List (List UInt8)) (w : World) (h : Padd w B g v l) (hs : Macs w A n c ms) (hB : B ≤ w.heap.size)
    (hap : ∀ i, Lies A n i → ¬ foot g v i) (hbd : l.length + n * 6 ≤ 1099511627776) :
    Calls Try.prog 27 #[.pointer (some ⟨g, 0, none⟩), .slice A n c] w fun e w' =>
      ∃ v', e = .returned (.pointer (some ⟨g, 0, none⟩)) ∧ Padd w' B g v' (l ++ ms.flatten) ∧ Kept (foot g v) w w' ∧ Newer w.heap.size v v' := by
  have hnc := hs.2.1
  have hcc := hs.2.2.1
  go_enter Try.func27, Try.ntmps27
  go_wp2
  go_loopw [9] (fun i wr => ∃ (k : Nat) (v' : Value), k ≤ n ∧ i = .int .i64 k ∧ Padd wr B g v' (l ++ (ms.take k).flatten) ∧ Kept (foot g v) w wr ∧ Newer w.heap.size v v') (fun i _ => n - (intOf i).toNat)
  case atStart => exact ⟨0, v, Nat.zero_le _, rfl, by simpa using h, Kept.refl _ _, Newer.refl _ _⟩
  case round =>
    obtain ⟨k, v', hk, rfl, hp, hkp, hnw⟩ := hrel
    by_cases hlt : k < n
    · have hkl : k < ms.length := by rw [hs.1]; exact hlt
      obtain ⟨b, o, rfl, hce⟩ := (hs.kept hkp hap).2.2.2.2 (by omega)
      have hm6 := hs.2.2.2.1 _ (List.getElem_mem hkl)
      have hce := hce k hkl
      generalize hm : ms[k] = m at *
      obtain ⟨x0, x1, x2, x3, x4, x5, rfl⟩ := six_of _ hm6
      have q0 := hce 0 (by simp)
      have q1 := hce 1 (by simp)
      have q2 := hce 2 (by simp)
      have q3 := hce 3 (by simp)
      have q4 := hce 4 (by simp)
      have q5 := hce 5 (by simp)
      simp at q0 q1 q2 q3 q4 q5
      have HM := Lib.hid hm
      have HP := Lib.hid hp
      have HK := Lib.hid hkp
      have HN := Lib.hid hnw
      clear hp hkp hnw hce hm hm6
      have HBy : Hid (Nums .u8 (wr.alloc (.cells (bys [x0, x1, x2, x3, x4, x5]).toArray 26)) (some ⟨wr.heap.size, 0, none⟩) 6 6 ([x0, x1, x2, x3, x4, x5].map UInt8.toNat)) := by
        exact (Byt.lit wr [x0, x1, x2, x3, x4, x5] 26 (by simp)).nums
      have hfl : (l ++ (ms.take k).flatten).length + 6 * 1 ≤ 1099511627776 := by
        have h1 : (ms.take k).flatten.length = k * 6 := by
          have : ∀ (q : List (List UInt8)), (∀ m ∈ q, m.length = 6) → q.flatten.length = q.length * 6 := by
            intro q hq
            induction q with
            | nil => rfl
            | cons a q ih => simp only [List.flatten_cons, List.length_append, List.length_cons]; rw [ih (fun m hm => hq m (by simp [hm])), hq a (by simp)]; omega
          rw [this _ (fun m hm => hs.2.2.2.1 m (List.mem_of_mem_take hm))]
          simp; omega
        rw [List.length_append, h1]; omega
      have HFl := Lib.hid hfl
      clear hfl
      go_wp2_with fail
      refine (PByte_yes B g v' _ _ 6 6 _ _ (by exact HP.out.kept ((Kept.refl Nil wr).alloc _) (fun _ _ hf => hf)) (by exact HBy.out) (by have := HK.out.size; simp; omega) ?_ HFl.out ?_).mono ?_
      · rintro i ⟨_, ad, e, rfl⟩ hf
        cases e
        rcases hf with hf | hf
        · have := HP.out.blo.lt; simp at hf; omega
        · have := (HP.out.own.lt _ hf).2; simp at this
      · intro x hx
        simp only [List.mem_map] at hx
        obtain ⟨b', _, rfl⟩ := hx
        have := b'.toNat_lt
        omega
      · rintro e w1 ⟨v2, rfl, hp2, hk2, hn2⟩
        have hbe : beAll 1 ([x0, x1, x2, x3, x4, x5].map UInt8.toNat) = [x0, x1, x2, x3, x4, x5] := by simp [beAll, beM, List.range_succ]
        rw [hbe] at hp2
        have HP2 := Lib.hid hp2
        have HK2 := Lib.hid hk2
        have HN2 := Lib.hid hn2
        clear hp2 hk2 hn2 hbe
        go_wp2
        go_roundw
        case rel =>
          refine ⟨k + 1, v2, by omega, by go_num, ?_, ?_, ?_⟩
          · rw [List.take_succ_eq_append_getElem hkl, List.flatten_append, HM.out, ← List.append_assoc]
            simpa using HP2.out
          · exact HK.out.trans (((Kept.refl (foot g v') wr).alloc _).same HK2.out) (foot_newer HN.out)
          · exact HN.out.trans HN2.out (by have := HK.out.size; simp; omega)
        case measure => simp [intOf]; omega
    · have hfull : ms.take k = ms := List.take_of_length_le (by rw [hs.1]; omega)
      rw [hfull] at hp
      have HP2 := Lib.hid hp
      have HK2 := Lib.hid hkp
      have HN2 := Lib.hid hnw
      clear hp hkp hnw hfull
      go_wp2
      go_ret
      exact ⟨_, rfl, HP2.out, HK2.out, HN2.out⟩
end Go.Proofs.Ythjfeanmgaidcaa
/- Contracts of package cut's pad, third part: calls whose values are written out where they are laid. -/
namespace Go.Proofs.Ythjfeanmgaidcaa
open Go.RowKit
set_option linter.unusedVariables false

theorem Padd.foot_lt {w : World} {B g : Nat} {v : Value} {l : List UInt8} (h : Padd w B g v l) : ∀ i, foot g v i → i < w.heap.size := by
  rintro i (rfl | hf)
  · exact h.blo.lt
  · exact (h.own.lt _ hf).2
theorem Padd.lit_apart {w : World} {B g n : Nat} {v : Value} {l : List UInt8} (h : Padd w B g v l) : ∀ i, Lies (some ⟨w.heap.size, 0, none⟩) n i → ¬ foot g v i := by
  rintro i ⟨_, ad, e, rfl⟩ hf
  cases e
  have := h.foot_lt _ hf
  simp at this

theorem beAll_bytes (l : List UInt8) : beAll 1 (l.map UInt8.toNat) = l := by
  induction l with
  | nil => rfl
  | cons b l ih =>
    have : beAll 1 ((b :: l).map UInt8.toNat) = beM 1 b.toNat ++ beAll 1 (l.map UInt8.toNat) := rfl
    rw [this, ih]
    simp [beM, List.range_succ]
theorem beAll_two (x : Nat) : beAll 2 [x] = [UInt8.ofNat (x / 256), UInt8.ofNat x] := by simp [beAll, beM, List.range_succ]

theorem PByte_lit (B g : Nat) (v : Value) (l : List UInt8) (xs : List Nat) (w : World) (t : TypeId) (h : Padd w B g v l) (hB : B ≤ w.heap.size) (hbd : l.length + xs.length * 1 ≤ 1099511627776) (hx : ∀ x ∈ xs, x < 256 ^ 1) :
    Calls Try.prog 24 #[.pointer (some ⟨g, 0, none⟩), .slice (some ⟨w.heap.size, 0, none⟩) xs.length xs.length] (w.alloc (.cells (xs.map fun x : Nat => Value.int .u8 (x : Int)).toArray t)) fun e w' =>
      ∃ v', e = .returned (.pointer (some ⟨g, 0, none⟩)) ∧ Padd w' B g v' (l ++ beAll 1 xs) ∧ Kept (foot g v) w w' ∧ Newer w.heap.size v v' := by
  refine (PByte_yes B g v l _ _ _ xs _ (h.kept ((Kept.refl Nil w).alloc _) (fun _ _ hf => hf)) (Nums.lit .u8 w xs t (by omega)) (by simp; omega) h.lit_apart hbd hx).mono ?_
  rintro e w' ⟨v', rfl, hp, hk, hn⟩
  exact ⟨v', rfl, hp, ((Kept.refl (foot g v) w).alloc _).same hk, (Newer.refl w.heap.size v).trans hn (by simp)⟩
theorem PTwo_lit (B g : Nat) (v : Value) (l : List UInt8) (xs : List Nat) (w : World) (t : TypeId) (h : Padd w B g v l) (hB : B ≤ w.heap.size) (hbd : l.length + xs.length * 2 ≤ 1099511627776) (hx : ∀ x ∈ xs, x < 256 ^ 2) :
    Calls Try.prog 26 #[.pointer (some ⟨g, 0, none⟩), .slice (some ⟨w.heap.size, 0, none⟩) xs.length xs.length] (w.alloc (.cells (xs.map fun x : Nat => Value.int .u16 (x : Int)).toArray t)) fun e w' =>
      ∃ v', e = .returned (.pointer (some ⟨g, 0, none⟩)) ∧ Padd w' B g v' (l ++ beAll 2 xs) ∧ Kept (foot g v) w w' ∧ Newer w.heap.size v v' := by
  refine (PTwo_yes B g v l _ _ _ xs _ (h.kept ((Kept.refl Nil w).alloc _) (fun _ _ hf => hf)) (Nums.lit .u16 w xs t (by omega)) (by simp; omega) h.lit_apart hbd hx).mono ?_
  rintro e w' ⟨v', rfl, hp, hk, hn⟩
  exact ⟨v', rfl, hp, ((Kept.refl (foot g v) w).alloc _).same hk, (Newer.refl w.heap.size v).trans hn (by simp)⟩
theorem PFour_lit (B g : Nat) (v : Value) (l : List UInt8) (xs : List Nat) (w : World) (t : TypeId) (h : Padd w B g v l) (hB : B ≤ w.heap.size) (hbd : l.length + xs.length * 4 ≤ 1099511627776) (hx : ∀ x ∈ xs, x < 256 ^ 4) :
    Calls Try.prog 25 #[.pointer (some ⟨g, 0, none⟩), .slice (some ⟨w.heap.size, 0, none⟩) xs.length xs.length] (w.alloc (.cells (xs.map fun x : Nat => Value.int .u32 (x : Int)).toArray t)) fun e w' =>
      ∃ v', e = .returned (.pointer (some ⟨g, 0, none⟩)) ∧ Padd w' B g v' (l ++ beAll 4 xs) ∧ Kept (foot g v) w w' ∧ Newer w.heap.size v v' := by
  refine (PFour_yes B g v l _ _ _ xs _ (h.kept ((Kept.refl Nil w).alloc _) (fun _ _ hf => hf)) (Nums.lit .u32 w xs t (by omega)) (by simp; omega) h.lit_apart hbd hx).mono ?_
  rintro e w' ⟨v', rfl, hp, hk, hn⟩
  exact ⟨v', rfl, hp, ((Kept.refl (foot g v) w).alloc _).same hk, (Newer.refl w.heap.size v).trans hn (by simp)⟩

theorem PMac_lit (B g : Nat) (v : Value) (l : List UInt8) (m : List UInt8) (hm : m.length = 6) (w : World) (t : TypeId) (h : Padd w B g v l) (hB : B ≤ w.heap.size) (hbd : l.length + 1 * 6 ≤ 1099511627776) :
    Calls Try.prog 27 #[.pointer (some ⟨g, 0, none⟩), .slice (some ⟨w.heap.size, 0, none⟩) 1 1] (w.alloc (.cells (bys m).toArray t)) fun e w' =>
      ∃ v', e = .returned (.pointer (some ⟨g, 0, none⟩)) ∧ Padd w' B g v' (l ++ m) ∧ Kept (foot g v) w w' ∧ Newer w.heap.size v v' := by
  have hs : Macs (w.alloc (.cells (bys m).toArray t)) (some ⟨w.heap.size, 0, none⟩) 1 1 [m] := by
    refine ⟨rfl, Nat.le_refl _, by omega, by simpa using hm, fun _ => ⟨w.heap.size, 0, rfl, fun i hi j hj => ?_⟩⟩
    have : i = 0 := by simp at hi; omega
    subst this
    have := (Byt.lit w m t (by omega)).2.2.2 (by omega)
    obtain ⟨b, o, e, hc⟩ := this
    cases e
    simpa using hc j (by simpa using hj)
  refine (PMac_yes B g v l _ 1 1 [m] _ (h.kept ((Kept.refl Nil w).alloc _) (fun _ _ hf => hf)) hs (by simp; omega) h.lit_apart hbd).mono ?_
  rintro e w' ⟨v', rfl, hp, hk, hn⟩
  exact ⟨v', rfl, by simpa using hp, ((Kept.refl (foot g v) w).alloc _).same hk, (Newer.refl w.heap.size v).trans hn (by simp)⟩
end Go.Proofs.Ythjfeanmgaidcaa
