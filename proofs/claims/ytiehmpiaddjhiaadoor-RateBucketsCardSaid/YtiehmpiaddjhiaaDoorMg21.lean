/- Texts that belong together, one behind the other: RaD, RaE. Conditions: those of each. -/
import Derived.Test.YtiehmpiaddjhiaaDoorRaC
/- Package internal/strconv: shortFloat at the values that the examples meet. -/
namespace Go.Proofs.YtiehmpiaddjhiaaDoor
open Go.RowKit Go.Sort
set_option linter.unusedVariables false

theorem lt_of_cell {w : World} {b o : Nat} {v : Value} (h : w.cell? ⟨b, o, none⟩ = some v) : b < w.heap.size := World.block_lt_of_cell? w _ h
set_option maxRecDepth 100000 in
theorem short_a (w : World) (ht : p10a w) : Calls Tryd.prog 56 #[.int .u64 14757395258967642112, .int .i64 (-67)] w fun e w' => e = .returned (.tuple #[.int .u64 1000000000000000, .int .i64 (-16)]) ∧ Kept Nil w w' := by
  have s1 : ∀ w, (Op.shift .shl .u64 1 .i64 10).run Tryd.prog w = .ok (.int .u64 1024) w := fun w => by kernel_rfl
  have s2 : ∀ w, (Op.shift .shr .u64 14757395258967642112 .i64 11).run Tryd.prog w = .ok (.int .u64 7205759403792794) w := fun w => by kernel_rfl
  have b1 : bits .and .i64 7205759403792794 1 = 0 := by kernel_rfl
  have HT := Lib.hid ht
  clear ht
  go_enter Tryd.func56, Tryd.ntmps56
  go_wp2_with (fail)
  refine (l10_a _).mono ?_
  rintro e w1 ⟨rfl, hk⟩
  have HT := Lib.hid (HT.out.kept hk (fun hf => hf))
  have HK := Lib.hid hk
  clear hk
  dsimp only
  have hz := Blo.new w1 96 #[.int .u64 0, .int .u64 0, .int .i64 0]
  have hka := (Kept.refl Nil w1).alloc (.cells #[.int .u64 0, .int .u64 0, .int .i64 0] 96)
  go_upto_region 28 with (fail)
  refine wp_nameE (fun W => Blo W w1.heap.size 96 #[.int .u64 0, .int .u64 0, .int .i64 0] ∧ Kept Nil w1 W) ⟨hz, hka⟩ ?_
  clear hz hka
  rintro w2 ⟨hz, hka⟩
  have HG := Lib.hid (show 4 ≠ w1.heap.size by have := lt_of_cell HT.out.1; omega)
  have HL := Lib.hid (show w.heap.size ≤ w1.heap.size from HK.out.size)
  have HT := Lib.hid (HT.out.kept hka (fun hf => hf))
  have HZ := Lib.hid hz
  have HK := Lib.hid (HK.out.then hka)
  obtain ⟨g, hg⟩ : ∃ g, w1.heap.size = g := ⟨_, rfl⟩
  rw [hg] at HG HL HZ ⊢
  clear hz hka hg
  go_wp2_with (fail)
  refine (l2_a _).mono ?_
  rintro e w3 ⟨rfl, hk⟩
  have HT := Lib.hid (HT.out.kept hk (fun hf => hf))
  have HZ := Lib.hid (HZ.out.kept hk (fun hf => hf))
  have HK := Lib.hid (HK.out.then hk)
  clear hk
  dsimp only
  go_wp2_with (fail)
  refine (pre_a g _ HG.out HZ.out HT.out).mono ?_
  rintro e w4 ⟨rfl, hz, hk⟩
  have HT := Lib.hid (HT.out.kept hk (fun hf => HG.out hf))
  have HZ := Lib.hid hz
  have HK := Lib.hid (HK.out.fresh hk (fun i hi => by have := HL.out; cases hi; omega))
  clear hk hz
  dsimp only
  go_wp2_with (fail)
  refine (us_mna g _ HZ.out).mono ?_
  rintro e w5 ⟨rfl, hk⟩
  have HZ := Lib.hid (HZ.out.kept hk (fun hf => hf))
  have HK := Lib.hid (HK.out.then hk)
  clear hk
  dsimp only
  go_wp2_with (fail)
  refine (nud_mna _).mono ?_
  rintro e w6 ⟨rfl, hk⟩
  have HZ := Lib.hid (HZ.out.kept hk (fun hf => hf))
  have HK := Lib.hid (HK.out.then hk)
  clear hk
  dsimp only
  go_wp2_with (fail)
  refine (ceil_a _).mono ?_
  rintro e w7 ⟨rfl, hk⟩
  have HZ := Lib.hid (HZ.out.kept hk (fun hf => hf))
  have HK := Lib.hid (HK.out.then hk)
  clear hk
  dsimp only
  go_wp2_with (fail)
  refine (us_mxa g _ HZ.out).mono ?_
  rintro e w8 ⟨rfl, hk⟩
  have HK := Lib.hid (HK.out.then hk)
  clear hk HZ
  dsimp only
  go_wp2_with (fail)
  refine (nud_mxa _).mono ?_
  rintro e w9 ⟨rfl, hk⟩
  have HK := Lib.hid (HK.out.then hk)
  clear hk
  dsimp only
  go_wp2_with (fail)
  refine (floor_a _).mono ?_
  rintro e w10 ⟨rfl, hk⟩
  have HK := Lib.hid (HK.out.then hk)
  clear hk
  dsimp only
  go_wp2_with (fail)
  go_ret2
  exact ⟨rfl, HK.out⟩
set_option maxRecDepth 100000 in
theorem short_b (w : World) (ht : p10b w) : Calls Tryd.prog 56 #[.int .u64 15625000000000000000, .int .i64 6] w fun e w' => e = .returned (.tuple #[.int .u64 1000000000000000, .int .i64 6]) ∧ Kept Nil w w' := by
  have s1 : ∀ w, (Op.shift .shl .u64 1 .i64 10).run Tryd.prog w = .ok (.int .u64 1024) w := fun w => by kernel_rfl
  have s2 : ∀ w, (Op.shift .shr .u64 15625000000000000000 .i64 11).run Tryd.prog w = .ok (.int .u64 7629394531250000) w := fun w => by kernel_rfl
  have b1 : bits .and .i64 7629394531250000 1 = 0 := by kernel_rfl
  have HT := Lib.hid ht
  clear ht
  go_enter Tryd.func56, Tryd.ntmps56
  go_wp2_with (fail)
  refine (l10_b _).mono ?_
  rintro e w1 ⟨rfl, hk⟩
  have HT := Lib.hid (HT.out.kept hk (fun hf => hf))
  have HK := Lib.hid hk
  clear hk
  dsimp only
  have hz := Blo.new w1 96 #[.int .u64 0, .int .u64 0, .int .i64 0]
  have hka := (Kept.refl Nil w1).alloc (.cells #[.int .u64 0, .int .u64 0, .int .i64 0] 96)
  go_upto_region 28 with (fail)
  refine wp_nameE (fun W => Blo W w1.heap.size 96 #[.int .u64 0, .int .u64 0, .int .i64 0] ∧ Kept Nil w1 W) ⟨hz, hka⟩ ?_
  clear hz hka
  rintro w2 ⟨hz, hka⟩
  have HG := Lib.hid (show 4 ≠ w1.heap.size by have := lt_of_cell HT.out.1; omega)
  have HL := Lib.hid (show w.heap.size ≤ w1.heap.size from HK.out.size)
  have HT := Lib.hid (HT.out.kept hka (fun hf => hf))
  have HZ := Lib.hid hz
  have HK := Lib.hid (HK.out.then hka)
  obtain ⟨g, hg⟩ : ∃ g, w1.heap.size = g := ⟨_, rfl⟩
  rw [hg] at HG HL HZ ⊢
  clear hz hka hg
  go_wp2_with (fail)
  refine (l2_b _).mono ?_
  rintro e w3 ⟨rfl, hk⟩
  have HT := Lib.hid (HT.out.kept hk (fun hf => hf))
  have HZ := Lib.hid (HZ.out.kept hk (fun hf => hf))
  have HK := Lib.hid (HK.out.then hk)
  clear hk
  dsimp only
  go_wp2_with (fail)
  refine (pre_b g _ HG.out HZ.out HT.out).mono ?_
  rintro e w4 ⟨rfl, hz, hk⟩
  have HT := Lib.hid (HT.out.kept hk (fun hf => HG.out hf))
  have HZ := Lib.hid hz
  have HK := Lib.hid (HK.out.fresh hk (fun i hi => by have := HL.out; cases hi; omega))
  clear hk hz
  dsimp only
  go_wp2_with (fail)
  refine (us_mnb g _ HZ.out).mono ?_
  rintro e w5 ⟨rfl, hk⟩
  have HZ := Lib.hid (HZ.out.kept hk (fun hf => hf))
  have HK := Lib.hid (HK.out.then hk)
  clear hk
  dsimp only
  go_wp2_with (fail)
  refine (nud_mnb _).mono ?_
  rintro e w6 ⟨rfl, hk⟩
  have HZ := Lib.hid (HZ.out.kept hk (fun hf => hf))
  have HK := Lib.hid (HK.out.then hk)
  clear hk
  dsimp only
  go_wp2_with (fail)
  refine (ceil_b _).mono ?_
  rintro e w7 ⟨rfl, hk⟩
  have HZ := Lib.hid (HZ.out.kept hk (fun hf => hf))
  have HK := Lib.hid (HK.out.then hk)
  clear hk
  dsimp only
  go_wp2_with (fail)
  refine (us_mxb g _ HZ.out).mono ?_
  rintro e w8 ⟨rfl, hk⟩
  have HK := Lib.hid (HK.out.then hk)
  clear hk HZ
  dsimp only
  go_wp2_with (fail)
  refine (nud_mxb _).mono ?_
  rintro e w9 ⟨rfl, hk⟩
  have HK := Lib.hid (HK.out.then hk)
  clear hk
  dsimp only
  go_wp2_with (fail)
  refine (floor_b _).mono ?_
  rintro e w10 ⟨rfl, hk⟩
  have HK := Lib.hid (HK.out.then hk)
  clear hk
  dsimp only
  go_wp2_with (fail)
  go_ret2
  exact ⟨rfl, HK.out⟩
end Go.Proofs.YtiehmpiaddjhiaaDoor
/- Package internal/strconv: numDigits, setDigits at the value that the examples meet. -/
namespace Go.Proofs.YtiehmpiaddjhiaaDoor
open Go.RowKit Go.Sort Go.Lib
set_option linter.unusedVariables false

abbrev encB (b : UInt8) : Value := Value.int .u8 (b.toNat : Int)
theorem blo_map {w : World} {g : Nat} {T : TypeId} {cs : Array Value} (hb : Blo w g T cs) (f : Array Value → Array Value) : Blo (mapBlock w g f) g T (f cs) ∧ Kept (One g) w (mapBlock w g f) := by
  have h1 : (mapBlock w g f).heap = w.heap.modify g (onCells f) := rfl
  refine ⟨?_, rfl, rfl, rfl, by rw [h1]; simp, fun i hi hn => ?_⟩
  · unfold Blo at hb ⊢
    rw [h1, Array.getElem?_modify, if_pos rfl, hb]
    rfl
  · rw [h1, Array.getElem?_modify, if_neg (fun e => hn e.symm)]
def z32 : Array Value := #[.int .u8 0, .int .u8 0, .int .u8 0, .int .u8 0, .int .u8 0, .int .u8 0, .int .u8 0, .int .u8 0, .int .u8 0, .int .u8 0, .int .u8 0, .int .u8 0, .int .u8 0, .int .u8 0, .int .u8 0, .int .u8 0, .int .u8 0, .int .u8 0, .int .u8 0, .int .u8 0, .int .u8 0, .int .u8 0, .int .u8 0, .int .u8 0, .int .u8 0, .int .u8 0, .int .u8 0, .int .u8 0, .int .u8 0, .int .u8 0, .int .u8 0, .int .u8 0]
def d16 : Array UInt8 := #[49, 48, 48, 48, 48, 48, 48, 48, 48, 48, 48, 48, 48, 48, 48, 48]
def c32 : Array Value := #[.int .u8 49, .int .u8 48, .int .u8 48, .int .u8 48, .int .u8 48, .int .u8 48, .int .u8 48, .int .u8 48, .int .u8 48, .int .u8 48, .int .u8 48, .int .u8 48, .int .u8 48, .int .u8 48, .int .u8 48, .int .u8 48, .int .u8 0, .int .u8 0, .int .u8 0, .int .u8 0, .int .u8 0, .int .u8 0, .int .u8 0, .int .u8 0, .int .u8 0, .int .u8 0, .int .u8 0, .int .u8 0, .int .u8 0, .int .u8 0, .int .u8 0, .int .u8 0]
theorem put_32 : putCells encB 0 d16 z32 = c32 := by kernel_rfl
theorem dg_16 : ∀ t : Fin 16, d16[t.val]! = dg 1000000000000000 (15 - t.val) := by decide +kernel
theorem fmt_16 {v : Nat} {d : Array UInt8} (h : FmtInv 16 1000000000000000 0 v d) : d = d16 := by
  apply Array.ext
  · rw [h.size]; rfl
  · intro t h1 h2
    have ht : t < 16 := by rw [← h.size]; exact h1
    have e := h.done t (Nat.zero_le _) ht
    rw [getElem!_pos d t h1] at e
    have e2 := dg_16 ⟨t, ht⟩
    rw [getElem!_pos d16 t h2] at e2
    rw [e, e2]
theorem nd_16 (w : World) (htab : Lib.TabIs Tryd.prog w "internal/strconv.uint64pow10" .u64 Lib.pow10Tab) : Calls Tryd.prog 50 #[.int .u64 1000000000000000] w fun e w' => e = .returned (.int .i64 16) ∧ w' = w := by
  have h := Tryd.internal_strconv_numDigits 1000000000000000 (by decide) (by decide) w htab
  rw [show Lib.nDigits 1000000000000000 = 16 from Lib.nDigits_unique 15 _ (by decide) (by decide)] at h
  exact h
theorem fb_16 (g : Nat) (w : World) (hb : Blo w g 76 z32) : Calls Tryd.prog 68 #[.slice (some ⟨g, 0, none⟩) 16 32, .int .u64 1000000000000000] w fun e w' => e = .returned (.tuple #[]) ∧ Blo w' g 76 c32 ∧ Kept (One g) w w' := by
  have hH : Go.Sort.Holds encB w g 0 (Array.replicate 16 (0 : UInt8)) := by
    intro j hj
    have hj' : j < 16 := by simpa using hj
    refine ⟨?_, hb.frozen _⟩
    rw [Nat.zero_add, hb.cell]
    match j, hj' with
    | 0, _ => rfl
    | 1, _ => rfl
    | 2, _ => rfl
    | 3, _ => rfl
    | 4, _ => rfl
    | 5, _ => rfl
    | 6, _ => rfl
    | 7, _ => rfl
    | 8, _ => rfl
    | 9, _ => rfl
    | 10, _ => rfl
    | 11, _ => rfl
    | 12, _ => rfl
    | 13, _ => rfl
    | 14, _ => rfl
    | 15, _ => rfl
    | k + 16, h => exact absurd h (by omega)
  have h := Tryd.internal_strconv_formatBase10 g 0 32 1000000000000000 (Array.replicate 16 (0 : UInt8)) w hH (by decide +kernel) (by decide) (by decide +kernel)
  refine Calls.mono (show Calls Tryd.prog 68 #[.slice (some ⟨g, 0, none⟩) 16 32, .int .u64 1000000000000000] w _ from h) ?_
  rintro e w' ⟨rfl, n, v, dk, rfl, hf⟩
  obtain rfl := fmt_16 hf
  obtain ⟨h1, h2⟩ := blo_map hb (putCells encB 0 d16)
  rw [put_32] at h1
  exact ⟨rfl, h1, h2.drewN n⟩
set_option maxRecDepth 100000 in
theorem sd_n (P Q : Int) (hP : P = -16 ∧ Q = 0 ∨ P = 6 ∧ Q = 22) (g : Nat) (w : World) (hb : Blo w g 76 z32) : Calls Tryd.prog 49 #[.slice (some ⟨g, 0, none⟩) 32 32, .int .u64 1000000000000000, .int .i64 P, .int .i64 16] w fun e w' => e = .returned (.tuple #[.int .i64 Q, .int .i64 1]) ∧ w'.cell? ⟨g, 0, none⟩ = some (.int .u8 49) ∧ Kept (One g) w w' := by
  have hsl := run_cut_hi (P := Tryd.prog) Tryd.underlying68 inf5.1 (some ⟨g, 0, none⟩) 32 32 16 16 rfl (by decide)
  have HB := Lib.hid hb
  have HP := Lib.hid hP
  clear hb hP
  go_enter Tryd.func49, Tryd.ntmps49
  go_wp2_with (fail)
  refine (fb_16 g _ HB.out).mono ?_
  rintro e w1 ⟨rfl, hc, hk⟩
  have HC := Lib.hid hc
  have HK := Lib.hid hk
  clear hc hk hsl
  dsimp only
  have hsum : (16 : Int) + P = Q := by rcases HP.out with ⟨rfl, rfl⟩ | ⟨rfl, rfl⟩ <;> rfl
  have hq : -100 ≤ Q ∧ Q ≤ 100 := by rcases HP.out with ⟨rfl, rfl⟩ | ⟨rfl, rfl⟩ <;> decide
  obtain ⟨hq1, hq2⟩ := hq
  go_upto_region 4 with (fail)
  have HC48 := Lib.hid (fun (q : Nat) (h1 : 1 ≤ q) (h2 : q < 16) => (show w1.cell? ⟨g, q, none⟩ = some (.int .u8 48) by
    rw [HC.out.cell]
    match q, h1, h2 with
    | 1, _, _ => rfl
    | 2, _, _ => rfl
    | 3, _, _ => rfl
    | 4, _, _ => rfl
    | 5, _, _ => rfl
    | 6, _, _ => rfl
    | 7, _, _ => rfl
    | 8, _, _ => rfl
    | 9, _, _ => rfl
    | 10, _, _ => rfl
    | 11, _, _ => rfl
    | 12, _, _ => rfl
    | 13, _, _ => rfl
    | 14, _, _ => rfl
    | 15, _, _ => rfl
    | k + 16, _, h => exact absurd h (by omega)))
  have HC49 := Lib.hid (show w1.cell? ⟨g, 0, none⟩ = some (.int .u8 49) by rw [HC.out.cell]; rfl)
  clear hsum HP HC HB
  go_loopw [3] (fun i wr => ∃ k : Nat, 1 ≤ k ∧ k ≤ 16 ∧ i = .int .i64 (k : Int) ∧ Hid (Kept Nil w1 wr)) (fun i _ => (Go.RowKit.intOf i).toNat)
  case atStart => exact ⟨16, by omega, Nat.le_refl _, rfl, Lib.hid (Kept.refl _ _)⟩
  case round =>
    obtain ⟨k, hk1, hk2, rfl, HR⟩ := hrel
    obtain ⟨q, hq⟩ : ∃ q : Nat, (k : Int) - 1 = (q : Int) := ⟨k - 1, by omega⟩
    by_cases h1 : k = 1
    · subst h1
      have hc := HR.out.cell HC49.out (fun hf => hf)
      go_wp2_with (fail)
      go_ret2
      exact ⟨rfl, hc, HK.out.then HR.out⟩
    · have hc := HR.out.cell (HC48.out q (by omega) (by omega)) (fun hf => hf)
      go_wp2_with (fail)
      go_roundw
      case rel => exact ⟨q, by omega, by omega, by go_num, HR⟩
      case measure => simp [Go.RowKit.intOf]; omega
end Go.Proofs.YtiehmpiaddjhiaaDoor
