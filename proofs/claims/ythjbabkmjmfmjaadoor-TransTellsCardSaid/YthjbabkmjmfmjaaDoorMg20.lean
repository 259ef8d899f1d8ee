/- Texts that belong together, one behind the other: RegJ, Cat. Conditions: those of each. -/
import Derived.Test.YthjbabkmjmfmjaaDoorMg19
import Derived.Test.YthjbabkmjmfmjaaDoorMg5
import Derived.Test.YthjbabkmjmfmjaaDoorMg7
import Derived.Test.YthjbabkmjmfmjaaDoorMg16
import Derived.Lib.AppendZeros
/- A region that begins a pad of its own (Lay) and lays what follows: its calls as acts. -/
namespace Go.Proofs.YthjbabkmjmfmjaaDoor
open Go.RowKit Go.Sort
set_option linter.unusedVariables false

/-- Nothing has been laid yet, or the pad that was begun holds what is laid behind so many acts; all lies in new blocks. -/
def padJ (n0 : Nat) (ls : Nat → List UInt8) (D : Nat → Prop) (s : List Value) (u : World) : Prop :=
  n0 ≤ u.heap.size ∧ (∀ k, D k → k < u.heap.size) ∧ (s = [] ∨ ∃ g v, (∀ x ∈ s, x = .pointer (some ⟨g, 0, none⟩)) ∧ Padd u n0 g v (ls s.length) ∧ ∀ k, D k → ¬ foot g v k)
theorem padJ_keeps (n0 : Nat) (ls : Nat → List UInt8) : Keeps (padJ n0 ls) where
  quiet := fun D s u u' ⟨h1, h2, h3⟩ hk => ⟨Nat.le_trans h1 hk.size, fun k h => Nat.lt_of_lt_of_le (h2 k h) hk.size, by
    rcases h3 with h3 | ⟨g, v, h4, h5, h6⟩
    · exact .inl h3
    · exact .inr ⟨g, v, h4, h5.kept hk (fun _ _ hf => hf), h6⟩⟩
  make := fun D s u o ⟨h1, h2, h3⟩ => ⟨by simp; omega, fun k h => by
    rcases h with h | rfl
    · have := h2 k h; simp; omega
    · simp, by
    rcases h3 with h3 | ⟨g, v, h4, h5, h6⟩
    · exact .inl h3
    · refine .inr ⟨g, v, h4, h5.kept ((Kept.refl Nil u).alloc o) (fun _ _ hf => hf), fun k hk => ?_⟩
      rcases hk with hk | rfl
      · exact h6 k hk
      · exact fun hf => absurd (h5.foot_lt _ hf) (Nat.lt_irrefl _)⟩
theorem padJ_nil (w : World) (ls : Nat → List UInt8) : padJ w.heap.size ls (fun _ => False) [] w := ⟨Nat.le_refl _, fun _ h => h.elim, .inl rfl⟩
/-- What the answers of the acts are. -/
def padP (i : Nat) (v : Value) : Prop := ∃ g, v = .pointer (some ⟨g, 0, none⟩)
theorem padP_0 (i : Nat) : padP i (.pointer (some ⟨0, 0, none⟩)) := ⟨0, rfl⟩
theorem padJ_lay {ls : Nat → List UInt8} {D : Nat → Prop} {w u : World} (hu : Kept Nil w u) (hI : padJ w.heap.size ls D [] u) (h1 : ls 1 = []) (i : Nat) :
    Calls Tryd.prog 46 #[] u fun e w' => ∃ r, e = .returned r ∧ padP i r ∧ Kept Nil w w' ∧ padJ w.heap.size ls D ([] ++ [r]) w' ∧ u.heap.size ≤ w'.heap.size ∧ ∀ k, D k → k < u.heap.size → w'.heap[k]? = u.heap[k]? := by
  refine (Lay_yes u).mono ?_
  rintro e w' ⟨rfl, hp, hk⟩
  refine ⟨_, rfl, ⟨_, rfl⟩, hu.then hk, ⟨Nat.le_trans hI.1 hk.size, fun k h => Nat.lt_of_lt_of_le (hI.2.1 k h) hk.size, .inr ⟨_, .slice none 0 0, fun x hx => by simpa using hx, ?_, fun k hk' hf => ?_⟩⟩, hk.size, fun k _ hlt => hk.block k hlt (fun hf => hf)⟩
  · show Padd w' w.heap.size u.heap.size (.slice none 0 0) (ls 1)
    rw [h1]
    exact hp.mono hI.1
  · have := hp.foot_ge _ hf
    have := hI.2.1 k hk'
    omega
/-- What a call that lays leaves behind. -/
theorem padJ_step {ls : Nat → List UInt8} {D : Nat → Prop} {s : List Value} {w u w' : World} {g : Nat} {v v' : Value} {l : List UInt8} (hu : Kept Nil w u) (hI : padJ w.heap.size ls D s u) (hs : ∀ x ∈ s, x = .pointer (some ⟨g, 0, none⟩)) (h6 : ∀ k, D k → ¬ foot g v k) (hp0 : Padd u w.heap.size g v (ls s.length)) (hp : Padd w' w.heap.size g v' (ls s.length ++ l)) (hk : Kept (foot g v) u w') (hn : Newer u.heap.size v v') (hls : ls (s.length + 1) = ls s.length ++ l) (i : Nat) :
    padP i (.pointer (some ⟨g, 0, none⟩)) ∧ Kept Nil w w' ∧ padJ w.heap.size ls D (s ++ [.pointer (some ⟨g, 0, none⟩)]) w' ∧ u.heap.size ≤ w'.heap.size ∧ ∀ k, D k → k < u.heap.size → w'.heap[k]? = u.heap[k]? := by
  refine ⟨⟨g, rfl⟩, hu.fresh hk hp0.foot_ge, ⟨Nat.le_trans hI.1 hk.size, fun k h => Nat.lt_of_lt_of_le (hI.2.1 k h) hk.size, .inr ⟨g, v', fun x hx => ?_, ?_, fun k hk' hf => ?_⟩⟩, hk.size, fun k hk' hlt => hk.block k hlt (h6 k hk')⟩
  · rcases List.mem_append.1 hx with h | h
    · exact hs x h
    · simpa using h
  · rw [List.length_append, List.length_singleton, hls]
    exact hp
  · rcases hf with rfl | hf
    · exact h6 _ hk' (.inl rfl)
    · rcases hn k hf with h | h
      · exact h6 _ hk' (.inr h)
      · have := hI.2.1 k hk'; omega
theorem padJ_at {n0 : Nat} {ls : Nat → List UInt8} {D : Nat → Prop} {s : List Value} {u : World} {g : Nat} (hI : padJ n0 ls D s u) (hg : .pointer (some ⟨g, 0, none⟩) ∈ s) : ∃ v, (∀ x ∈ s, x = .pointer (some ⟨g, 0, none⟩)) ∧ Padd u n0 g v (ls s.length) ∧ ∀ k, D k → ¬ foot g v k := by
  rcases hI.2.2 with rfl | ⟨g', v, h4, h5, h6⟩
  · cases hg
  · have := h4 _ hg
    injection this with this
    injection this with this
    injection this with e _ _
    subst e
    exact ⟨v, h4, h5, h6⟩
theorem padJ_byte {ls : Nat → List UInt8} {D : Nat → Prop} {s : List Value} {w u : World} {g gA n : Nat} {t : TypeId} {cs : Array Value} (xs : List Nat) (hu : Kept Nil w u) (hI : padJ w.heap.size ls D s u) (hg : .pointer (some ⟨g, 0, none⟩) ∈ s) (hD : D gA) (hb : Blo u gA t cs) (hcs : cs = (xs.map fun x : Nat => Value.int .u8 (x : Int)).toArray) (hn : xs.length = n)
    (hls : ls (s.length + 1) = ls s.length ++ beAll 1 xs) (hbd : (ls s.length).length + xs.length * 1 ≤ 1099511627776) (hx : ∀ x ∈ xs, x < 256 ^ 1) (i : Nat) :
    Calls Tryd.prog 47 #[.pointer (some ⟨g, 0, none⟩), .slice (some ⟨gA, 0, none⟩) n n] u fun e w' =>
      ∃ r, e = .returned r ∧ padP i r ∧ Kept Nil w w' ∧ padJ w.heap.size ls D (s ++ [r]) w' ∧ u.heap.size ≤ w'.heap.size ∧ ∀ k, D k → k < u.heap.size → w'.heap[k]? = u.heap[k]? := by
  obtain ⟨v, h4, h5, h6⟩ := padJ_at hI hg
  subst hn hcs
  have hs : Nums .u8 u (some ⟨gA, 0, none⟩) xs.length xs.length xs := by
    refine ⟨rfl, Nat.le_refl _, by omega, fun _ => ⟨gA, 0, rfl, fun i hi => ?_⟩⟩
    rw [hb.cell]
    simp [hi]
  refine (PByte_yes w.heap.size g v (ls s.length) _ _ _ xs u h5 hs hI.1 ?_ hbd hx).mono ?_
  · rintro i ⟨_, ad, e, rfl⟩ hf
    cases e
    exact h6 gA hD hf
  · rintro e w' ⟨v', rfl, hp, hk, hnw⟩
    exact ⟨_, rfl, padJ_step hu hI h4 h6 h5 hp hk hnw hls i⟩
theorem padJ_two {ls : Nat → List UInt8} {D : Nat → Prop} {s : List Value} {w u : World} {g gA n : Nat} {t : TypeId} {cs : Array Value} (xs : List Nat) (hu : Kept Nil w u) (hI : padJ w.heap.size ls D s u) (hg : .pointer (some ⟨g, 0, none⟩) ∈ s) (hD : D gA) (hb : Blo u gA t cs) (hcs : cs = (xs.map fun x : Nat => Value.int .u16 (x : Int)).toArray) (hn : xs.length = n)
    (hls : ls (s.length + 1) = ls s.length ++ beAll 2 xs) (hbd : (ls s.length).length + xs.length * 2 ≤ 1099511627776) (hx : ∀ x ∈ xs, x < 256 ^ 2) (i : Nat) :
    Calls Tryd.prog 54 #[.pointer (some ⟨g, 0, none⟩), .slice (some ⟨gA, 0, none⟩) n n] u fun e w' =>
      ∃ r, e = .returned r ∧ padP i r ∧ Kept Nil w w' ∧ padJ w.heap.size ls D (s ++ [r]) w' ∧ u.heap.size ≤ w'.heap.size ∧ ∀ k, D k → k < u.heap.size → w'.heap[k]? = u.heap[k]? := by
  obtain ⟨v, h4, h5, h6⟩ := padJ_at hI hg
  subst hn hcs
  have hs : Nums .u16 u (some ⟨gA, 0, none⟩) xs.length xs.length xs := by
    refine ⟨rfl, Nat.le_refl _, by omega, fun _ => ⟨gA, 0, rfl, fun i hi => ?_⟩⟩
    rw [hb.cell]
    simp [hi]
  refine (PTwo_yes w.heap.size g v (ls s.length) _ _ _ xs u h5 hs hI.1 ?_ hbd hx).mono ?_
  · rintro i ⟨_, ad, e, rfl⟩ hf
    cases e
    exact h6 gA hD hf
  · rintro e w' ⟨v', rfl, hp, hk, hnw⟩
    exact ⟨_, rfl, padJ_step hu hI h4 h6 h5 hp hk hnw hls i⟩
theorem padJ_four {ls : Nat → List UInt8} {D : Nat → Prop} {s : List Value} {w u : World} {g gA n : Nat} {t : TypeId} {cs : Array Value} (xs : List Nat) (hu : Kept Nil w u) (hI : padJ w.heap.size ls D s u) (hg : .pointer (some ⟨g, 0, none⟩) ∈ s) (hD : D gA) (hb : Blo u gA t cs) (hcs : cs = (xs.map fun x : Nat => Value.int .u32 (x : Int)).toArray) (hn : xs.length = n)
    (hls : ls (s.length + 1) = ls s.length ++ beAll 4 xs) (hbd : (ls s.length).length + xs.length * 4 ≤ 1099511627776) (hx : ∀ x ∈ xs, x < 256 ^ 4) (i : Nat) :
    Calls Tryd.prog 55 #[.pointer (some ⟨g, 0, none⟩), .slice (some ⟨gA, 0, none⟩) n n] u fun e w' =>
      ∃ r, e = .returned r ∧ padP i r ∧ Kept Nil w w' ∧ padJ w.heap.size ls D (s ++ [r]) w' ∧ u.heap.size ≤ w'.heap.size ∧ ∀ k, D k → k < u.heap.size → w'.heap[k]? = u.heap[k]? := by
  obtain ⟨v, h4, h5, h6⟩ := padJ_at hI hg
  subst hn hcs
  have hs : Nums .u32 u (some ⟨gA, 0, none⟩) xs.length xs.length xs := by
    refine ⟨rfl, Nat.le_refl _, by omega, fun _ => ⟨gA, 0, rfl, fun i hi => ?_⟩⟩
    rw [hb.cell]
    simp [hi]
  refine (PFour_yes w.heap.size g v (ls s.length) _ _ _ xs u h5 hs hI.1 ?_ hbd hx).mono ?_
  · rintro i ⟨_, ad, e, rfl⟩ hf
    cases e
    exact h6 gA hD hf
  · rintro e w' ⟨v', rfl, hp, hk, hnw⟩
    exact ⟨_, rfl, padJ_step hu hI h4 h6 h5 hp hk hnw hls i⟩
/-- Bytes that were there ahead of the region. -/
theorem padJ_src {ls : Nat → List UInt8} {D : Nat → Prop} {s : List Value} {w u : World} {g : Nat} {A : Option Addr} {n c : Nat} (l : List UInt8) (hu : Kept Nil w u) (hI : padJ w.heap.size ls D s u) (hg : .pointer (some ⟨g, 0, none⟩) ∈ s) (hy : Byt w A n c l)
    (hls : ls (s.length + 1) = ls s.length ++ l) (hbd : (ls s.length).length + n ≤ 1099511627776) (i : Nat) :
    Calls Tryd.prog 47 #[.pointer (some ⟨g, 0, none⟩), .slice A n c] u fun e w' =>
      ∃ r, e = .returned r ∧ padP i r ∧ Kept Nil w w' ∧ padJ w.heap.size ls D (s ++ [r]) w' ∧ u.heap.size ≤ w'.heap.size ∧ ∀ k, D k → k < u.heap.size → w'.heap[k]? = u.heap[k]? := by
  obtain ⟨v, h4, h5, h6⟩ := padJ_at hI hg
  have hs := (hy.kept hu (fun _ _ hf => hf)).nums
  refine (PByte_yes w.heap.size g v (ls s.length) _ _ _ (l.map UInt8.toNat) u h5 hs hI.1 ?_ (by simpa using hbd) (fun x hx => by obtain ⟨y, _, rfl⟩ := List.mem_map.1 hx; exact y.toNat_lt)).mono ?_
  · intro i hi hf
    have := hy.lt i hi
    have := h5.foot_ge i hf
    omega
  · rintro e w' ⟨v', rfl, hp, hk, hnw⟩
    rw [beAll_bytes] at hp
    exact ⟨_, rfl, padJ_step hu hI h4 h6 h5 hp hk hnw hls i⟩
end Go.Proofs.YthjbabkmjmfmjaaDoor
/- The library's Grow of nothing and Concat, of bytes (parted off EthG). -/
namespace Go.Proofs.YthjbabkmjmfmjaaDoor
open Go.RowKit Go.Sort
set_option linter.unusedVariables false

set_option maxRecDepth 100000 in
theorem grow_b (n : Nat) (hn : n ≤ 140737488355328) (w : World) : Calls Tryd.prog 76 #[.slice none 0 0, .int .i64 (n : Int)] w fun e w' => ∃ v, e = .returned v ∧ w'.ownsRow w.heap.size 5 1 v 0 [] ∧ Kept Nil w w' := by
  obtain ⟨i0, hi, hz0, hz1, hz2⟩ := info_parts Tryd.infb
  by_cases h0 : n = 0
  · subst h0
    go_enter Tryd.func76, Tryd.ntmps76
    go_wp2
    go_ret
    exact ⟨_, rfl, World.ownsRow_nil _ _ _ _, Kept.refl _ _⟩
  · have hpos : (0 : Int) < (n : Int) := by omega
    have hrun := Lib.run_append_nil_zeros (P := Tryd.prog) w 22 3 22 5 i0 (.int .u8 0) .i64 .i64 Tryd.underlying22 Tryd.underlying3 hi hz0 n (by omega) (by omega) (by omega) (by rw [hz2]; omega)
    have hcap := grownCap_ge w n 0 5
    have hcm := grownCap_le_maxLen w n 0 5 (by unfold maxLen; omega)
    have hsz : (Builtin.zeroCells (Value.int .u8 0).cells n ++ Builtin.zeroCells (Value.int .u8 0).cells (grownCap w n 0 5 - n)).size = grownCap w n 0 5 := by
      rw [Array.size_append, size_zeroCells, size_zeroCells]; simp [Value.cells]; omega
    generalize (Builtin.zeroCells (Value.int .u8 0).cells n ++ Builtin.zeroCells (Value.int .u8 0).cells (grownCap w n 0 5 - n)) = Z at *
    generalize grownCap w n 0 5 = C at *
    have HR := Lib.hid hrun
    have HS := Lib.hid hsz
    have HM := Lib.hid hcm
    have hcm' : C ≤ 9223372036854775807 := by unfold maxLen at hcm; omega
    clear hrun hsz hcm hcap h0
    go_enter Tryd.func76, Tryd.ntmps76
    go_wp2_with (at_builtin; refine Lib.wpList_append_run _ rfl _ _ 22 3 rfl _ _ rfl rfl _ _ HR.out ?_)
    go_ret
    refine ⟨_, rfl, World.ownsRow_made w.drew Z C (by simp) HM.out (by rw [HS.out]; simp), ?_⟩
    exact ((Kept.refl Nil w).drew).alloc _
theorem own_block_ge' {w : World} {B e size n : Nat} {v : Value} {xs : List Value} (h : w.ownsRow B e size v n xs) : ∀ i, v.ownBlock = some i → B ≤ i := fun i hi => (h.lt i hi).1
theorem flat_take {α : Type} (ls : List (List α)) (k : Nat) (hk : k < ls.length) : (ls.take (k + 1)).flatten = (ls.take k).flatten ++ ls[k] := by
  rw [List.take_succ_eq_append_getElem hk, List.flatten_append, List.flatten_cons, List.flatten_nil, List.append_nil]
theorem flat_le {α : Type} (ls : List (List α)) (k : Nat) : (ls.take k).flatten.length ≤ ls.flatten.length := by
  have := congrArg List.length (congrArg List.flatten (List.take_append_drop k ls))
  rw [List.flatten_append, List.length_append] at this
  omega
set_option maxRecDepth 100000 in
set_option maxHeartbeats 2000000 in
theorem concat_b (g m : Nat) (T : TypeId) (vs : List Value) (ls : List (List UInt8)) (w : World) (hB : Blo w g T vs.toArray) (hv : vs.length = m) (hl : ls.length = m) (hm : m ≤ 1000)
    (h : ∀ i (h1 : i < vs.length) (h2 : i < ls.length), ∃ A n c, vs[i] = .slice A n c ∧ Byt w A n c ls[i]) (htot : ls.flatten.length ≤ 1099511627776) :
    Calls Tryd.prog 56 #[.slice (some ⟨g, 0, none⟩) m m] w fun e w' => ∃ v, e = .returned v ∧ Made w w' v ls.flatten := by
  obtain ⟨i0, hi, hz0, hz1, hz2⟩ := info_parts Tryd.infb
  have HB := Lib.hid hB
  have HV := Lib.hid hv
  have HL := Lib.hid hl
  have HH := Lib.hid h
  have HT := Lib.hid htot
  have cell : ∀ wr, Kept Nil w wr → ∀ k, k < m → ∃ A n c, wr.cell? ⟨g, k, none⟩ = some (.slice A n c) ∧ ∃ hk : k < ls.length, Byt wr A n c ls[k] := by
    intro wr hk k hkm
    obtain ⟨A, n, c, e1, e2⟩ := HH.out k (by rw [HV.out]; exact hkm) (by rw [HL.out]; exact hkm)
    have := HB.out.cell k
    rw [List.getElem?_toArray, List.getElem?_eq_getElem (by rw [HV.out]; exact hkm), e1] at this
    exact ⟨A, n, c, hk.cell this (fun hf => hf), by rw [HL.out]; exact hkm, e2.kept hk (fun _ _ hf => hf)⟩
  have HC := Lib.hid cell
  clear hB hv hl h htot cell
  go_enter Tryd.func56, Tryd.ntmps56
  go_wp2
  go_loopw [3, 11] (fun z i wr => ∃ k : Nat, k ≤ m ∧ i = .int .i64 (k : Int) ∧ z = .int .i64 ((ls.take k).flatten.length : Int) ∧ Kept Nil w wr) (fun _ i _ => m - (intOf i).toNat)
  case atStart => exact ⟨0, Nat.zero_le _, rfl, by simp, Kept.refl _ _⟩
  case round =>
    obtain ⟨k, hk, rfl, rfl, hkp⟩ := hrel
    by_cases hlt : k < m
    · obtain ⟨A, n, c, hc, hkl, hb⟩ := HC.out _ hkp k hlt
      have hn : ls[k].length = n := hb.1
      have hsum : ((ls.take (k + 1)).flatten.length : Int) = ((ls.take k).flatten.length : Int) + (n : Int) := by rw [flat_take ls k hkl, List.length_append, hn]; omega
      have hle := flat_le ls (k + 1)
      have hle2 := HT.out
      obtain ⟨s1, hs1⟩ : ∃ s : Nat, (ls.take (k + 1)).flatten.length = s := ⟨_, rfl⟩
      obtain ⟨s0, hs0⟩ : ∃ s : Nat, (ls.take k).flatten.length = s := ⟨_, rfl⟩
      rw [hs1] at hsum hle
      rw [hs0] at hsum ⊢
      have HK := Lib.hid hkp
      have HS1 := Lib.hid hs1
      have hb1 : s1 ≤ 1099511627776 := by omega
      have HSUM := Lib.hid hsum
      clear hkp hb hn hle hle2 hs1 hs0 hsum
      have hw : IntKind.wrap .i64 ((s0 : Int) + (n : Int)) = (s1 : Int) := by rw [← HSUM.out, IntKind.wrap_i64]; omega
      go_wp2
      go_roundw
      case rel => exact ⟨k + 1, by omega, by go_num, by rw [HS1.out], HK.out⟩
      case measure => simp [intOf]; omega
    · obtain rfl : k = m := by omega
      have e1 : ls.take k = ls := List.take_of_length_le (by rw [HL.out]; exact Nat.le_refl _)
      rw [e1]
      have HK := Lib.hid hkp
      have hbn : ls.flatten.length ≤ 140737488355328 := by have := HT.out; omega
      obtain ⟨s1, hs1⟩ : ∃ s : Nat, ls.flatten.length = s := ⟨_, rfl⟩
      rw [hs1] at hbn ⊢
      have HS1 := Lib.hid hs1
      clear hkp e1 hs1
      go_wp2_with fail
      refine (grow_b s1 hbn _).mono ?_
      rintro e w1 ⟨v, rfl, ho, hk1⟩
      have HO := Lib.hid (own_mono ho HK.out.size)
      have HK1 := Lib.hid (HK.out.then hk1)
      clear ho hk1
      go_wp2
      go_loopw [6, 27] (fun v i wr => ∃ j : Nat, j ≤ k ∧ i = .int .i64 (j : Int) ∧ wr.ownsRow w.heap.size 5 1 v (ls.take j).flatten.length (bys (ls.take j).flatten) ∧ Kept Nil w wr) (fun _ i _ => k - (intOf i).toNat)
      case atStart => exact ⟨0, Nat.zero_le _, rfl, HO.out, HK1.out⟩
      case round =>
        obtain ⟨j, hj, rfl, ho, hkp⟩ := hrel
        by_cases hlt : j < k
        · obtain ⟨A, n, c, hc, hkl, hb⟩ := HC.out _ hkp j hlt
          have hft := flat_take ls j hkl
          have hsum : (ls.take (j + 1)).flatten.length = (ls.take j).flatten.length + n := by rw [hft, List.length_append, hb.1]
          have hle := flat_le ls (j + 1)
          have hle2 := HT.out
          have hbd : (ls.take j).flatten.length + n ≤ 140737488355328 := by omega
          have HO2 := Lib.hid ho
          have HB2 := Lib.hid hb
          have HK2 := Lib.hid hkp
          have HF := Lib.hid hft
          have HSUM := Lib.hid hsum
          have HBD := Lib.hid hbd
          have hsz := hkp.size
          have HSZ := Lib.hid hsz
          obtain ⟨Aw, cw, rfl⟩ := own_form ho
          clear ho hb hkp hft hsum hle hle2 hbd hsz
          go_wp2_with (at_builtin; refine wpList_any rfl _ _ 22 rfl w.heap.size 5 i0 (.int .u8 0) Tryd.underlying22 hi hz0 hz1 hz2 rfl _ _ _ rfl HO2.out A n c _ rfl HB2.out HBD.out HSZ.out ?_; intro v' w2 hown' hgrow _)
          have hk2 : Kept Nil w w2 := HK2.out.grown hgrow (fun i hi hi' => absurd hi' (Nat.not_lt.2 (own_block_ge' HO2.out i hi)))
          rw [← bys_app, ← HF.out, ← HSUM.out] at hown'
          have HO3 := Lib.hid hown'
          have HK3 := Lib.hid hk2
          clear hown' hgrow hk2
          go_wp2
          go_roundw
          case rel => exact ⟨j + 1, by omega, by go_num, HO3.out, HK3.out⟩
          case measure => simp [intOf]; omega
        · obtain rfl : j = k := by omega
          have e1 : ls.take j = ls := List.take_of_length_le (by rw [HL.out]; exact Nat.le_refl _)
          rw [e1] at ho
          have HO2 := Lib.hid ho
          have HK2 := Lib.hid hkp
          clear ho hkp e1
          go_wp2
          go_ret
          exact ⟨_, rfl, HO2.out, HK2.out⟩
end Go.Proofs.YthjbabkmjmfmjaaDoor
